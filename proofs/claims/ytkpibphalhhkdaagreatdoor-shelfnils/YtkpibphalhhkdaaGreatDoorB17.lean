/- Of the proof: the texts ShRead, ShAliveM, ShOwn, ShAlive, one behind the other. -/
import Derived.Test.YtkpibphalhhkdaaGreatDoorB16
import Derived.Test.YtkpibphalhhkdaaGreatDoorB15
import Derived.Test.YtkpibphalhhkdaaGreatDoorB12
import Derived.Test.YtkpibphalhhkdaaGreatDoorB13
import Derived.Test.YtkpibphalhhkdaaGreatDoorB6
import Derived.Test.YtkpibphalhhkdaaGreatDoorB14
import Derived.Test.YtkpibphalhhkdaaGreatDoorB5
section
/-
  Read of a shelf.
-/
namespace Go.Proofs.YtkpibphalhhkdaaGreatDoor.Sh
open Go.RowKit Go.Shelf
open Tlv (BySlS)
open Sim (hid Kp No PS Blk nm finds pBytes)
set_option linter.unusedSimpArgs false

theorem exec_storeE {P : Program} {o : Oper} {a : Act} {w : World} (ty : TypeId) (x y : Operand) (ho : o.op = .store ty x y) (b off : Nat) (cells : Array Value) (hx : a.eval x = .pointer (some ⟨b, off, none⟩)) (hy : a.eval y = .agg cells)
    (ht : w.there b off cells.size) (hi : (P.info? ty).map (·.size) = some cells.size) (h1 : cells.all (·.oneCell') = true) : (execOp a.eval o).run P w = .ok .skip (w.setCells b off cells.toList) := by
  unfold execOp
  simp only [ho, hx, hy, Instr.storeAt, Instr.sureAddr, Sem.run_bind, Sem.run_pure, Result.andThen_ok, run_storeVar_mid w b off ty cells ht hi h1]
theorem wp_skipE {P : Program} {o : Oper} {a : Act} {K : Act → World → Prop} {Q : Exit → Act → World → Prop} {w w' : World} (hr : (execOp a.eval o).run P w = .ok .skip w') (h : K (a.put o.dst undef) w') : Oper.wp P o a w K Q := by
  unfold Oper.wp
  rw [hr]
  exact h
theorem kp_bel {L : Nat → Prop} {u v w : World} (h : Kp L u v) (k : Below u.heap.size v w) : Kp L u w :=
  ⟨k.os.trans h.os, k.tape.trans h.tape, k.output.trans h.output, Nat.le_trans h.size k.size, fun i h1 h2 => (k.block i h1).trans (h.block i h1 h2)⟩
theorem kp_set {L : Nat → Prop} {u v : World} (h : Kp L u v) {g : Nat} (hg : L g ∨ u.heap.size ≤ g) (o : Nat) (cs : List Value) : Kp L u (v.setCells g o cs) := by
  induction cs generalizing v o with
  | nil => exact h
  | cons c cs ih => rw [World.setCells]; exact ih (h.setCell (p := ⟨g, o, none⟩) hg c) _
theorem bySlS_kp {S S' L : Nat → Prop} {w w' : World} {v : Value} {xs : List Int} (h : BySlS S w v xs) (k : Kp L w w') (hS : ∀ g, S g → ¬ L g ∧ g < w.heap.size ∧ S' g) : BySlS S' w' v xs := h.agree (fun g hg => k.block g (hS g hg).2.1 (hS g hg).1) (fun g hg => (hS g hg).2.2)
/-- What Take finds is right. -/
theorem takeF_right {bs : List Int} (h : (takeF bs).1 = 0) : rightB (takeF bs).2.1.1 (takeF bs).2.1.2.2.length = true := by
  cases hr : Tlv.rd 8 bs with
  | none => rw [takeF_none hr] at h; simp [noRec] at h
  | some x =>
    obtain ⟨t, m⟩ := x
    rw [takeF_some hr] at h ⊢
    by_cases h1 : bs.length - m < 4
    · rw [if_pos h1] at h; simp [noRec] at h
    · rw [if_neg h1] at h ⊢
      by_cases h2 : sumI (bs.take m) ≠ (bs.drop m).take 4
      · rw [if_pos h2] at h; simp [noRec] at h
      · rw [if_neg h2] at h ⊢
        cases hq : recOf t with
        | none => rw [hq] at h; simp [noRec] at h
        | some r =>
          dsimp only
          unfold recOf at hq
          split at hq
          · split at hq
            · rename_i hc
              obtain ⟨_, _, _, _, _, g1, g2, g3⟩ := hc
              cases hq
              simp only [rightB, Bool.and_eq_true, decide_eq_true_eq]
              omega
            · simp at hq
          · simp at hq
theorem gspec_ok {F : Nat} {bs : List Int} {z : Int} {y : El} (h : GSpec F bs z y 0) : okR y = true := by
  rcases h with ⟨h1, h2, _⟩ | ⟨_, _, h2, _⟩ | ⟨_, _, _, _, _, h2, _⟩ | ⟨k, _, _, _, h0, _, hy⟩
  · exact absurd h2.symm h1
  · simp at h2
  · simp at h2
  · rw [okR, hy]; exact takeF_right h0
/-- What Read answers: the record y, the fault f. -/
def ReadA (F : Nat) (bs : List Int) (z ln : Int) (y : El) (f : Nat) : Prop :=
  (ln < 1 ∧ f = 1 ∧ y = zE) ∨ (1 ≤ ln ∧ ∃ y0 f0, GSpec F bs z y0 f0 ∧ ((f0 ≠ 0 ∧ f = f0 ∧ y = zE) ∨ (f0 = 0 ∧ ((49 + y0.1.2.2.length : Nat) : Int) ≠ ln ∧ f = 4 ∧ y = zE) ∨ (f0 = 0 ∧ ((49 + y0.1.2.2.length : Nat) : Int) = ln ∧ f = 0 ∧ y = y0)))

set_option maxHeartbeats 8000000 in
set_option maxRecDepth 100000 in
theorem read_any {P : Nat → Prop} {N : Nat} (w : World) (h s b : Nat) (n : Int) (p : PS) (i : Nat) (z ln : Int) (h1 : 1 ≤ i) (h2 : i < 100) (hH : ShAt w h s b n) (hS : Sim.Sys P N w s p) (hT : TabX w b) (hhb : h ≠ b) (hb : ∀ x ∈ pBytes (nm (nameP i)) p, x < 256) (hl : (pBytes (nm (nameP i)) p).length ≤ 20000000) :
    Calls Tryz.prog 11 #[.pointer (some ⟨h, 0, none⟩), .agg #[.int .i64 (i : Int), .int .i64 z, .int .i64 ln]] w fun e w' =>
      ∃ (y : El) (f : Nat), e = .returned (.tuple #[.agg (elC y).toArray, .int .i64 (f : Int)]) ∧ elOk y ∧ BySlS (fun g => w.heap.size ≤ g ∧ g < w'.heap.size) w' (elV y) y.1.2.2 ∧ ReadA (finds p (nm (nameP i))) (ints (pBytes (nm (nameP i)) p)) z ln y f ∧ Kp (fun x => x = b) w w' ∧ TabX w' b := by
  have hz0 := zero35
  have hb0 := build35z
  obtain ⟨Z, hZ⟩ : ∃ Z, zRec = Z := ⟨_, rfl⟩
  have HZ := hid hZ
  have HZL : Hid (Z.length = 34) := by rw [← hZ]; exact zRec_length
  rw [hZ] at hz0 hb0
  clear hZ
  have HI2 : Hid ((Tryz.prog.info? 43).map (·.size) = some Z.toArray.size) := by rw [← HZ.out]; exact Tryz.info35
  have H1 : Hid (Z.toArray.all (·.oneCell') = true) := by rw [← HZ.out]; exact all_oneCell_toArray zRec_one
  have hhl := hH.lt
  have hbl := hT.lt
  obtain ⟨W0, hW0⟩ : ∃ W0, (w.alloc (.cells #[.int .i64 (i : Int), .int .i64 z, .int .i64 ln] 47)).alloc (.cells Z.toArray 43) = W0 := ⟨_, rfl⟩
  have k0 : Kp No w W0 := by rw [← hW0]; exact ((Kp.refl No w).alloc _).alloc _
  have HS0 : Hid (W0.heap.size = w.heap.size + 2) := by rw [Hid, ← hW0]; simp
  have HB0 : Hid (Blk W0 w.heap.size 47 [.int .i64 (i : Int), .int .i64 z, .int .i64 ln]) := by rw [Hid, ← hW0]; exact (Blk.new w _ _).kp ((Kp.refl No _).alloc _) (fun x => x)
  have HR0 : Hid (Blk W0 (w.heap.size + 1) 43 Z) := by
    rw [Hid, ← hW0]
    have e : w.heap.size + 1 = (w.alloc (.cells #[.int .i64 (i : Int), .int .i64 z, .int .i64 ln] 47)).heap.size := by simp
    rw [e]
    exact Blk.new _ _ _
  have HX : Hid (∀ V, Kp (fun x => x = b) W0 V → V.cell? ⟨h, 0, none⟩ = some (.pointer (some ⟨s, 0, none⟩)) ∧ V.cell? ⟨h, 1, none⟩ = some (.pointer (some ⟨b, 0, none⟩)) ∧ V.cell? ⟨w.heap.size, 0, none⟩ = some (.int .i64 (i : Int)) ∧ V.cell? ⟨w.heap.size, 1, none⟩ = some (.int .i64 z) ∧ V.cell? ⟨w.heap.size, 2, none⟩ = some (.int .i64 ln)) := fun V k => by
    have a := (hH.kp k0 (fun x => x)).kp k hhb
    have c := HB0.out.kp k (by omega)
    exact ⟨a.cell 0, a.cell 1, c.cell 0, c.cell 1, c.cell 2⟩
  have HRT : Hid (∀ V, Kp (fun x => x = b) W0 V → World.there V (w.heap.size + 1) 0 Z.toArray.size) := fun V k => by
    have c := HR0.out.kp k (by omega)
    exact there_of_block c 0 _ (by simp)
  have HGET := hid (fun V (k : Kp No W0 V) => get_one V s b p i z h1 h2 ((hS.kept k0).kept k) ((hT.kp k0 (fun x => x)).kp k (fun x => x)) hb hl)
  have HK0 := hid k0
  have HBL : Hid (b < W0.heap.size) := by have := HS0.out; rw [Hid]; omega
  have HN := hid (fun V (k : Kp No W0 V) => none_any V h s b n ((hH.kp k0 (fun x => x)).kp k (fun x => x)))
  have HT0 : Hid (TabX W0 b) := hT.kp k0 (fun x => x)
  obtain ⟨F, hF⟩ : ∃ F, finds p (nm (nameP i)) = F := ⟨_, rfl⟩
  obtain ⟨Y, hY⟩ : ∃ Y, ints (pBytes (nm (nameP i)) p) = Y := ⟨_, rfl⟩
  simp only [hF, hY] at HGET ⊢
  have HIC : Hid ((Tryz.prog.info? 43).map (·.size) = some 34) := Tryz.info35
  have HTA : Hid (∀ V : World, World.there (V.alloc (.cells Z.toArray 43)) V.heap.size 0 34) := fun V => by have h := there_new V Z 43; rwa [HZL.out] at h
  have HTB : Hid (∀ V : World, Kp (fun x => x = b) (W0.drew.alloc (.cells Z.toArray 43)) V → World.there V W0.heap.size 0 34) := fun V k => by
    have c : Blk (W0.drew.alloc (.cells Z.toArray 43)) W0.heap.size 43 Z := Blk.new W0.drew _ _
    exact there_of_block (c.kp k (by have := HBL.out; omega)) 0 34 (by have := HZL.out; simp [this])
  have q9 := HX.out W0 (Kp.refl _ _)
  obtain ⟨_, _, _, _, q9⟩ := q9
  clear hF hY hH hS hT hb hl k0
  go_enter Tryz.func11, Tryz.ntmps11
  go_wp2_with fail
  refine (HN.out _ (Kp.refl _ _)).mono ?_
  rintro e w9 ⟨rfl, hw9⟩
  rw [hw9]
  clear hw9
  clear HN hW0
  by_cases hln : ln < 1
  · go_wp2_with (refine wpList_store_mid (by rfl) 43 _ _ (by rfl) (w.heap.size + 1) 0 Z.toArray (by rfl) (by rfl) (HRT.out _ (Kp.refl _ _)) HI2.out H1.out ?_)
    have HR : Hid (World.rangeAt (W0.setCells (w.heap.size + 1) 0 Z) (w.heap.size + 1) 0 Z) := World.rangeAt_setCells_same _ _ _ _ (HRT.out _ (Kp.refl _ _))
    have hB : Below w.heap.size W0 (W0.setCells (w.heap.size + 1) 0 Z) := setCells_below (by omega) _ _ _
    refine bodyPost_ret (v := .tuple #[.agg Z.toArray, .int .i64 1]) (results_cell_mid2 Tryz.results11 _ _ (w.heap.size + 1) 0 _ _ rfl HR.out Tryz.underlying43 rfl HI2.out) rfl ?_
    refine ⟨zE, 1, ?_, zE_ok, BySlS.none _ _, .inl ⟨hln, rfl, rfl⟩, ?_, ?_⟩
    · rw [zE_cells, HZ.out]; rfl
    · exact kp_bel HK0.out.ofNo hB
    · exact HT0.out.kp (kp_set (Kp.refl (fun x => x = w.heap.size + 1) W0) (Or.inl rfl) _ _) (by omega)
  · go_wp2_with fail
    refine wp_region_held_drew (S := fun V => Kp (fun x => x = b) W0 V) (by kernel_rfl) ((Kp.refl _ _).drew) (fun hHeld => ?_)
    refine wpAnyH_take (i := 0) (oi := { dst := some 16, op := Op.move (Operand.tmp 0), type := 25, pos := "shelf.go:66", after := #[], guard := none }) (v := .pointer (some ⟨h, 0, none⟩)) rfl (by kernel_rfl) (by kernel_rfl) (by kernel_rfl) (fun _ _ _ h => h) (Or.inl ⟨by rfl, fun w' hw' => by (clear hw'; go_simp)⟩) hHeld ?_
    simp only [Act.put, List.setIfInBounds_toArray, List.set_cons_zero, List.set_cons_succ]
    refine wpAnyH_take (i := 1) (oi := { dst := some 17, op := Op.nilCheck (Operand.tmp 16), type := 0, pos := "shelf.go:66", after := #[{ on := 0, ground := Ground.data }], guard := none }) (v := .pointer (some ⟨h, 0, none⟩)) rfl (by kernel_rfl) (by kernel_rfl) (by kernel_rfl) (fun _ _ _ h => h) (Or.inl ⟨by rfl, fun w' hw' => by (clear hw'; go_simp)⟩) hHeld ?_
    simp only [Act.put, List.setIfInBounds_toArray, List.set_cons_zero, List.set_cons_succ]
    refine wpAnyH_take (i := 2) (oi := { dst := some 18, op := Op.fieldAddr 73 (Operand.tmp 17) 0, type := 0, pos := "shelf.go:66", after := #[{ on := 1, ground := Ground.data }], guard := none }) (v := .pointer (some ⟨h, 0, none⟩)) rfl (by kernel_rfl) (by kernel_rfl) (by kernel_rfl) (fun _ _ _ h => h) (Or.inl ⟨by rfl, fun w' hw' => by (clear hw'; go_simp)⟩) hHeld ?_
    simp only [Act.put, List.setIfInBounds_toArray, List.set_cons_zero, List.set_cons_succ]
    refine wpAnyH_take (i := 3) (oi := { dst := some 19, op := Op.load 26 (Operand.tmp 18), type := 26, pos := "shelf.go:66", after := #[{ on := 2, ground := Ground.data }], guard := none }) (v := .pointer (some ⟨s, 0, none⟩)) rfl (by kernel_rfl) (by kernel_rfl) (by kernel_rfl) (fun _ _ _ h => h) (Or.inl ⟨by rfl, fun w' hw' => by (obtain ⟨q0, q1, q2, q3, q4⟩ := HX.out w' hw'; clear hw'; go_simp)⟩) hHeld ?_
    simp only [Act.put, List.setIfInBounds_toArray, List.set_cons_zero, List.set_cons_succ]
    refine wpAnyH_take (i := 4) (oi := { dst := some 20, op := Op.move (Operand.tmp 0), type := 25, pos := "shelf.go:66", after := #[], guard := none }) (v := .pointer (some ⟨h, 0, none⟩)) rfl (by kernel_rfl) (by kernel_rfl) (by kernel_rfl) (fun _ _ _ h => h) (Or.inl ⟨by rfl, fun w' hw' => by (clear hw'; go_simp)⟩) hHeld ?_
    simp only [Act.put, List.setIfInBounds_toArray, List.set_cons_zero, List.set_cons_succ]
    refine wpAnyH_take (i := 5) (oi := { dst := some 21, op := Op.nilCheck (Operand.tmp 20), type := 0, pos := "shelf.go:66", after := #[{ on := 4, ground := Ground.data }], guard := none }) (v := .pointer (some ⟨h, 0, none⟩)) rfl (by kernel_rfl) (by kernel_rfl) (by kernel_rfl) (fun _ _ _ h => h) (Or.inl ⟨by rfl, fun w' hw' => by (clear hw'; go_simp)⟩) hHeld ?_
    simp only [Act.put, List.setIfInBounds_toArray, List.set_cons_zero, List.set_cons_succ]
    refine wpAnyH_take (i := 6) (oi := { dst := some 22, op := Op.fieldAddr 73 (Operand.tmp 21) 1, type := 0, pos := "shelf.go:66", after := #[{ on := 5, ground := Ground.data }], guard := none }) (v := .pointer (some ⟨h, 1, none⟩)) rfl (by kernel_rfl) (by kernel_rfl) (by kernel_rfl) (fun _ _ _ h => h) (Or.inl ⟨by rfl, fun w' hw' => by (clear hw'; go_simp)⟩) hHeld ?_
    simp only [Act.put, List.setIfInBounds_toArray, List.set_cons_zero, List.set_cons_succ]
    refine wpAnyH_take (i := 7) (oi := { dst := some 23, op := Op.load 32 (Operand.tmp 22), type := 32, pos := "shelf.go:66", after := #[{ on := 6, ground := Ground.data }], guard := none }) (v := .pointer (some ⟨b, 0, none⟩)) rfl (by kernel_rfl) (by kernel_rfl) (by kernel_rfl) (fun _ _ _ h => h) (Or.inl ⟨by rfl, fun w' hw' => by (obtain ⟨q0, q1, q2, q3, q4⟩ := HX.out w' hw'; clear hw'; go_simp)⟩) hHeld ?_
    simp only [Act.put, List.setIfInBounds_toArray, List.set_cons_zero, List.set_cons_succ]
    refine wpAnyH_take (i := 8) (oi := { dst := some 24, op := Op.fieldAddr 47 (Operand.tmp 3) 0, type := 0, pos := "shelf.go:66", after := #[], guard := none }) (v := .pointer (some ⟨w.heap.size, 0, none⟩)) rfl (by kernel_rfl) (by kernel_rfl) (by kernel_rfl) (fun _ _ _ h => h) (Or.inl ⟨by rfl, fun w' hw' => by (clear hw'; go_simp)⟩) hHeld ?_
    simp only [Act.put, List.setIfInBounds_toArray, List.set_cons_zero, List.set_cons_succ]
    refine wpAnyH_take (i := 9) (oi := { dst := some 25, op := Op.load 3 (Operand.tmp 24), type := 3, pos := "shelf.go:66", after := #[{ on := 8, ground := Ground.data }], guard := none }) (v := .int .i64 (i : Int)) rfl (by kernel_rfl) (by kernel_rfl) (by kernel_rfl) (fun _ _ _ h => h) (Or.inl ⟨by rfl, fun w' hw' => by (obtain ⟨q0, q1, q2, q3, q4⟩ := HX.out w' hw'; clear hw'; go_simp)⟩) hHeld ?_
    simp only [Act.put, List.setIfInBounds_toArray, List.set_cons_zero, List.set_cons_succ]
    refine wpAnyH_take (i := 10) (oi := { dst := some 26, op := Op.fieldAddr 47 (Operand.tmp 3) 1, type := 0, pos := "shelf.go:66", after := #[], guard := none }) (v := .pointer (some ⟨w.heap.size, 1, none⟩)) rfl (by kernel_rfl) (by kernel_rfl) (by kernel_rfl) (fun _ _ _ h => h) (Or.inl ⟨by rfl, fun w' hw' => by (clear hw'; go_simp)⟩) hHeld ?_
    simp only [Act.put, List.setIfInBounds_toArray, List.set_cons_zero, List.set_cons_succ]
    refine wpAnyH_take (i := 11) (oi := { dst := some 27, op := Op.load 3 (Operand.tmp 26), type := 3, pos := "shelf.go:66", after := #[{ on := 10, ground := Ground.data }], guard := none }) (v := .int .i64 z) rfl (by kernel_rfl) (by kernel_rfl) (by kernel_rfl) (fun _ _ _ h => h) (Or.inl ⟨by rfl, fun w' hw' => by (obtain ⟨q0, q1, q2, q3, q4⟩ := HX.out w' hw'; clear hw'; go_simp)⟩) hHeld ?_
    simp only [Act.put, List.setIfInBounds_toArray, List.set_cons_zero, List.set_cons_succ]
    refine wpAnyH_ready (rs := [12, 16]) (by kernel_rfl) (by simp) ?_
    refine (AllReadyH.cons (o := { dst := some 28, op := Op.call { callee := Callee.value (Operand.func 25), args := #[Operand.tmp 19, Operand.tmp 23, Operand.tmp 25, Operand.tmp 27], argTypes := #[26, 32, 3, 3] }, type := 44, pos := "shelf.go:66", after := #[{ on := 3, ground := Ground.data }, { on := 7, ground := Ground.data }, { on := 9, ground := Ground.data }, { on := 11, ground := Ground.data }], guard := none }) rfl (fun K hK => ?_) (AllReadyH.cons (o := { dst := some 6, op := Op.alloc 43, type := 0, pos := "shelf.go:66", after := #[], guard := none }) rfl (fun K hK => ?_) AllReadyH.nil))
    · go_simp
      refine (HGET.out (W0.drew) ((Kp.refl No W0).drew)).mono ?_
      rintro e w1 ⟨y, f, rfl, hyo, hyb, hsp, hk, ht⟩
      have HK1 : Hid (Kp (fun x => x = b) W0 w1) := ((Kp.refl (fun x => x = b) W0).drew).trans (kp_kept hk) (fun x hx => .inl hx)
      have HKV : Hid (Kp (fun x => x = b) (W0.drew) w1) := kp_kept hk
      have HY := hid (And.intro hyo (And.intro hsp ht))
      have HYB : Hid (BySlS (fun g => (W0.drew).heap.size ≤ g ∧ g < w1.heap.size) w1 (elV y) y.1.2.2) := hyb
      have HV1 : Hid ((W0.drew).heap.size ≤ w1.heap.size) := HKV.out.size
      have HCL : Hid ((elC y).length = 34) := elC_length hyo
      have HC1 : Hid ((elC y).toArray.all (·.oneCell') = true) := all_oneCell_toArray (elC_one y)
      obtain ⟨cy, hcy⟩ : ∃ cy, elC y = cy := ⟨_, rfl⟩
      have HCY := hid hcy
      rw [hcy] at HCL HC1
      have HICL : Hid ((Tryz.prog.info? 43).map (·.size) = some cy.length) := by rw [Hid, HCL.out]; exact HIC.out
      have HICA : Hid ((Tryz.prog.info? 43).map (·.size) = some cy.toArray.size) := HICL.out
      rw [hcy]
      clear hcy hyo hyb hsp hk ht HGET
      go_wp2_with fail
      refine hK.out _ _ (HK1.out) (fun hh => ?_)
      clear hK K hHeld
      have hHeld := hh
      clear hh
      try simp only [Act.put, List.setIfInBounds_toArray, List.set_cons_zero, List.set_cons_succ]
      refine wpAnyH_take (i := 13) (oi := { dst := some 15, op := Op.move (Operand.tmp 28), type := 44, pos := "shelf.go:66", after := #[{ on := 12, ground := Ground.data }], guard := none }) (v := .tuple #[.agg cy.toArray, .int .i64 (f : Int)]) rfl (by kernel_rfl) (by kernel_rfl) (by kernel_rfl) (fun _ _ _ h => h) (Or.inl ⟨by rfl, fun w' hw' => by (clear hw'; go_simp)⟩) hHeld ?_
      simp only [Act.put, List.setIfInBounds_toArray, List.set_cons_zero, List.set_cons_succ]
      refine wpAnyH_take (i := 14) (oi := { dst := some 29, op := Op.extract (Operand.tmp 15) 0, type := 43, pos := "shelf.go:66", after := #[{ on := 13, ground := Ground.data }], guard := none }) (v := .agg cy.toArray) rfl (by kernel_rfl) (by kernel_rfl) (by kernel_rfl) (fun _ _ _ h => h) (Or.inl ⟨by rfl, fun w' hw' => by (clear hw'; go_simp)⟩) hHeld ?_
      simp only [Act.put, List.setIfInBounds_toArray, List.set_cons_zero, List.set_cons_succ]
      refine wpAnyH_take (i := 15) (oi := { dst := some 30, op := Op.extract (Operand.tmp 15) 1, type := 27, pos := "shelf.go:66", after := #[{ on := 13, ground := Ground.data }, { on := 17, ground := Ground.gcOnly Departure.lateStores }], guard := none }) (v := .int .i64 (f : Int)) rfl (by kernel_rfl) (by kernel_rfl) (by kernel_rfl) (fun _ _ _ h => h) (Or.inl ⟨by rfl, fun w' hw' => by (clear hw'; go_simp)⟩) hHeld ?_
      simp only [Act.put, List.setIfInBounds_toArray, List.set_cons_zero, List.set_cons_succ]
      refine wpAnyH_ready (rs := [16]) (by kernel_rfl) (by simp) ?_
      refine (AllReadyH.cons (o := { dst := some 6, op := Op.alloc 43, type := 0, pos := "shelf.go:66", after := #[], guard := none }) rfl (fun K hK => ?_) AllReadyH.nil)
      go_simp
      refine hK.out _ _ (HK1.out.alloc _) (fun hh => ?_)
      clear hK K hHeld
      have hHeld := hh
      clear hh
      try simp only [Act.put, List.setIfInBounds_toArray, List.set_cons_zero, List.set_cons_succ]
      refine wpAnyH_ready (rs := [17]) (by kernel_rfl) (by simp) ?_
      refine (AllReadyH.cons (o := { dst := none, op := Op.store 43 (Operand.tmp 6) (Operand.tmp 29), type := 0, pos := "shelf.go:66", after := #[{ on := 16, ground := Ground.data }, { on := 14, ground := Ground.data }, { on := 12, ground := Ground.chain }, { on := 0, ground := Ground.phase }, { on := 1, ground := Ground.phase }, { on := 2, ground := Ground.phase }, { on := 3, ground := Ground.phase }, { on := 4, ground := Ground.phase }, { on := 5, ground := Ground.phase }, { on := 6, ground := Ground.phase }, { on := 7, ground := Ground.phase }, { on := 8, ground := Ground.phase }, { on := 9, ground := Ground.phase }, { on := 10, ground := Ground.phase }, { on := 11, ground := Ground.phase }, { on := 12, ground := Ground.phase }, { on := 13, ground := Ground.phase }, { on := 14, ground := Ground.phase }, { on := 15, ground := Ground.textOnly Departure.lateStores }, { on := 16, ground := Ground.phase }], guard := none }) rfl (fun K hK => ?_) AllReadyH.nil)
      refine wp_skipE (exec_storeE 43 _ _ rfl (w1.heap.size) 0 cy.toArray rfl rfl (by show World.there _ _ _ cy.length; rw [HCL.out]; exact HTA.out w1) HICA.out HC1.out) ?_
      try simp only [Act.put, List.setIfInBounds_toArray, List.set_cons_zero, List.set_cons_succ]
      refine hK.out _ _ (kp_set (HK1.out.alloc _) (Or.inr (by have a1 := HK1.out.size; have a2 := HBL.out; have a3 := HV1.out; first | omega | (simp at *; omega))) _ _) (fun hh => ?_)
      clear hK K hHeld
      have hHeld := hh
      clear hh
      try simp only [Act.put, List.setIfInBounds_toArray, List.set_cons_zero, List.set_cons_succ]
      refine wpAnyH_take (i := 18) (oi := { dst := some 7, op := Op.assign (Operand.tmp 30), type := 27, pos := "shelf.go:66", after := #[{ on := 15, ground := Ground.data }, { on := 17, ground := Ground.chain }, { on := 0, ground := Ground.phase }, { on := 1, ground := Ground.phase }, { on := 2, ground := Ground.phase }, { on := 3, ground := Ground.phase }, { on := 4, ground := Ground.phase }, { on := 5, ground := Ground.phase }, { on := 6, ground := Ground.phase }, { on := 7, ground := Ground.phase }, { on := 8, ground := Ground.phase }, { on := 9, ground := Ground.phase }, { on := 10, ground := Ground.phase }, { on := 11, ground := Ground.phase }, { on := 12, ground := Ground.phase }, { on := 13, ground := Ground.phase }, { on := 14, ground := Ground.phase }, { on := 15, ground := Ground.phase }, { on := 16, ground := Ground.phase }, { on := 17, ground := Ground.phase }], guard := none }) (v := .int .i64 (f : Int)) rfl (by kernel_rfl) (by kernel_rfl) (by kernel_rfl) (fun _ _ _ h => h) (Or.inl ⟨by rfl, fun w' hw' => by (clear hw'; go_simp)⟩) hHeld ?_
      simp only [Act.put, List.setIfInBounds_toArray, List.set_cons_zero, List.set_cons_succ]
      refine wpAnyH_done (by kernel_rfl) ?_ _
      clear hHeld
      have HK5 : Hid (Kp (fun x => x = b) W0 ((w1.alloc (.cells Z.toArray 43)).setCells (w1.heap.size) 0 cy)) := kp_set (HK1.out.alloc _) (Or.inr (by have a1 := HK1.out.size; have a2 := HBL.out; have a3 := HV1.out; first | omega | (simp at *; omega))) _ _
      have HR5 : Hid (((w1.alloc (.cells Z.toArray 43)).setCells (w1.heap.size) 0 cy).rangeAt (w1.heap.size) 0 cy) := World.rangeAt_setCells_same _ _ _ _ (by rw [HCL.out]; exact HTA.out w1)
      have HG5 : Hid (Kp (fun x => x = w1.heap.size) w1 ((w1.alloc (.cells Z.toArray 43)).setCells (w1.heap.size) 0 cy)) := kp_set ((Kp.refl (fun x => x = w1.heap.size) w1).alloc _) (Or.inl rfl) _ _
      have HT5 : Hid (TabX ((w1.alloc (.cells Z.toArray 43)).setCells (w1.heap.size) 0 cy) b) := HY.out.2.2.kp HG5.out (by have a1 := HK1.out.size; have a2 := HBL.out; have a3 := HV1.out; first | omega | (simp at *; omega))
      have HYB5 : Hid (BySlS (fun x => W0.heap.size ≤ x ∧ x < ((w1.alloc (.cells Z.toArray 43)).setCells (w1.heap.size) 0 cy).heap.size) ((w1.alloc (.cells Z.toArray 43)).setCells (w1.heap.size) 0 cy) (elV y) y.1.2.2) := bySlS_kp HYB.out HG5.out (fun x hx => by have := HG5.out.size; have a1 := HK1.out.size; have a2 := HBL.out; have a3 := HV1.out; first | omega | (simp at *; omega))
      have HG6 : Hid (W0.heap.size ≤ w1.heap.size ∧ w1.heap.size < ((w1.alloc (.cells Z.toArray 43)).setCells (w1.heap.size) 0 cy).heap.size) := by have := HG5.out.size; have a1 := HK1.out.size; have a2 := HBL.out; have a3 := HV1.out; rw [Hid, setCells_size]; first | omega | (simp at *; omega)
      clear HYB HG5 HV1 HKV HK1
      generalize (w1.alloc (.cells Z.toArray 43)).setCells (w1.heap.size) 0 cy = V5 at *
      obtain ⟨g6, hg6⟩ : ∃ x, x = w1.heap.size := ⟨_, rfl⟩
      rw [← hg6] at HR5 ⊢
      have HG7 : Hid (W0.heap.size ≤ g6 ∧ g6 < V5.heap.size) := by rw [hg6]; exact HG6.out
      clear HG6 hg6
      have HG6 := hid HG7.out
      clear HG7
      have HICL : Hid ((Tryz.prog.info? 43).map (·.size) = some cy.length) := by rw [Hid, HCL.out]; exact HIC.out
      have HICA : Hid ((Tryz.prog.info? 43).map (·.size) = some cy.toArray.size) := HICL.out
      have HZ2 : Hid (Z.toArray.size = 34) := HZL.out
      by_cases hf : f = 0
      · subst hf
        have HOK := hid (gspec_ok HY.out.2.1)
        have HSZ := hid (fun V (k : Kp No V5 V) => size_any y V HY.out.1 ((bySlS_kp HYB5.out k (S' := fun x => x < V.heap.size) (fun g hg => ⟨fun x => x, hg.2, Nat.lt_of_lt_of_le hg.2 k.size⟩)).to (fun g hg => hg)) HOK.out)
        rw [HCY.out] at HSZ
        have HQ5 : Hid (∀ V, Kp No V5 V → V.cell? ⟨w.heap.size, 2, none⟩ = some (.int .i64 ln)) := fun V k => (HX.out V (HK5.out.andNone k)).2.2.2.2
        obtain ⟨t, ht⟩ : ∃ t : Nat, 49 + y.1.2.2.length = t := ⟨_, rfl⟩
        have HTT := hid ht
        rw [ht] at HSZ
        clear ht
        by_cases hlt : (t : Int) = ln
        · have HLT := hid hlt
          go_wp2_with fail
          refine wp_region_held_drew (S := fun V => Kp No V5 V) (by kernel_rfl) ((Kp.refl _ _).drew) (fun hHeld => ?_)
          refine wpAnyH_take (i := 2) (oi := { dst := some 37, op := Op.fieldAddr 47 (Operand.tmp 3) 2, type := 0, pos := "shelf.go:70", after := #[], guard := none }) (v := .pointer (some ⟨w.heap.size, 2, none⟩)) rfl (by kernel_rfl) (by kernel_rfl) (by kernel_rfl) (fun _ _ _ h => h) (Or.inl ⟨by rfl, fun w' hw' => by (clear hw'; go_simp)⟩) hHeld ?_
          simp only [Act.put, List.setIfInBounds_toArray, List.set_cons_zero, List.set_cons_succ]
          refine wpAnyH_take (i := 0) (oi := { dst := some 35, op := Op.load 43 (Operand.tmp 6), type := 43, pos := "shelf.go:70", after := #[], guard := none }) (v := .agg cy.toArray) rfl (by kernel_rfl) (by kernel_rfl) (by kernel_rfl) (fun _ _ _ h => h) (yieldsIf_load_mid (by rfl) _ _ rfl g6 0 rfl cy _ (fun V hV => rangeAt_below HR5.out hV.toBelow' HG6.out.2) Tryz.underlying43 rfl HICL.out) hHeld ?_
          simp only [Act.put, List.setIfInBounds_toArray, List.set_cons_zero, List.set_cons_succ]
          refine wpAnyH_take (i := 3) (oi := { dst := some 38, op := Op.load 3 (Operand.tmp 37), type := 3, pos := "shelf.go:70", after := #[{ on := 2, ground := Ground.data }], guard := none }) (v := .int .i64 ln) rfl (by kernel_rfl) (by kernel_rfl) (by kernel_rfl) (fun _ _ _ h => h) (Or.inl ⟨by rfl, fun w' hw' => by (have q0 := HQ5.out w' hw'; clear hw'; go_simp)⟩) hHeld ?_
          simp only [Act.put, List.setIfInBounds_toArray, List.set_cons_zero, List.set_cons_succ]
          refine wpAnyH_ready (rs := [1]) (by kernel_rfl) (by simp) ?_
          refine (AllReadyH.cons (o := { dst := some 36, op := Op.call { callee := Callee.value (Operand.func 26), args := #[Operand.tmp 35], argTypes := #[43] }, type := 3, pos := "shelf.go:70", after := #[{ on := 0, ground := Ground.data }], guard := none }) rfl (fun K hK => ?_) AllReadyH.nil)
          go_simp
          refine (HSZ.out _ ((Kp.refl _ _).drew)).mono ?_
          rintro e w8 ⟨rfl, hb8⟩
          have HK8 : Hid (Kp No V5 w8) := kp_bel ((Kp.refl No V5).drew) hb8
          clear hb8
          go_wp2_with fail
          refine hK.out _ _ (HK8.out) (fun hh => ?_)
          clear hK K hHeld
          have hHeld := hh
          clear hh
          try simp only [Act.put, List.setIfInBounds_toArray, List.set_cons_zero, List.set_cons_succ]
          refine wpAnyH_take (i := 4) (oi := { dst := some 39, op := Op.binOp BinOp.neq 3 (Operand.tmp 36) (Operand.tmp 38) 3, type := 4, pos := "shelf.go:70", after := #[{ on := 1, ground := Ground.data }, { on := 3, ground := Ground.data }], guard := none }) (v := .bool false) rfl (by kernel_rfl) (by kernel_rfl) (by kernel_rfl) (fun _ _ _ h => h) (Or.inl ⟨by rfl, fun w' hw' => by (clear hw'; go_simp)⟩) hHeld ?_
          simp only [Act.put, List.setIfInBounds_toArray, List.set_cons_zero, List.set_cons_succ]
          refine wpAnyH_done (by kernel_rfl) ?_ _
          clear hHeld
          have HR8 : Hid (w8.rangeAt g6 0 cy) := rangeAt_below HR5.out HK8.out.toBelow' HG6.out.2
          clear hlt
          go_wp2_with (first | (refine wpList_load_mid (by rfl) 43 _ (by rfl) g6 0 (by rfl) cy _ HR8.out Tryz.underlying43 rfl HICL.out ?_) | (refine wpList_store_mid (by rfl) 43 _ _ (by rfl) (w.heap.size + 1) 0 cy.toArray (by rfl) (by rfl) (by have h := HRT.out _ (HK5.out.andNone HK8.out); rw [HZ2.out] at h; show World.there _ _ _ cy.length; rw [HCL.out]; exact h) HICA.out HC1.out ?_))
          have HR : Hid (World.rangeAt ((w8).setCells (w.heap.size + 1) 0 cy) (w.heap.size + 1) 0 cy) := World.rangeAt_setCells_same _ _ _ _ (by rw [HCL.out]; have h := HRT.out _ (HK5.out.andNone HK8.out); rwa [HZ2.out] at h)
          refine bodyPost_ret (v := .tuple #[.agg cy.toArray, .int .i64 0]) (results_cell_mid2 Tryz.results11 _ _ (w.heap.size + 1) 0 _ _ rfl HR.out Tryz.underlying43 rfl HICL.out) rfl ?_
          have hk9 : Kp (fun x => x = b) w ((w8).setCells (w.heap.size + 1) 0 cy) := kp_set (HK0.out.ofNo.trans (HK5.out.andNone HK8.out) (fun x hx => .inl hx)) (Or.inr (by omega)) _ _
          have ht9 : TabX ((w8).setCells (w.heap.size + 1) 0 cy) b := (HT5.out.kp (HK8.out) (fun x => x)).kp (kp_set (Kp.refl (fun x => x = w.heap.size + 1) _) (Or.inl rfl) _ _) (by omega)
          refine ⟨y, _, ?_, HY.out.1, ?_, .inr ⟨by omega, y, _, HY.out.2.1, .inr (.inr ⟨rfl, by rw [HTT.out]; exact HLT.out, rfl, rfl⟩)⟩, hk9, ht9⟩
          · (rw [HCY.out]) <;> rfl
          · refine bySlS_kp (L := fun x => x = w.heap.size + 1) HYB5.out ((Kp.below HK8.out.toBelow').trans (kp_set (Kp.refl (fun x => x = w.heap.size + 1) _) (Or.inl rfl) _ _) (fun x hx => .inl hx)) (fun g hg => ?_); have := HS0.out; have := HK8.out.size; rw [setCells_size]; omega
        · have HLT := hid hlt
          go_wp2_with fail
          refine wp_region_held_drew (S := fun V => Kp No V5 V) (by kernel_rfl) ((Kp.refl _ _).drew) (fun hHeld => ?_)
          refine wpAnyH_take (i := 2) (oi := { dst := some 37, op := Op.fieldAddr 47 (Operand.tmp 3) 2, type := 0, pos := "shelf.go:70", after := #[], guard := none }) (v := .pointer (some ⟨w.heap.size, 2, none⟩)) rfl (by kernel_rfl) (by kernel_rfl) (by kernel_rfl) (fun _ _ _ h => h) (Or.inl ⟨by rfl, fun w' hw' => by (clear hw'; go_simp)⟩) hHeld ?_
          simp only [Act.put, List.setIfInBounds_toArray, List.set_cons_zero, List.set_cons_succ]
          refine wpAnyH_take (i := 0) (oi := { dst := some 35, op := Op.load 43 (Operand.tmp 6), type := 43, pos := "shelf.go:70", after := #[], guard := none }) (v := .agg cy.toArray) rfl (by kernel_rfl) (by kernel_rfl) (by kernel_rfl) (fun _ _ _ h => h) (yieldsIf_load_mid (by rfl) _ _ rfl g6 0 rfl cy _ (fun V hV => rangeAt_below HR5.out hV.toBelow' HG6.out.2) Tryz.underlying43 rfl HICL.out) hHeld ?_
          simp only [Act.put, List.setIfInBounds_toArray, List.set_cons_zero, List.set_cons_succ]
          refine wpAnyH_take (i := 3) (oi := { dst := some 38, op := Op.load 3 (Operand.tmp 37), type := 3, pos := "shelf.go:70", after := #[{ on := 2, ground := Ground.data }], guard := none }) (v := .int .i64 ln) rfl (by kernel_rfl) (by kernel_rfl) (by kernel_rfl) (fun _ _ _ h => h) (Or.inl ⟨by rfl, fun w' hw' => by (have q0 := HQ5.out w' hw'; clear hw'; go_simp)⟩) hHeld ?_
          simp only [Act.put, List.setIfInBounds_toArray, List.set_cons_zero, List.set_cons_succ]
          refine wpAnyH_ready (rs := [1]) (by kernel_rfl) (by simp) ?_
          refine (AllReadyH.cons (o := { dst := some 36, op := Op.call { callee := Callee.value (Operand.func 26), args := #[Operand.tmp 35], argTypes := #[43] }, type := 3, pos := "shelf.go:70", after := #[{ on := 0, ground := Ground.data }], guard := none }) rfl (fun K hK => ?_) AllReadyH.nil)
          go_simp
          refine (HSZ.out _ ((Kp.refl _ _).drew)).mono ?_
          rintro e w8 ⟨rfl, hb8⟩
          have HK8 : Hid (Kp No V5 w8) := kp_bel ((Kp.refl No V5).drew) hb8
          clear hb8
          go_wp2_with fail
          refine hK.out _ _ (HK8.out) (fun hh => ?_)
          clear hK K hHeld
          have hHeld := hh
          clear hh
          try simp only [Act.put, List.setIfInBounds_toArray, List.set_cons_zero, List.set_cons_succ]
          refine wpAnyH_take (i := 4) (oi := { dst := some 39, op := Op.binOp BinOp.neq 3 (Operand.tmp 36) (Operand.tmp 38) 3, type := 4, pos := "shelf.go:70", after := #[{ on := 1, ground := Ground.data }, { on := 3, ground := Ground.data }], guard := none }) (v := .bool true) rfl (by kernel_rfl) (by kernel_rfl) (by kernel_rfl) (fun _ _ _ h => h) (Or.inl ⟨by rfl, fun w' hw' => by (clear hw'; go_simp)⟩) hHeld ?_
          simp only [Act.put, List.setIfInBounds_toArray, List.set_cons_zero, List.set_cons_succ]
          refine wpAnyH_done (by kernel_rfl) ?_ _
          clear hHeld
          clear hlt
          go_wp2_with (refine wpList_store_mid (by rfl) 43 _ _ (by rfl) (w.heap.size + 1) 0 Z.toArray (by rfl) (by rfl) (HRT.out _ (HK5.out.andNone HK8.out)) HI2.out H1.out ?_)
          have HR : Hid (World.rangeAt ((w8).setCells (w.heap.size + 1) 0 Z) (w.heap.size + 1) 0 Z) := World.rangeAt_setCells_same _ _ _ _ (HRT.out _ (HK5.out.andNone HK8.out))
          refine bodyPost_ret (v := .tuple #[.agg Z.toArray, .int .i64 4]) (results_cell_mid2 Tryz.results11 _ _ (w.heap.size + 1) 0 _ _ rfl HR.out Tryz.underlying43 rfl HI2.out) rfl ?_
          have hk9 : Kp (fun x => x = b) w ((w8).setCells (w.heap.size + 1) 0 Z) := kp_set (HK0.out.ofNo.trans (HK5.out.andNone HK8.out) (fun x hx => .inl hx)) (Or.inr (by omega)) _ _
          have ht9 : TabX ((w8).setCells (w.heap.size + 1) 0 Z) b := (HT5.out.kp (HK8.out) (fun x => x)).kp (kp_set (Kp.refl (fun x => x = w.heap.size + 1) _) (Or.inl rfl) _ _) (by omega)
          refine ⟨zE, _, ?_, zE_ok, ?_, .inr ⟨by omega, y, _, HY.out.2.1, .inr (.inl ⟨rfl, by rw [HTT.out]; exact HLT.out, rfl, rfl⟩)⟩, hk9, ht9⟩
          · (rw [zE_cells, HZ.out]) <;> rfl
          · exact BySlS.none _ _
      · have hfI : ¬ ((f : Int) = 0) := by omega
        have HF := hid hf
        clear hf
        go_wp2_with (refine wpList_store_mid (by rfl) 43 _ _ (by rfl) (w.heap.size + 1) 0 Z.toArray (by rfl) (by rfl) (HRT.out _ HK5.out) HI2.out H1.out ?_)
        have HR : Hid (World.rangeAt ((V5).setCells (w.heap.size + 1) 0 Z) (w.heap.size + 1) 0 Z) := World.rangeAt_setCells_same _ _ _ _ (HRT.out _ (HK5.out))
        refine bodyPost_ret (v := .tuple #[.agg Z.toArray, .int .i64 (f : Int)]) (results_cell_mid2 Tryz.results11 _ _ (w.heap.size + 1) 0 _ _ rfl HR.out Tryz.underlying43 rfl HI2.out) rfl ?_
        have hk9 : Kp (fun x => x = b) w ((V5).setCells (w.heap.size + 1) 0 Z) := kp_set (HK0.out.ofNo.trans (HK5.out) (fun x hx => .inl hx)) (Or.inr (by omega)) _ _
        have ht9 : TabX ((V5).setCells (w.heap.size + 1) 0 Z) b := (HT5.out.kp (Kp.refl No V5) (fun x => x)).kp (kp_set (Kp.refl (fun x => x = w.heap.size + 1) _) (Or.inl rfl) _ _) (by omega)
        refine ⟨zE, _, ?_, zE_ok, ?_, .inr ⟨by omega, y, _, HY.out.2.1, .inl ⟨HF.out, rfl, rfl⟩⟩, hk9, ht9⟩
        · (rw [zE_cells, HZ.out]) <;> rfl
        · exact BySlS.none _ _
    · go_simp
      refine hK.out _ _ (((Kp.refl (fun x => x = b) W0).drew).alloc _) (fun hh => ?_)
      clear hK K hHeld
      have hHeld := hh
      clear hh
      try simp only [Act.put, List.setIfInBounds_toArray, List.set_cons_zero, List.set_cons_succ]
      refine wpAnyH_ready (rs := [12]) (by kernel_rfl) (by simp) ?_
      refine (AllReadyH.cons (o := { dst := some 28, op := Op.call { callee := Callee.value (Operand.func 25), args := #[Operand.tmp 19, Operand.tmp 23, Operand.tmp 25, Operand.tmp 27], argTypes := #[26, 32, 3, 3] }, type := 44, pos := "shelf.go:66", after := #[{ on := 3, ground := Ground.data }, { on := 7, ground := Ground.data }, { on := 9, ground := Ground.data }, { on := 11, ground := Ground.data }], guard := none }) rfl (fun K hK => ?_) AllReadyH.nil)
      go_simp
      refine (HGET.out (W0.drew.alloc (.cells Z.toArray 43)) (((Kp.refl No W0).drew).alloc _)).mono ?_
      rintro e w1 ⟨y, f, rfl, hyo, hyb, hsp, hk, ht⟩
      have HK1 : Hid (Kp (fun x => x = b) W0 w1) := (((Kp.refl (fun x => x = b) W0).drew).alloc _).trans (kp_kept hk) (fun x hx => .inl hx)
      have HKV : Hid (Kp (fun x => x = b) (W0.drew.alloc (.cells Z.toArray 43)) w1) := kp_kept hk
      have HY := hid (And.intro hyo (And.intro hsp ht))
      have HYB : Hid (BySlS (fun g => (W0.drew.alloc (.cells Z.toArray 43)).heap.size ≤ g ∧ g < w1.heap.size) w1 (elV y) y.1.2.2) := hyb
      have HV1 : Hid ((W0.drew.alloc (.cells Z.toArray 43)).heap.size ≤ w1.heap.size) := HKV.out.size
      have HCL : Hid ((elC y).length = 34) := elC_length hyo
      have HC1 : Hid ((elC y).toArray.all (·.oneCell') = true) := all_oneCell_toArray (elC_one y)
      obtain ⟨cy, hcy⟩ : ∃ cy, elC y = cy := ⟨_, rfl⟩
      have HCY := hid hcy
      rw [hcy] at HCL HC1
      have HICL : Hid ((Tryz.prog.info? 43).map (·.size) = some cy.length) := by rw [Hid, HCL.out]; exact HIC.out
      have HICA : Hid ((Tryz.prog.info? 43).map (·.size) = some cy.toArray.size) := HICL.out
      rw [hcy]
      clear hcy hyo hyb hsp hk ht HGET
      go_wp2_with fail
      refine hK.out _ _ (HK1.out) (fun hh => ?_)
      clear hK K hHeld
      have hHeld := hh
      clear hh
      try simp only [Act.put, List.setIfInBounds_toArray, List.set_cons_zero, List.set_cons_succ]
      refine wpAnyH_take (i := 13) (oi := { dst := some 15, op := Op.move (Operand.tmp 28), type := 44, pos := "shelf.go:66", after := #[{ on := 12, ground := Ground.data }], guard := none }) (v := .tuple #[.agg cy.toArray, .int .i64 (f : Int)]) rfl (by kernel_rfl) (by kernel_rfl) (by kernel_rfl) (fun _ _ _ h => h) (Or.inl ⟨by rfl, fun w' hw' => by (clear hw'; go_simp)⟩) hHeld ?_
      simp only [Act.put, List.setIfInBounds_toArray, List.set_cons_zero, List.set_cons_succ]
      refine wpAnyH_take (i := 14) (oi := { dst := some 29, op := Op.extract (Operand.tmp 15) 0, type := 43, pos := "shelf.go:66", after := #[{ on := 13, ground := Ground.data }], guard := none }) (v := .agg cy.toArray) rfl (by kernel_rfl) (by kernel_rfl) (by kernel_rfl) (fun _ _ _ h => h) (Or.inl ⟨by rfl, fun w' hw' => by (clear hw'; go_simp)⟩) hHeld ?_
      simp only [Act.put, List.setIfInBounds_toArray, List.set_cons_zero, List.set_cons_succ]
      refine wpAnyH_take (i := 15) (oi := { dst := some 30, op := Op.extract (Operand.tmp 15) 1, type := 27, pos := "shelf.go:66", after := #[{ on := 13, ground := Ground.data }, { on := 17, ground := Ground.gcOnly Departure.lateStores }], guard := none }) (v := .int .i64 (f : Int)) rfl (by kernel_rfl) (by kernel_rfl) (by kernel_rfl) (fun _ _ _ h => h) (Or.inl ⟨by rfl, fun w' hw' => by (clear hw'; go_simp)⟩) hHeld ?_
      simp only [Act.put, List.setIfInBounds_toArray, List.set_cons_zero, List.set_cons_succ]
      refine wpAnyH_ready (rs := [17]) (by kernel_rfl) (by simp) ?_
      refine (AllReadyH.cons (o := { dst := none, op := Op.store 43 (Operand.tmp 6) (Operand.tmp 29), type := 0, pos := "shelf.go:66", after := #[{ on := 16, ground := Ground.data }, { on := 14, ground := Ground.data }, { on := 12, ground := Ground.chain }, { on := 0, ground := Ground.phase }, { on := 1, ground := Ground.phase }, { on := 2, ground := Ground.phase }, { on := 3, ground := Ground.phase }, { on := 4, ground := Ground.phase }, { on := 5, ground := Ground.phase }, { on := 6, ground := Ground.phase }, { on := 7, ground := Ground.phase }, { on := 8, ground := Ground.phase }, { on := 9, ground := Ground.phase }, { on := 10, ground := Ground.phase }, { on := 11, ground := Ground.phase }, { on := 12, ground := Ground.phase }, { on := 13, ground := Ground.phase }, { on := 14, ground := Ground.phase }, { on := 15, ground := Ground.textOnly Departure.lateStores }, { on := 16, ground := Ground.phase }], guard := none }) rfl (fun K hK => ?_) AllReadyH.nil)
      refine wp_skipE (exec_storeE 43 _ _ rfl (W0.heap.size) 0 cy.toArray rfl rfl (by show World.there _ _ _ cy.length; rw [HCL.out]; exact HTB.out w1 HKV.out) HICA.out HC1.out) ?_
      try simp only [Act.put, List.setIfInBounds_toArray, List.set_cons_zero, List.set_cons_succ]
      refine hK.out _ _ (kp_set (HK1.out) (Or.inr (by have a1 := HK1.out.size; have a2 := HBL.out; have a3 := HV1.out; first | omega | (simp at *; omega))) _ _) (fun hh => ?_)
      clear hK K hHeld
      have hHeld := hh
      clear hh
      try simp only [Act.put, List.setIfInBounds_toArray, List.set_cons_zero, List.set_cons_succ]
      refine wpAnyH_take (i := 18) (oi := { dst := some 7, op := Op.assign (Operand.tmp 30), type := 27, pos := "shelf.go:66", after := #[{ on := 15, ground := Ground.data }, { on := 17, ground := Ground.chain }, { on := 0, ground := Ground.phase }, { on := 1, ground := Ground.phase }, { on := 2, ground := Ground.phase }, { on := 3, ground := Ground.phase }, { on := 4, ground := Ground.phase }, { on := 5, ground := Ground.phase }, { on := 6, ground := Ground.phase }, { on := 7, ground := Ground.phase }, { on := 8, ground := Ground.phase }, { on := 9, ground := Ground.phase }, { on := 10, ground := Ground.phase }, { on := 11, ground := Ground.phase }, { on := 12, ground := Ground.phase }, { on := 13, ground := Ground.phase }, { on := 14, ground := Ground.phase }, { on := 15, ground := Ground.phase }, { on := 16, ground := Ground.phase }, { on := 17, ground := Ground.phase }], guard := none }) (v := .int .i64 (f : Int)) rfl (by kernel_rfl) (by kernel_rfl) (by kernel_rfl) (fun _ _ _ h => h) (Or.inl ⟨by rfl, fun w' hw' => by (clear hw'; go_simp)⟩) hHeld ?_
      simp only [Act.put, List.setIfInBounds_toArray, List.set_cons_zero, List.set_cons_succ]
      refine wpAnyH_done (by kernel_rfl) ?_ _
      clear hHeld
      have HK5 : Hid (Kp (fun x => x = b) W0 ((w1).setCells (W0.heap.size) 0 cy)) := kp_set (HK1.out) (Or.inr (by have a1 := HK1.out.size; have a2 := HBL.out; have a3 := HV1.out; first | omega | (simp at *; omega))) _ _
      have HR5 : Hid (((w1).setCells (W0.heap.size) 0 cy).rangeAt (W0.heap.size) 0 cy) := World.rangeAt_setCells_same _ _ _ _ (by rw [HCL.out]; exact HTB.out w1 HKV.out)
      have HG5 : Hid (Kp (fun x => x = W0.heap.size) w1 ((w1).setCells (W0.heap.size) 0 cy)) := kp_set (Kp.refl (fun x => x = W0.heap.size) w1) (Or.inl rfl) _ _
      have HT5 : Hid (TabX ((w1).setCells (W0.heap.size) 0 cy) b) := HY.out.2.2.kp HG5.out (by have a1 := HK1.out.size; have a2 := HBL.out; have a3 := HV1.out; first | omega | (simp at *; omega))
      have HYB5 : Hid (BySlS (fun x => W0.heap.size ≤ x ∧ x < ((w1).setCells (W0.heap.size) 0 cy).heap.size) ((w1).setCells (W0.heap.size) 0 cy) (elV y) y.1.2.2) := bySlS_kp HYB.out HG5.out (fun x hx => by have := HG5.out.size; have a1 := HK1.out.size; have a2 := HBL.out; have a3 := HV1.out; first | omega | (simp at *; omega))
      have HG6 : Hid (W0.heap.size ≤ W0.heap.size ∧ W0.heap.size < ((w1).setCells (W0.heap.size) 0 cy).heap.size) := by have := HG5.out.size; have a1 := HK1.out.size; have a2 := HBL.out; have a3 := HV1.out; rw [Hid, setCells_size]; first | omega | (simp at *; omega)
      clear HYB HG5 HV1 HKV HK1
      generalize (w1).setCells (W0.heap.size) 0 cy = V5 at *
      obtain ⟨g6, hg6⟩ : ∃ x, x = W0.heap.size := ⟨_, rfl⟩
      rw [← hg6] at HR5 ⊢
      have HG7 : Hid (W0.heap.size ≤ g6 ∧ g6 < V5.heap.size) := by rw [hg6]; exact HG6.out
      clear HG6 hg6
      have HG6 := hid HG7.out
      clear HG7
      have HICL : Hid ((Tryz.prog.info? 43).map (·.size) = some cy.length) := by rw [Hid, HCL.out]; exact HIC.out
      have HICA : Hid ((Tryz.prog.info? 43).map (·.size) = some cy.toArray.size) := HICL.out
      have HZ2 : Hid (Z.toArray.size = 34) := HZL.out
      by_cases hf : f = 0
      · subst hf
        have HOK := hid (gspec_ok HY.out.2.1)
        have HSZ := hid (fun V (k : Kp No V5 V) => size_any y V HY.out.1 ((bySlS_kp HYB5.out k (S' := fun x => x < V.heap.size) (fun g hg => ⟨fun x => x, hg.2, Nat.lt_of_lt_of_le hg.2 k.size⟩)).to (fun g hg => hg)) HOK.out)
        rw [HCY.out] at HSZ
        have HQ5 : Hid (∀ V, Kp No V5 V → V.cell? ⟨w.heap.size, 2, none⟩ = some (.int .i64 ln)) := fun V k => (HX.out V (HK5.out.andNone k)).2.2.2.2
        obtain ⟨t, ht⟩ : ∃ t : Nat, 49 + y.1.2.2.length = t := ⟨_, rfl⟩
        have HTT := hid ht
        rw [ht] at HSZ
        clear ht
        by_cases hlt : (t : Int) = ln
        · have HLT := hid hlt
          go_wp2_with fail
          refine wp_region_held_drew (S := fun V => Kp No V5 V) (by kernel_rfl) ((Kp.refl _ _).drew) (fun hHeld => ?_)
          refine wpAnyH_take (i := 2) (oi := { dst := some 37, op := Op.fieldAddr 47 (Operand.tmp 3) 2, type := 0, pos := "shelf.go:70", after := #[], guard := none }) (v := .pointer (some ⟨w.heap.size, 2, none⟩)) rfl (by kernel_rfl) (by kernel_rfl) (by kernel_rfl) (fun _ _ _ h => h) (Or.inl ⟨by rfl, fun w' hw' => by (clear hw'; go_simp)⟩) hHeld ?_
          simp only [Act.put, List.setIfInBounds_toArray, List.set_cons_zero, List.set_cons_succ]
          refine wpAnyH_take (i := 0) (oi := { dst := some 35, op := Op.load 43 (Operand.tmp 6), type := 43, pos := "shelf.go:70", after := #[], guard := none }) (v := .agg cy.toArray) rfl (by kernel_rfl) (by kernel_rfl) (by kernel_rfl) (fun _ _ _ h => h) (yieldsIf_load_mid (by rfl) _ _ rfl g6 0 rfl cy _ (fun V hV => rangeAt_below HR5.out hV.toBelow' HG6.out.2) Tryz.underlying43 rfl HICL.out) hHeld ?_
          simp only [Act.put, List.setIfInBounds_toArray, List.set_cons_zero, List.set_cons_succ]
          refine wpAnyH_take (i := 3) (oi := { dst := some 38, op := Op.load 3 (Operand.tmp 37), type := 3, pos := "shelf.go:70", after := #[{ on := 2, ground := Ground.data }], guard := none }) (v := .int .i64 ln) rfl (by kernel_rfl) (by kernel_rfl) (by kernel_rfl) (fun _ _ _ h => h) (Or.inl ⟨by rfl, fun w' hw' => by (have q0 := HQ5.out w' hw'; clear hw'; go_simp)⟩) hHeld ?_
          simp only [Act.put, List.setIfInBounds_toArray, List.set_cons_zero, List.set_cons_succ]
          refine wpAnyH_ready (rs := [1]) (by kernel_rfl) (by simp) ?_
          refine (AllReadyH.cons (o := { dst := some 36, op := Op.call { callee := Callee.value (Operand.func 26), args := #[Operand.tmp 35], argTypes := #[43] }, type := 3, pos := "shelf.go:70", after := #[{ on := 0, ground := Ground.data }], guard := none }) rfl (fun K hK => ?_) AllReadyH.nil)
          go_simp
          refine (HSZ.out _ ((Kp.refl _ _).drew)).mono ?_
          rintro e w8 ⟨rfl, hb8⟩
          have HK8 : Hid (Kp No V5 w8) := kp_bel ((Kp.refl No V5).drew) hb8
          clear hb8
          go_wp2_with fail
          refine hK.out _ _ (HK8.out) (fun hh => ?_)
          clear hK K hHeld
          have hHeld := hh
          clear hh
          try simp only [Act.put, List.setIfInBounds_toArray, List.set_cons_zero, List.set_cons_succ]
          refine wpAnyH_take (i := 4) (oi := { dst := some 39, op := Op.binOp BinOp.neq 3 (Operand.tmp 36) (Operand.tmp 38) 3, type := 4, pos := "shelf.go:70", after := #[{ on := 1, ground := Ground.data }, { on := 3, ground := Ground.data }], guard := none }) (v := .bool false) rfl (by kernel_rfl) (by kernel_rfl) (by kernel_rfl) (fun _ _ _ h => h) (Or.inl ⟨by rfl, fun w' hw' => by (clear hw'; go_simp)⟩) hHeld ?_
          simp only [Act.put, List.setIfInBounds_toArray, List.set_cons_zero, List.set_cons_succ]
          refine wpAnyH_done (by kernel_rfl) ?_ _
          clear hHeld
          have HR8 : Hid (w8.rangeAt g6 0 cy) := rangeAt_below HR5.out HK8.out.toBelow' HG6.out.2
          clear hlt
          go_wp2_with (first | (refine wpList_load_mid (by rfl) 43 _ (by rfl) g6 0 (by rfl) cy _ HR8.out Tryz.underlying43 rfl HICL.out ?_) | (refine wpList_store_mid (by rfl) 43 _ _ (by rfl) (w.heap.size + 1) 0 cy.toArray (by rfl) (by rfl) (by have h := HRT.out _ (HK5.out.andNone HK8.out); rw [HZ2.out] at h; show World.there _ _ _ cy.length; rw [HCL.out]; exact h) HICA.out HC1.out ?_))
          have HR : Hid (World.rangeAt ((w8).setCells (w.heap.size + 1) 0 cy) (w.heap.size + 1) 0 cy) := World.rangeAt_setCells_same _ _ _ _ (by rw [HCL.out]; have h := HRT.out _ (HK5.out.andNone HK8.out); rwa [HZ2.out] at h)
          refine bodyPost_ret (v := .tuple #[.agg cy.toArray, .int .i64 0]) (results_cell_mid2 Tryz.results11 _ _ (w.heap.size + 1) 0 _ _ rfl HR.out Tryz.underlying43 rfl HICL.out) rfl ?_
          have hk9 : Kp (fun x => x = b) w ((w8).setCells (w.heap.size + 1) 0 cy) := kp_set (HK0.out.ofNo.trans (HK5.out.andNone HK8.out) (fun x hx => .inl hx)) (Or.inr (by omega)) _ _
          have ht9 : TabX ((w8).setCells (w.heap.size + 1) 0 cy) b := (HT5.out.kp (HK8.out) (fun x => x)).kp (kp_set (Kp.refl (fun x => x = w.heap.size + 1) _) (Or.inl rfl) _ _) (by omega)
          refine ⟨y, _, ?_, HY.out.1, ?_, .inr ⟨by omega, y, _, HY.out.2.1, .inr (.inr ⟨rfl, by rw [HTT.out]; exact HLT.out, rfl, rfl⟩)⟩, hk9, ht9⟩
          · (rw [HCY.out]) <;> rfl
          · refine bySlS_kp (L := fun x => x = w.heap.size + 1) HYB5.out ((Kp.below HK8.out.toBelow').trans (kp_set (Kp.refl (fun x => x = w.heap.size + 1) _) (Or.inl rfl) _ _) (fun x hx => .inl hx)) (fun g hg => ?_); have := HS0.out; have := HK8.out.size; rw [setCells_size]; omega
        · have HLT := hid hlt
          go_wp2_with fail
          refine wp_region_held_drew (S := fun V => Kp No V5 V) (by kernel_rfl) ((Kp.refl _ _).drew) (fun hHeld => ?_)
          refine wpAnyH_take (i := 2) (oi := { dst := some 37, op := Op.fieldAddr 47 (Operand.tmp 3) 2, type := 0, pos := "shelf.go:70", after := #[], guard := none }) (v := .pointer (some ⟨w.heap.size, 2, none⟩)) rfl (by kernel_rfl) (by kernel_rfl) (by kernel_rfl) (fun _ _ _ h => h) (Or.inl ⟨by rfl, fun w' hw' => by (clear hw'; go_simp)⟩) hHeld ?_
          simp only [Act.put, List.setIfInBounds_toArray, List.set_cons_zero, List.set_cons_succ]
          refine wpAnyH_take (i := 0) (oi := { dst := some 35, op := Op.load 43 (Operand.tmp 6), type := 43, pos := "shelf.go:70", after := #[], guard := none }) (v := .agg cy.toArray) rfl (by kernel_rfl) (by kernel_rfl) (by kernel_rfl) (fun _ _ _ h => h) (yieldsIf_load_mid (by rfl) _ _ rfl g6 0 rfl cy _ (fun V hV => rangeAt_below HR5.out hV.toBelow' HG6.out.2) Tryz.underlying43 rfl HICL.out) hHeld ?_
          simp only [Act.put, List.setIfInBounds_toArray, List.set_cons_zero, List.set_cons_succ]
          refine wpAnyH_take (i := 3) (oi := { dst := some 38, op := Op.load 3 (Operand.tmp 37), type := 3, pos := "shelf.go:70", after := #[{ on := 2, ground := Ground.data }], guard := none }) (v := .int .i64 ln) rfl (by kernel_rfl) (by kernel_rfl) (by kernel_rfl) (fun _ _ _ h => h) (Or.inl ⟨by rfl, fun w' hw' => by (have q0 := HQ5.out w' hw'; clear hw'; go_simp)⟩) hHeld ?_
          simp only [Act.put, List.setIfInBounds_toArray, List.set_cons_zero, List.set_cons_succ]
          refine wpAnyH_ready (rs := [1]) (by kernel_rfl) (by simp) ?_
          refine (AllReadyH.cons (o := { dst := some 36, op := Op.call { callee := Callee.value (Operand.func 26), args := #[Operand.tmp 35], argTypes := #[43] }, type := 3, pos := "shelf.go:70", after := #[{ on := 0, ground := Ground.data }], guard := none }) rfl (fun K hK => ?_) AllReadyH.nil)
          go_simp
          refine (HSZ.out _ ((Kp.refl _ _).drew)).mono ?_
          rintro e w8 ⟨rfl, hb8⟩
          have HK8 : Hid (Kp No V5 w8) := kp_bel ((Kp.refl No V5).drew) hb8
          clear hb8
          go_wp2_with fail
          refine hK.out _ _ (HK8.out) (fun hh => ?_)
          clear hK K hHeld
          have hHeld := hh
          clear hh
          try simp only [Act.put, List.setIfInBounds_toArray, List.set_cons_zero, List.set_cons_succ]
          refine wpAnyH_take (i := 4) (oi := { dst := some 39, op := Op.binOp BinOp.neq 3 (Operand.tmp 36) (Operand.tmp 38) 3, type := 4, pos := "shelf.go:70", after := #[{ on := 1, ground := Ground.data }, { on := 3, ground := Ground.data }], guard := none }) (v := .bool true) rfl (by kernel_rfl) (by kernel_rfl) (by kernel_rfl) (fun _ _ _ h => h) (Or.inl ⟨by rfl, fun w' hw' => by (clear hw'; go_simp)⟩) hHeld ?_
          simp only [Act.put, List.setIfInBounds_toArray, List.set_cons_zero, List.set_cons_succ]
          refine wpAnyH_done (by kernel_rfl) ?_ _
          clear hHeld
          clear hlt
          go_wp2_with (refine wpList_store_mid (by rfl) 43 _ _ (by rfl) (w.heap.size + 1) 0 Z.toArray (by rfl) (by rfl) (HRT.out _ (HK5.out.andNone HK8.out)) HI2.out H1.out ?_)
          have HR : Hid (World.rangeAt ((w8).setCells (w.heap.size + 1) 0 Z) (w.heap.size + 1) 0 Z) := World.rangeAt_setCells_same _ _ _ _ (HRT.out _ (HK5.out.andNone HK8.out))
          refine bodyPost_ret (v := .tuple #[.agg Z.toArray, .int .i64 4]) (results_cell_mid2 Tryz.results11 _ _ (w.heap.size + 1) 0 _ _ rfl HR.out Tryz.underlying43 rfl HI2.out) rfl ?_
          have hk9 : Kp (fun x => x = b) w ((w8).setCells (w.heap.size + 1) 0 Z) := kp_set (HK0.out.ofNo.trans (HK5.out.andNone HK8.out) (fun x hx => .inl hx)) (Or.inr (by omega)) _ _
          have ht9 : TabX ((w8).setCells (w.heap.size + 1) 0 Z) b := (HT5.out.kp (HK8.out) (fun x => x)).kp (kp_set (Kp.refl (fun x => x = w.heap.size + 1) _) (Or.inl rfl) _ _) (by omega)
          refine ⟨zE, _, ?_, zE_ok, ?_, .inr ⟨by omega, y, _, HY.out.2.1, .inr (.inl ⟨rfl, by rw [HTT.out]; exact HLT.out, rfl, rfl⟩)⟩, hk9, ht9⟩
          · (rw [zE_cells, HZ.out]) <;> rfl
          · exact BySlS.none _ _
      · have hfI : ¬ ((f : Int) = 0) := by omega
        have HF := hid hf
        clear hf
        go_wp2_with (refine wpList_store_mid (by rfl) 43 _ _ (by rfl) (w.heap.size + 1) 0 Z.toArray (by rfl) (by rfl) (HRT.out _ HK5.out) HI2.out H1.out ?_)
        have HR : Hid (World.rangeAt ((V5).setCells (w.heap.size + 1) 0 Z) (w.heap.size + 1) 0 Z) := World.rangeAt_setCells_same _ _ _ _ (HRT.out _ (HK5.out))
        refine bodyPost_ret (v := .tuple #[.agg Z.toArray, .int .i64 (f : Int)]) (results_cell_mid2 Tryz.results11 _ _ (w.heap.size + 1) 0 _ _ rfl HR.out Tryz.underlying43 rfl HI2.out) rfl ?_
        have hk9 : Kp (fun x => x = b) w ((V5).setCells (w.heap.size + 1) 0 Z) := kp_set (HK0.out.ofNo.trans (HK5.out) (fun x hx => .inl hx)) (Or.inr (by omega)) _ _
        have ht9 : TabX ((V5).setCells (w.heap.size + 1) 0 Z) b := (HT5.out.kp (Kp.refl No V5) (fun x => x)).kp (kp_set (Kp.refl (fun x => x = w.heap.size + 1) _) (Or.inl rfl) _ _) (by omega)
        refine ⟨zE, _, ?_, zE_ok, ?_, .inr ⟨by omega, y, _, HY.out.2.1, .inl ⟨HF.out, rfl, rfl⟩⟩, hk9, ht9⟩
        · (rw [zE_cells, HZ.out]) <;> rfl
        · exact BySlS.none _ _

end Go.Proofs.YtkpibphalhhkdaaGreatDoor.Sh
end

section
/-
  What alive of the ninth law comes to, purely: one record laid on a fresh disk.
-/
namespace Go.Proofs.YtkpibphalhhkdaaGreatDoor.Sh
open Go.RowKit Go.Shelf
open Tlv (BySlS)
open Sim (hid Kp No PS Blk nm finds pBytes pList startPS q1 q2 q5 nameB)

theorem nameP_1 : nameP 1 = ⟨#[112, 97, 99, 107, 46, 49]⟩ := by
  rw [nameP, sortB, Lib.decDigits_one (by omega)]
  rfl
theorem nameT_1 : nameT 1 = ⟨#[116, 109, 112, 46, 49]⟩ := by
  rw [nameT, sortB, Lib.decDigits_one (by omega)]
  rfl
theorem nT1 : nameB (nm (nameT 1)) = true := by rw [nameT_1]; decide
theorem nP1 : nameB (nm (nameP 1)) = true := by rw [nameP_1]; decide
/-- The record. -/
def rX : Rec := (1, List.replicate 32 0, [120])
theorem rX_ok : Rt rX := rightX
theorem rX_len : (frOf rX).length = 50 := frOf_length rX_ok
/-- The disk with one pack of one record. -/
def dX (x : Nat) : PS := q5 (nm (nameT 1)) (nm (nameP 1)) 1000 x (nats (frOf rX))

theorem lpF_x (x : Nat) (a : Option Addr) (c : Nat) : lpF 1 x (startPS 1000) [((rX, a, c) : El)] = (0, dX x) := by
  have e1 : Sim.pCreate (nm (nameT 1)) x (startPS 1000) = (0, q1 (nm (nameT 1)) 1000 x) := Sim.start_create nT1
  have e2 : aps 1 (q1 (nm (nameT 1)) 1000 x) [((rX, a, c) : El)] = (0, q2 (nm (nameT 1)) 1000 x (nats (frOf rX))) := by
    rw [aps, List.foldl_cons, List.foldl_nil, if_neg (by simp)]
    show Sim.pAppend (nm (nameT 1)) (nats (frOf rX)) _ = _
    exact Sim.q1_append nT1 (by rw [nats_length]; have h := rX_len; omega)
  have e3 : sealF 1 (q2 (nm (nameT 1)) 1000 x (nats (frOf rX))) = (0, dX x) := by
    rw [sealF, Sim.q2_fsync nT1, if_neg (by simp), Sim.q3_rename nT1 nP1, if_neg (by simp), Sim.q4_sync]
    rfl
  rw [lpF, e1, if_neg (by simp), e2, if_neg (by simp), e3, if_neg (by simp)]
theorem list_start (r : Nat) : pList (startPS r) = [] := rfl
theorem ids_start : idsP (startPS 1000) = [] := by simp [idsP, list_start]
theorem list_x (x : Nat) : pList (dX x) = [nm (nameP 1)] := by
  rw [pList, if_neg (by simp [dX, q5, Sim.settle, Sim.tick, Sim.q4, Sim.chgd, Sim.q3, Sim.setF, Sim.q2, Sim.q1, startPS]), dX, Sim.q5_seen]
  rfl
theorem ids_x (x : Nat) : idsP (dX x) = [1] := by
  have e : idN (nm (nameP 1)) = some 1 := by
    have h := idOf_name (p := packS) (u := 1) (by omega) (by omega)
    have h2 : (⟨(nm (nameP 1)).toArray⟩ : ByteArray) = nameZ packS ((1 : Nat) : Int) := by
      rw [nameP_1, nameZ_of (p := packS) (by omega) (by omega), Lib.decDigits_one (by omega)]
      rfl
    rw [idN, h2, h]
    rfl
  simp [idsP, list_x, e]
theorem max_x : maxZ ([1] ++ [1]) = 1 := by decide
theorem max_start : maxZ (idsP (startPS 1000) ++ [0]) + 1 = ((1 : Nat) : Int) := by rw [ids_start]; decide
theorem parts_x (a : Option Addr) (c : Nat) : parts [((rX, a, c) : El)] = [[((rX, a, c) : El)]] := by
  simp [parts, dl, dlStep, szs, szE, rX]

/-- What is known of a state behind k packs. -/
def GX (k : Nat) (p : PS) (n : Int) : Prop := k = 0 → p = startPS 1000 ∧ n = 0
theorem pre_x : Pre GX 1 := fun k p n hk hG => by
  obtain rfl : k = 0 := by omega
  obtain ⟨rfl, rfl⟩ := hG rfl
  refine ⟨1, max_start, by omega, by omega, ?_, by simp [list_start], by simp [ids_start], fun x z _ _ _ _ _ h => absurd h (by omega)⟩
  rw [Sim.start_finds nP1]
  omega
theorem one_part {z y : List El} {ps r : List (List El)} (h : [z] = ps ++ y :: r) : ps = [] ∧ y = z := by
  cases ps with
  | nil => simp at h; exact ⟨rfl, h.1.symm⟩
  | cons a ps => simp at h
theorem layR_x {a : Option Addr} {c : Nat} {p : PS} {n : Int} {qs : List Pl} (h : LayR (startPS 1000) 0 [[((rX, a, c) : El)]] p n qs) : ∃ x, p = dX x ∧ n = 1 ∧ qs = [(1, 0, 50)] := by
  generalize hps : [[((rX, a, c) : El)]] = ps at h
  cases h with
  | nil => simp at hps
  | snoc h hi hx h0 =>
    rename_i ps p' n' qs' i x z
    obtain ⟨rfl, rfl⟩ := one_part hps
    generalize he : ([] : List (List El)) = ps at h
    cases h with
    | nil =>
      rw [max_start] at hi
      have hi1 : i = 1 := by omega
      subst hi1
      rw [lpF_x]
      exact ⟨x, rfl, rfl, rfl⟩
    | snoc => simp at he
theorem lay_x {P : Nat → Prop} {M : Nat} {w w' : World} {h s b φ : Nat} {ps : List (List El)} {a : Option Addr} {c : Nat} (e : LE P M w h s b (startPS 1000) 0 (parts [((rX, a, c) : El)]) w' ps φ) : φ = 0 := by
  obtain ⟨p, n, qs, i, x, z, P', hL, hi, _, hφ, _, _, _, _, _, r, hr⟩ := e
  rw [parts_x] at hr
  obtain ⟨rfl, rfl⟩ := one_part hr
  generalize hps : ([] : List (List El)) = ps at hL
  cases hL with
  | nil =>
    rw [max_start] at hi
    have hi1 : i = 1 := by omega
    subst hi1
    rw [lpF_x] at hφ
    exact hφ.symm
  | snoc => simp at hps
theorem read_x {x : Nat} {y : El} {f : Nat} (h : ReadA (finds (dX x) (nm (nameP 1))) (ints (pBytes (nm (nameP 1)) (dX x))) 0 50 y f) : f = 0 ∧ y.1 = rX := by
  have e1 : pBytes (nm (nameP 1)) (dX x) = nats (frOf rX) := Sim.q5_bytes nP1
  have e2 : finds (dX x) (nm (nameP 1)) = 0 := Sim.q5_finds nP1
  have e3 : takeF (frOf rX) = (0, rX, 50) := by
    have h := take_frame (k := 1) (nm := List.replicate 32 0) (bs := [120]) rightX []
    rw [List.append_nil] at h
    exact h
  rw [e1, e2, ints_nats (frOf rX) (frameR_bd rX_ok)] at h
  rcases h with ⟨h, _⟩ | ⟨_, y0, f0, hg, h⟩
  · omega
  have hg' : f0 = 0 ∧ y0.1 = rX := by
    rcases hg with ⟨h1, _⟩ | ⟨_, h1, _⟩ | ⟨k, _, h1, _, h2, _⟩ | ⟨k, _, h1, _, _, h2, h3⟩
    · exact absurd rfl h1
    · have := rX_len; omega
    · have hk : k = 0 := by omega
      subst hk
      rw [List.drop_zero, e3] at h2
      exact absurd rfl h2
    · have hk : k = 0 := by omega
      subst hk
      rw [List.drop_zero, e3] at h3
      exact ⟨h2, h3⟩
  obtain ⟨rfl, hy⟩ := hg'
  rcases h with ⟨h, _⟩ | ⟨_, h, _⟩ | ⟨_, _, h1, h2⟩
  · exact absurd rfl h
  · exact absurd (by rw [hy]; rfl) h
  · exact ⟨h1, by rw [h2]; exact hy⟩
end Go.Proofs.YtkpibphalhhkdaaGreatDoor.Sh
end

section
/-
  law09's Own: records as the program's.
-/
namespace Go.Proofs.YtkpibphalhhkdaaGreatDoor.Sh
open Go.RowKit Go.Shelf
open Tlv (BySlS)
open Sim (hid Kp No Blk Row)

def elS (zs : List El) : List Value := zs.flatMap elC
theorem elS_snoc (zs : List El) (z : El) : elS (zs ++ [z]) = elS zs ++ elC z := by simp [elS]
theorem infoF : (Tryz.prog.info? 43).map (fun i => (i.zero, i.size, i.bytes)) = some (some (.agg zRec.toArray), 34, 64) := by kernel_rfl
theorem run_oneF (z : El) (hz : elOk z) (w : World) : (Instr.buildSlice 37 1 #[(0, .agg (elC z).toArray)]).run Tryz.prog w = .ok (.slice (some ⟨w.heap.size, 0, none⟩) 1 1) (w.alloc (.cells (elC z).toArray 43)) := by
  obtain ⟨⟨k, nmr, bs⟩, a, c⟩ := z
  have hn : nmr.length = 32 := hz.1
  show (Instr.buildSlice 37 1 #[(0, .agg (recA k nmr (.slice a bs.length c)).toArray)]).run Tryz.prog w = .ok (.slice (some ⟨w.heap.size, 0, none⟩) 1 1) (w.alloc (.cells (recA k nmr (.slice a bs.length c)).toArray 43))
  clear hz
  generalize bs.length = l
  obtain ⟨x0, x1, x2, x3, x4, x5, x6, x7, x8, x9, x10, x11, x12, x13, x14, x15, x16, x17, x18, x19, x20, x21, x22, x23, x24, x25, x26, x27, x28, x29, x30, x31, rfl⟩ := ex32 hn
  kernel_rfl
theorem elS_get (zs : List El) (hz : ∀ z ∈ zs, elOk z) : ∀ i z, zs[i]? = some z → ∀ j u, (elC z)[j]? = some u → (elS zs)[i * 34 + j]? = some u := by
  induction zs with
  | nil => intro i z h; simp at h
  | cons y zs ih =>
    intro i z h j u hu
    have hy := elC_length (hz y List.mem_cons_self)
    have e : elS (y :: zs) = elC y ++ elS zs := by simp [elS]
    rw [e]
    cases i with
    | zero =>
      simp at h
      subst h
      have hj := (List.getElem?_eq_some_iff.1 hu).1
      rw [Nat.zero_mul, Nat.zero_add, List.getElem?_append_left hj]
      exact hu
    | succ i =>
      rw [List.getElem?_append_right (by omega), hy, show (i + 1) * 34 + j - 34 = i * 34 + j by omega]
      exact ih (fun z hz' => hz z (List.mem_cons_of_mem _ hz')) i z (by simpa using h) j u hu
theorem elS_length (zs : List El) (hz : ∀ z ∈ zs, elOk z) : (elS zs).length = zs.length * 34 := by
  induction zs with
  | nil => rfl
  | cons y zs ih =>
    have e : elS (y :: zs) = elC y ++ elS zs := by simp [elS]
    rw [e, List.length_append, elC_length (hz y List.mem_cons_self), ih (fun z hz' => hz z (List.mem_cons_of_mem _ hz')), List.length_cons]
    omega
/-- A row of one's own, as records that are read. -/
theorem row_rv {S : Nat → Prop} {w : World} {u : Value} {zs : List El} (h : Row w 43 34 u zs.length (elS zs)) (hz : ∀ z ∈ zs, elOk z ∧ BySlS (fun g => S g ∧ g < w.heap.size) w (elV z) z.1.2.2) : RV (fun g => S g ∨ u.ownBlock = some g) w u zs := by
  obtain ⟨a, c, rfl, h1, h2, h3, h4⟩ := h.shape
  refine ⟨a, c, rfl, h1, h2, fun e => ⟨List.length_eq_zero_iff.1 (h3 e).1, (h3 e).2⟩, fun z hz' => ⟨(hz z hz').1, BySlS.mono (hz z hz').2 (S' := fun g' => (S g' ∨ (Value.slice a zs.length c).ownBlock = some g') ∧ g' < w.heap.size) (fun g hg => ⟨.inl hg.1, hg.2⟩)⟩, fun hne => ?_⟩
  cases a with
  | none => exact absurd (List.length_eq_zero_iff.1 (h3 rfl).1) hne
  | some x =>
    obtain ⟨g, o, sp⟩ := x
    obtain ⟨rfl, rfl⟩ : sp = none ∧ o = 0 := h4 _ rfl
    refine ⟨g, 0, rfl, .inr rfl, h.lt g rfl, fun i z hz' j v hv => ?_⟩
    have hj := elS_get zs (fun z hz => ((‹∀ z ∈ zs, elOk z ∧ _› z hz).1)) i z hz' j v hv
    rw [Nat.zero_add, h.cellAt _ (by have := (List.getElem?_eq_some_iff.1 hj).1; have := h.1; omega)]
    exact hj

/-- Records that are read, wherever their row ends. -/
def RW (S : Nat → Prop) (w : World) (v : Value) (zs : List El) : Prop :=
  ∃ a c, v = .slice a zs.length c ∧ (∀ z ∈ zs, elOk z ∧ BySlS (fun g => S g ∧ g < w.heap.size) w (elV z) z.1.2.2) ∧ (∀ i z, zs[i]? = some z → ∃ g o, a = some ⟨g, o, none⟩ ∧ S g ∧ g < w.heap.size ∧ w.rangeAt g (o + i * 34) (elC z))
theorem RV.rw {S : Nat → Prop} {w : World} {v : Value} {zs : List El} (h : RV S w v zs) : RW S w v zs := by
  obtain ⟨a, c, rfl, _, _, _, h4, h5⟩ := h
  refine ⟨a, c, rfl, h4, fun i z hz => ?_⟩
  obtain ⟨g, o, e, hg, hl, hr⟩ := h5 (fun e => by rw [e] at hz; simp at hz)
  exact ⟨g, o, e, hg, hl, hr i z hz⟩
theorem RW.kept {S : Nat → Prop} {w w' : World} {v : Value} {zs : List El} (h : RW S w v zs) (k : Kp No w w') : RW S w' v zs := by
  obtain ⟨a, c, rfl, h4, h5⟩ := h
  refine ⟨a, c, rfl, fun z hz => ⟨(h4 z hz).1, (h4 z hz).2.agree (fun g hg => k.block g hg.2 (fun e => e)) (fun g hg => ⟨hg.1, Nat.lt_of_lt_of_le hg.2 k.size⟩)⟩, fun i z hz => ?_⟩
  obtain ⟨g, o, e, hg, hl, hr⟩ := h5 i z hz
  exact ⟨g, o, e, hg, Nat.lt_of_lt_of_le hl k.size, rangeAt_below hr k.toBelow' hl⟩

set_option maxHeartbeats 4000000 in
set_option maxRecDepth 100000 in
theorem own9_any {S : Nat → Prop} (w : World) (v : Value) (zs : List El) (hv : RW S w v zs) (hl : zs.length ≤ 100000) :
    Calls Tryz.prog 10 #[v] w fun e w' => ∃ u, e = .returned u ∧ Row w' 43 34 u zs.length (elS zs) ∧ (∀ x, u.ownBlock = some x → w.heap.size ≤ x) ∧ Kp No w w' := by
  have HV := hid hv
  obtain ⟨a, c, rfl, _⟩ := hv
  obtain ⟨n, hn⟩ : ∃ n, zs.length = n := ⟨_, rfl⟩
  have HN := hid hn
  rw [hn] at HV hl ⊢
  clear hn
  go_enter Tryz.func10, Tryz.ntmps10
  go_wp2_with fail
  go_loopw [3, 4] (fun vo vi wr => ∃ (k : Nat) (ad : Option Addr) (cap : Nat), k ≤ n ∧ vi = .int .i64 (k : Int) ∧ vo = .slice ad k cap ∧ Hid (Row wr 43 34 (.slice ad k cap) k (elS (zs.take k)) ∧ (∀ x, (Value.slice ad k cap).ownBlock = some x → w.heap.size ≤ x) ∧ Kp No w wr)) (fun _ vi _ => n - (intOf vi).toNat)
  case atStart => exact ⟨0, none, 0, Nat.zero_le _, rfl, rfl, Sim.Row.nil _ _ _, by intro x hx; simp [Value.ownBlock] at hx, Kp.refl _ _⟩
  case round =>
    obtain ⟨k, ad, cap, hk, rfl, rfl, HS⟩ := hrel
    by_cases hlt : k < n
    · have hltI : (k : Int) < (n : Int) := by omega
      obtain ⟨z, hz⟩ : ∃ z, zs[k]? = some z := ⟨_, List.getElem?_eq_getElem (by rw [HN.out]; exact hlt)⟩
      have hvr := HV.out.kept HS.out.2.2
      obtain ⟨a', c', e', h4, h5⟩ := id hvr
      simp only [Value.slice.injEq] at e'
      obtain ⟨rfl, en, rfl⟩ := e'
      obtain ⟨g, o, rfl, _, hgl, hrg⟩ := h5 k z hz
      have HRG := hid hrg
      have hzo := (h4 z (List.mem_of_getElem? hz)).1
      have hcl := elC_length hzo
      have HOW := hid (fun V => own11_any z.1.1 z.1.2.1 z.2.1 z.1.2.2.length z.2.2 V hzo.1)
      have HN1 := hid (fun V => run_oneF z hzo V)
      have HO1 := hid (elC_one z)
      have HTK : Hid (elS (zs.take (k + 1)) = elS (zs.take k) ++ elC z) := by rw [Hid, List.take_add_one, hz]; exact elS_snoc _ _
      obtain ⟨cx, hcx⟩ : ∃ cx, elC z = cx := ⟨_, rfl⟩
      have hcx' : recA z.1.1 z.1.2.1 (.slice z.2.1 z.1.2.2.length z.2.2) = cx := hcx
      rw [hcx] at HRG HN1 HO1 hcl HTK
      rw [hcx'] at HOW
      have HI : Hid ((Tryz.prog.info? 60).map (·.size) = some cx.length) := by rw [Hid, hcl]; exact Tryz.info26
      clear en hz hvr h4 h5 hrg hzo hcx hcx'
      go_wp2_with (refine wpList_load_mid (by rfl) 60 _ (by rfl) g (o + k * 34) (by rfl) cx _ HRG.out Tryz.underlying60 rfl HI.out ?_)
      refine (HOW.out _).mono ?_
      rintro e w2 ⟨rfl, hB⟩
      have hk2 : Kp No wr w2 := Kp.below hB
      have hal : Kp No w2 (w2.alloc (.cells cx.toArray 43)) := (Kp.refl No w2).alloc _
      have HK2 := hid (And.intro hk2 hal)
      have HR5 := hid ((HS.out.1.kept hk2).kept hal)
      have HSRC : Hid (Sim.Src (w2.alloc (.cells cx.toArray 43)) (.slice (some ⟨w2.heap.size, 0, none⟩) 1 1) 1 34 cx) := Sim.Src.one w2 cx 34 43 hcl HO1.out
      clear hB hk2 hal HOW
      go_wp2_with (first
        | (refine wpList_val (by rfl) (exec_slice1 37 _ (by rfl) (.agg cx.toArray) _ (by rfl) (HN1.out _)) ?_)
        | (refine Sim.app_row _ (by rfl) _ _ 37 43 (.agg zRec.toArray) 34 64 (by rfl) Tryz.underlying37 infoF rfl (by omega) (.slice ad k cap) (.slice (some ⟨w2.heap.size, 0, none⟩) 1 1) k 1 (elS (zs.take k)) cx (by rfl) (by rfl) HR5.out HSRC.out (by omega) (by omega) ?_; intro ad2 cap2 w6 hrow6 hgr6 hown6))
      refine ⟨⟨k + 1, ad2, cap2, by omega, by go_num, rfl, ?_, ?_, ?_⟩, by simp [intOf]; omega⟩
      · rw [HTK.out]; exact hrow6
      · intro x hx
        have h1 := HK2.out.1.size
        have h2 := HK2.out.2.size
        have h3 := HS.out.2.2.size
        rcases hown6 with e | e
        · rw [e] at hx; exact HS.out.2.1 x hx
        · rw [e] at hx
          have : (w2.alloc (.cells cx.toArray 43)).heap.size = x := by simpa using hx
          omega
      · exact ((HS.out.2.2.andNone HK2.out.1).andNone HK2.out.2).grown hgr6 (fun x hx => .inr (HS.out.2.1 x hx))
    · have hltI : ¬ (k : Int) < (n : Int) := by omega
      have hkn : k = n := by omega
      subst hkn
      have HTK : Hid (zs.take k = zs) := by rw [← HN.out]; exact List.take_length
      go_wp2_with fail
      go_ret
      rw [HTK.out] at HS
      exact ⟨_, rfl, HS.out⟩

end Go.Proofs.YtkpibphalhhkdaaGreatDoor.Sh
end

section
/-
  alive of the ninth law.
-/
namespace Go.Proofs.YtkpibphalhhkdaaGreatDoor.Sh
open Go.RowKit Go.Shelf
open Tlv (BySlS)
open Sim (hid Kp No PS Blk nm finds pBytes pList startPS Row)

theorem builtX (k : Int) (a : Option Addr) (l c : Nat) : Tryz.prog.built 60 [(0, .int .i64 k), (2, .slice a l c)] = some (recA k (List.replicate 32 0) (.slice a l c)).toArray := by kernel_rfl
theorem run_oneX (a : Option Addr) (w : World) : (Instr.buildSlice 22 1 #[(0, .agg (recA 1 (List.replicate 32 0) (.slice a 1 1)).toArray)]).run Tryz.prog w = .ok (.slice (some ⟨w.heap.size, 0, none⟩) 1 1) (w.alloc (.cells (recA 1 (List.replicate 32 0) (.slice a 1 1)).toArray 60)) := by kernel_rfl
theorem lit_x (w : World) (fr : Nat × Nat) : BySlS (fun g => g = w.heap.size) (w.alloc (.cells #[.int .u8 120] 5 fr)) (.slice (some ⟨w.heap.size, 0, none⟩) 1 1) [120] := by
  refine ⟨_, 1, rfl, Nat.le_refl _, by unfold maxLen; omega, by simp, by simp, by simp, fun _ => ⟨w.heap.size, 0, rfl, rfl, fun i hi => ?_⟩⟩
  have hi0 : i = 0 := by simpa using hi
  subst hi0
  rw [Nat.zero_add, World.cell?_alloc_mark]
  rfl
theorem rX_elok (a : Option Addr) (c : Nat) : elOk ((rX, a, c) : El) := ⟨by simp [rX], fun y hy => by have := List.eq_of_mem_replicate (show y ∈ List.replicate 32 (0 : Int) from hy); omega⟩
theorem rX_okR (a : Option Addr) (c : Nat) : [((rX, a, c) : El)].all okR = true := by simp [okR, rX, rightB]
/-- The record as it comes in. -/
theorem rv_x (w w1 : World) (k : Kp No w w1) (W : World) (x : Nat) (hx : BySlS (fun g => g = x) w1 (.slice (some ⟨x, 0, none⟩) 1 1) [120]) (hx2 : w.heap.size ≤ x ∧ x < w1.heap.size) (hW : W = w1.alloc (.cells (recA 1 (List.replicate 32 0) (.slice (some ⟨x, 0, none⟩) 1 1)).toArray 60)) :
    RV (fun g => w.heap.size ≤ g ∧ g < W.heap.size) W (.slice (some ⟨w1.heap.size, 0, none⟩) 1 1) [((rX, some ⟨x, 0, none⟩, 1) : El)] := by
  have hk : Kp No w1 W := by rw [hW]; exact (Kp.refl No w1).alloc _
  have hs : W.heap.size = w1.heap.size + 1 := by rw [hW]; simp
  have hsz := k.size
  refine ⟨_, 1, rfl, Nat.le_refl _, by unfold maxLen; omega, by simp, fun z hz => ?_, fun _ => ⟨w1.heap.size, 0, rfl, ⟨by omega, by omega⟩, by omega, fun i z hz j v hv => ?_⟩⟩
  · obtain rfl := List.mem_singleton.1 hz
    exact ⟨rX_elok _ _, bySlS_kp hx hk (fun g hg => ⟨fun e => e, by omega, ⟨by omega, by omega⟩, by omega⟩)⟩
  · have hi0 : i = 0 := by
      have := (List.getElem?_eq_some_iff.1 hz).1
      simp at this
      omega
    subst hi0
    simp at hz
    subst hz
    rw [hW, World.cell?_alloc_at _ _ _ _ rfl]
    simpa [elC, elV, rX] using hv

set_option maxHeartbeats 8000000 in
set_option maxRecDepth 100000 in
theorem alive_any (w : World) (hV : Vars w) : Calls Tryz.prog 5 #[] w fun e w' => e = .returned (.bool true) ∧ Kp No w w' := by
  have HV := hid hV
  clear hV
  have hz0 := zero35
  obtain ⟨Z, hZ⟩ : ∃ Z, zRec = Z := ⟨_, rfl⟩
  have HZL : Hid (Z.length = 34) := by rw [← hZ]; exact zRec_length
  rw [hZ] at hz0
  clear hZ
  have kc := fun (w : World) (C : Array Value) (n c : Nat) => Lib.run_convert_bytes_const (P := Tryz.prog) w 41 5 C n c Tryz.underlying41 Tryz.underlying5
  go_enter Tryz.func5, Tryz.ntmps5
  go_wp2_with fail
  refine (Sim.new_yes 1000 (by omega) w).mono ?_
  rintro e w1 ⟨rfl, hS1, hK1⟩
  have HS1 := hid hS1
  have HK1 := hid hK1
  have hl1 : w.heap.size < w1.heap.size := hS1.lt _ rfl
  clear hS1 hK1
  go_wp2_with fail
  refine (Crc.new_any w1).mono ?_
  rintro e w2 ⟨rfl, hb2, hs2, ht2⟩
  have HS2 : Hid (Sim.Sys (· = w.heap.size) 0 w2 w.heap.size (startPS 1000)) := HS1.out.kept (Kp.below hb2)
  have HT2 : Hid (TabX w2 w1.heap.size) := ⟨0, 0, .inl rfl, ht2⟩
  have HK2 : Hid (Kp No w w2) := HK1.out.andNone (Kp.below hb2)
  have hl2 : w1.heap.size < w2.heap.size := by omega
  clear hb2 hs2 ht2 HS1 HK1
  go_wp2_with fail
  refine (open_any w2 w.heap.size w1.heap.size (startPS 1000) HS2.out (by simp [list_start]) (by simp [list_start])).mono ?_
  rintro e w3 ho
  have ho' : ∃ g P', e = .returned (.tuple #[.pointer (some ⟨g, 0, none⟩), .int .i64 0]) ∧ ShAt w3 g w.heap.size w1.heap.size 0 ∧ Sim.Sys P' 1 w3 w.heap.size (startPS 1000) ∧ Kp (· = w.heap.size) w2 w3 ∧ (∀ y, P' y → y = w.heap.size ∨ w2.heap.size ≤ y) ∧ ¬ P' g ∧ w2.heap.size ≤ g := by
    rcases ho with ⟨h, _⟩ | ⟨_, g, P', h1, h2, h3, h4, h5, h6, h7⟩
    · exact absurd rfl h
    · exact ⟨g, P', h1, h2, h3, h4, h5, h6, h7⟩
  clear ho
  obtain ⟨g, P', rfl, hH, hS3, hK3, hP3, hPg, hg2⟩ := ho'
  have hgl := hH.lt
  have HPB : Hid (¬ P' w1.heap.size ∧ ¬ P' g) := ⟨fun e => by rcases hP3 _ e with e | e <;> omega, hPg⟩
  have HPL : Hid (∀ y, P' y → w.heap.size ≤ y ∧ y < w3.heap.size) := fun y hy => ⟨by rcases hP3 y hy with e | e <;> omega, hS3.lt y hy⟩
  have HT3 : Hid (TabX w3 w1.heap.size) := HT2.out.kp hK3 (fun e => by have e' : w1.heap.size = w.heap.size := e; omega)
  have HK3 : Hid (Kp No w w3) := HK2.out.trans hK3 (fun y hy => .inr (by have e' : y = w.heap.size := hy; omega))
  have HH3 := hid (And.intro hH hS3)
  have hl3 := hK3.size
  have hgb : g ≠ w1.heap.size := by omega
  clear hH hS3 hK3 hP3 hPg HS2 HT2 HK2
  obtain ⟨W3, hW3⟩ : ∃ W3, w3.alloc (Obj.cells #[Value.int IntKind.u8 120] 5 (1, 2)) = W3 := ⟨_, rfl⟩
  have HX3 : Hid (BySlS (fun g => g = w3.heap.size) W3 (.slice (some ⟨w3.heap.size, 0, none⟩) 1 1) [120]) := by rw [Hid, ← hW3]; exact lit_x w3 (1, 2)
  have HKW : Hid (Kp No w3 W3) := by rw [Hid, ← hW3]; exact (Kp.refl No _).alloc _
  have HSW : Hid (W3.heap.size = w3.heap.size + 1) := by rw [Hid, ← hW3]; simp
  have HBU := hid (builtX 1 (some ⟨w3.heap.size, 0, none⟩) 1 1)
  have HRUN := hid (run_oneX (some ⟨w3.heap.size, 0, none⟩) W3)
  obtain ⟨C2, hC2⟩ : ∃ C2, recA 1 (List.replicate 32 0) (.slice (some ⟨w3.heap.size, 0, none⟩) 1 1) = C2 := ⟨_, rfl⟩
  have HC2 := hid hC2
  have HRV : Hid (RV (fun g => w3.heap.size ≤ g ∧ g < (W3.alloc (.cells C2.toArray 60)).heap.size) (W3.alloc (.cells C2.toArray 60)) (.slice (some ⟨W3.heap.size, 0, none⟩) 1 1) [((rX, some ⟨w3.heap.size, 0, none⟩, 1) : El)]) :=
    rv_x w3 W3 HKW.out _ w3.heap.size HX3.out (by have := HSW.out; omega) (by rw [hC2])
  have HOWN := hid (own9_any (W3.alloc (.cells C2.toArray 60)) _ _ HRV.out.rw (by simp))
  rw [hC2] at HBU HRUN
  clear hC2
  go_wp2_with (first
    | (refine wpList_build2 (by rfl) 60 _ _ _ _ (by rfl) _ _ (by rfl) (by rfl) _ HBU.out ?_)
    | (refine wpList_val (by rfl) (exec_slice1 22 _ (by rfl) (.agg C2.toArray) _ (by rfl) HRUN.out) ?_))
  clear hW3 kc
  refine HOWN.out.mono ?_
  rintro e w5 ⟨u, rfl, hrow, hou, hk5⟩
  obtain ⟨W4, hW4⟩ : ∃ W4, W3.alloc (.cells C2.toArray 60) = W4 := ⟨_, rfl⟩
  rw [hW4] at hk5 hou
  have hs4 : W4.heap.size = w3.heap.size + 2 := by
    rw [← hW4]
    have := HSW.out
    simp
    omega
  have k34 : Kp No W3 W4 := by rw [← hW4]; exact (Kp.refl No W3).alloc _
  have k35 : Kp No w3 w5 := (HKW.out.andNone k34).andNone hk5
  have hs5 := hk5.size
  have hrv := row_rv (S := fun x => w3.heap.size ≤ x ∧ x < w5.heap.size) hrow (fun z hz => by
    obtain rfl := List.mem_singleton.1 hz
    exact ⟨rX_elok _ _, bySlS_kp HX3.out (k34.andNone hk5) (fun y hy => ⟨fun e => e, by have := HSW.out; omega, ⟨by omega, by omega⟩, by omega⟩)⟩)
  have hK5 : Kp No w w5 := HK3.out.andNone k35
  have HLAY := hid (lay_yes (P := P') (N := 1) w5 g w.heap.size w1.heap.size 0 (startPS 1000) 1 u _ pre_x (by rw [parts_x]; exact Nat.le_refl _) (fun _ => ⟨rfl, rfl⟩)
    (HH3.out.1.kp k35 (fun h => h)) (HH3.out.2.kept k35) (HT3.out.kp k35 (fun h => h)) HPB.out.1 HPB.out.2 hgb (fun V k => Vars.kept HV.out (hK5.trans k (fun y hy => .inr (by
      rcases hy with e | e | e
      · exact (HPL.out y e).1
      · omega
      · omega)))) (by simp [list_start]) (by simp [ids_start]) max_start (by omega) hrv (fun y hy => by
      have h1 : w3.heap.size ≤ y ∧ y < w5.heap.size := by
        rcases hy with e | e
        · exact e
        · have h1 := hou y e
          have h2 := hrow.lt y e
          omega
      refine ⟨?_, h1.2⟩
      rintro (e | e | e)
      · have := (HPL.out y e).2
        omega
      · omega
      · omega) (rX_okR _ _) (by simp))
  have HK5 := hid hK5
  have hs35 := k35.size
  obtain ⟨au, cu, rfl, _⟩ := hrow.shape
  clear hW4 hk5 hou hs4 k34 k35 hs5 hrv hK5 hrow HRV HOWN HX3 HT3 HH3 HBU HRUN
  go_wp2_with fail
  refine HLAY.out.mono ?_
  rintro e w6 ⟨u6, φ, rfl, hA⟩
  obtain rfl : φ = 0 := Classical.byContradiction fun hφ => by
    obtain ⟨_, ps, hps⟩ := hA.2 hφ
    exact hφ (lay_x hps)
  obtain ⟨p, n, qs, P6, hLR, _, hH6, hT6, hS6, hP6, hK6, hR6, ho6⟩ := hA.1 rfl
  rw [parts_x] at hLR
  obtain ⟨x, rfl, rfl, rfl⟩ := layR_x hLR
  obtain ⟨a6, c6, rfl, _, _, hn6, hsp6⟩ := hR6.shape
  obtain ⟨gW, rfl⟩ : ∃ gW, a6 = some ⟨gW, 0, none⟩ := by
    cases a6 with
    | none => exact absurd (hn6 rfl).1 (by simp)
    | some y =>
      obtain ⟨h1, h2⟩ := hsp6 y rfl
      obtain ⟨gy, oy, sy⟩ := y
      simp only at h1 h2
      subst h1
      subst h2
      exact ⟨gy, rfl⟩
  have HRG : Hid (w6.rangeAt gW 0 [.int .i64 1, .int .i64 0, .int .i64 50]) := fun j v hv => by
    have hj := (List.getElem?_eq_some_iff.1 hv).1
    rw [Nat.zero_add, hR6.cellAt j (by simpa using hj)]
    exact hv
  have HIW : Hid ((Tryz.prog.info? 47).map (·.size) = some [Value.int .i64 1, .int .i64 0, .int .i64 50].length) := hid (by kernel_rfl)
  have eb : pBytes (nm (nameP 1)) (dX x) = nats (frOf rX) := Sim.q5_bytes nP1
  have HRD : Hid (Calls Tryz.prog 11 #[.pointer (some ⟨g, 0, none⟩), .agg #[.int .i64 1, .int .i64 0, .int .i64 50]] w6 _) := read_any w6 g w.heap.size w1.heap.size 1 (dX x) 1 0 50 (by omega) (by omega) hH6 hS6 hT6 hgb (by rw [eb]; exact nats_lt _ (frameR_bd rX_ok)) (by rw [eb, nats_length]; have := rX_len; omega)
  have HK6 : Hid (Kp No w w6) := HK5.out.trans hK6 (fun y hy => .inr (by
    rcases hy with e | e | e
    · exact (HPL.out y e).1
    · omega
    · omega))
  have hp6 : ¬ P6 w1.heap.size := fun e => by
    rcases hP6 _ e with e | e
    · exact HPB.out.1 e
    · omega
  have hs6 := hK6.size
  have HH6 := hid (And.intro hH6 (And.intro hS6 hp6))
  clear hA hLR hn6 hsp6 hR6 ho6 hH6 hT6 hS6 hP6 hK6 eb HLAY hp6
  go_wp2_with (refine wpList_load_mid (by rfl) 47 _ (by rfl) gW 0 (by rfl) [.int .i64 1, .int .i64 0, .int .i64 50] _ HRG.out Tryz.underlying47 rfl HIW.out ?_)
  refine HRD.out.mono ?_
  rintro e w7 ⟨y, f, rfl, hyo, hyb, hra, hk7, hT7⟩
  obtain ⟨rfl, hy⟩ := read_x hra
  obtain ⟨yr, ya, yc⟩ := y
  dsimp only at hy
  subst hy
  have HCL : Hid ((elC ((rX, ya, yc) : El)).length = 34) := elC_length hyo
  have HC1 : Hid ((elC ((rX, ya, yc) : El)).toArray.all (·.oneCell') = true) := all_oneCell_toArray (elC_one _)
  have HC3 : Hid ((elC ((rX, ya, yc) : El))[33]? = some (.slice ya 1 yc)) := by rfl
  obtain ⟨cy, hcy⟩ : ∃ cy, elC ((rX, ya, yc) : El) = cy := ⟨_, rfl⟩
  rw [hcy] at HCL HC1 HC3 ⊢
  have HICA : Hid ((Tryz.prog.info? 43).map (·.size) = some cy.toArray.size) := by
    have h := Tryz.info35
    show _ = some cy.length
    rw [HCL.out]
    exact h
  have HT7 : Hid (World.there (w7.alloc (.cells Z.toArray 43)) w7.heap.size 0 cy.toArray.size) := by
    have h := there_new w7 Z 43
    rw [HZL.out] at h
    show World.there _ _ _ cy.length
    rw [HCL.out]
    exact h
  obtain ⟨W8, hW8⟩ : ∃ W8, (w7.alloc (.cells Z.toArray 43)).setCells w7.heap.size 0 cy = W8 := ⟨_, rfl⟩
  have k78 : Kp No w7 W8 := by rw [← hW8]; exact kp_set ((Kp.refl No w7).alloc _) (Or.inr (Nat.le_refl _)) _ _
  have c8 : W8.cell? ⟨w7.heap.size, 33, none⟩ = some (.slice ya 1 yc) := by
    rw [← hW8]
    have h := World.rangeAt_setCells_same _ _ _ _ HT7.out 33 _ HC3.out
    simpa using h
  have hs7 := hk7.size
  have hcv : (convert 41 9 (.slice ya 1 yc)).run Tryz.prog W8 = .ok (.string ⟨#[120]⟩) W8 := by
    have hse : strOfNums [120] = ⟨#[120]⟩ := by decide +kernel
    rw [← hse]
    exact Tlv.conv_bytes ((bySlS_kp hyb k78 (S' := fun x => x < W8.heap.size) (fun g hg => ⟨fun e => e, hg.2, Nat.lt_of_lt_of_le hg.2 k78.size⟩)).to (B := W8.heap.size) (fun g hg => hg))
  have k68 : Kp (fun x => x = w1.heap.size) w6 W8 := hk7.andNone k78
  have K8 : Hid (Kp No w W8) := HK6.out.trans k68 (fun y hy => .inr (by have e' : y = w1.heap.size := hy; omega))
  have HNX := hid (next_any W8 g w.heap.size w1.heap.size 1 (dX x) (HH6.out.1.kp k68 hgb) (HH6.out.2.1.kp k68 (fun y hy e => HH6.out.2.2 (hy ▸ e))) (Vars.kept HV.out K8.out) (by rw [list_x, nameP_1]; intro n hn; obtain rfl := List.mem_singleton.1 hn; decide) (by rw [ids_x]; decide) (by rw [ids_x, max_x]; decide))
  rw [ids_x, max_x] at HNX
  clear hyo hyb hra hk7 hT7 k78 k68 hcy
  go_wp2_with (first
    | (refine wpList_store_mid (by rfl) 43 _ _ (by rfl) w7.heap.size 0 cy.toArray (by rfl) (by rfl) HT7.out HICA.out HC1.out ?_)
    | (go_at_call 15; refine (HNX.out).mono ?_; rintro e w9 ⟨rfl, hk9⟩; have HK9 := hid hk9; clear hk9))
  go_ret
  exact ⟨rfl, K8.out.andNone HK9.out⟩
end Go.Proofs.YtkpibphalhhkdaaGreatDoor.Sh
end
