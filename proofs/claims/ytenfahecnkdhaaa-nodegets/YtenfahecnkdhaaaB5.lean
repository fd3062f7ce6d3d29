/- Of the proof: the texts NdVal, NdMany, NdValM, NdValue, one behind the other. -/
import Derived.Test.YtenfahecnkdhaaaB4
import Derived.Deep.RegionHeld3
section
/-
  An entry's value in tlv's words.
-/
namespace Go.Proofs.Ytenfahecnkdhaaa.Nd
open Go.RowKit
open Tlv (Tr Agree)
open Sim (hid Kp No)

theorem bySl_lift {L : Nat} {V w' : World} {v : Value} {bs : List Int} (h : Tlv.BySl L V.heap.size V v bs) (hb : Below V.heap.size V w') : Tlv.BySl L w'.heap.size w' v bs :=
  h.agree (Agree.below hb) (Nat.le_refl _) hb.size

theorem rep1 {L B : Nat} {w : World} (k : Int) (h0 : 0 ≤ k) (h1 : k ≤ 18446744073709551615) : Tlv.Rep L B w 1 (Tr.mk 1 k [] []) (.slice none 0 0) (.slice none 0 0) :=
  ⟨h0, h1, Tlv.BySl.none _ _ _, Tlv.KSl.none _ _ _ _⟩
theorem rep2 {L B : Nat} {w : World} {v : Value} {bs : List Int} (h : Tlv.BySl L B w v bs) : Tlv.Rep L B w 1 (Tr.mk 2 0 bs []) v (.slice none 0 0) :=
  ⟨Int.le_refl _, by simp [Tr.mk, Tlv.Tr.hd], h, Tlv.KSl.none _ _ _ _⟩

theorem bytes44 {S : World → Prop} {W0 : World} {L : Nat} {bs : List Int} {v : Value} (hL : bs.length = L) (hS : ∀ V, S V → Below W0.heap.size W0 V) (hb : Tlv.BySl 0 W0.heap.size W0 v bs) :
    ∀ V, S V → Calls Try.prog 66 #[v] V fun e w' => ∃ a' c', e = .returned (.agg #[.int .i64 2, .int .u64 0, .slice a' L c', .slice none 0 0]) ∧ (Tlv.BySl W0.heap.size w'.heap.size w' (.slice a' L c') bs ∧ Below V.heap.size V w') := by
  intro V hV
  have hk := hS V hV
  refine (Tlv.bytes_any v bs V (hb.agree (Agree.below hk) (Nat.le_refl _) hk.size)).mono ?_
  rintro e w' ⟨v', rfl, hv, hb'⟩
  obtain ⟨a', c', rfl, hr⟩ := id hv
  refine ⟨a', c', by rw [hL], ?_, hb'⟩
  rw [← hL]
  exact hv.agree (Agree.refl _ _ _) hk.size (Nat.le_refl _)

/-- An entry's value, and that of entries. -/
def entT (e : Ent) : Tr 2 := Tr.mk 3 0 [] [(Tr.mk 2 0 e.1 [] : Tr 1), Tr.mk 1 (if e.2.1 then 1 else 0) [] [], Tr.mk 2 0 e.2.2 []]
def entsT (d : List Ent) : Tr 3 := Tr.mk 3 0 [] (d.map entT)

theorem threeIn {w : World} (nm hs : List Int) (q : Int) (vn vh : Value) (h0 : 0 ≤ q ∧ q ≤ 1000000) (bn : Tlv.BySl 0 w.heap.size w vn nm) (bh : Tlv.BySl 0 w.heap.size w vh hs) (ty : TypeId) (C : Array Value)
    (hC : C = #[.int .i64 2, .int .u64 0, vn, .slice none 0 0, .int .i64 1, .int .u64 q, .slice none 0 0, .slice none 0 0, .int .i64 2, .int .u64 0, vh, .slice none 0 0]) :
    Tlv.KSl 0 (w.heap.size + 1) (w.alloc (.cells C ty)) (Tlv.Rep 0 (w.heap.size + 1) (w.alloc (.cells C ty)) 1)
      (.slice (some ⟨w.heap.size, 0, none⟩) 3 3) [(Tr.mk 2 0 nm [] : Tr 1), Tr.mk 1 q [] [], Tr.mk 2 0 hs []] := by
  subst hC
  have hA : ∀ o : Obj, Agree 0 w.heap.size w (w.alloc o) := fun o => (Agree.refl _ _ _).alloc (Nat.le_refl _) _
  have hc : ∀ (C : Array Value) (j : Nat), (w.alloc (.cells C ty)).cell? ⟨w.heap.size, j, none⟩ = C[j]? := fun C j => World.cell?_alloc_at _ _ _ _ rfl
  refine ⟨_, 3, rfl, Nat.le_refl _, by decide, by simp, by simp, fun _ => ⟨w.heap.size, 0, rfl, Nat.zero_le _, by omega, fun j t hj => ?_⟩⟩
  match j, hj with
  | 0, hj =>
    simp only [List.getElem?_cons_zero, Option.some.injEq] at hj
    subst hj
    exact ⟨_, _, hc _ _, hc _ _, hc _ _, hc _ _, rep2 (bn.agree (hA _) (Nat.le_refl _) (by omega))⟩
  | 1, hj =>
    simp only [List.getElem?_cons_succ, List.getElem?_cons_zero, Option.some.injEq] at hj
    subst hj
    exact ⟨_, _, hc _ _, hc _ _, hc _ _, hc _ _, rep1 _ h0.1 (by omega)⟩
  | 2, hj =>
    simp only [List.getElem?_cons_succ, List.getElem?_cons_zero, Option.some.injEq] at hj
    subst hj
    exact ⟨_, _, hc _ _, hc _ _, hc _ _, hc _ _, rep2 (bh.agree (hA _) (Nat.le_refl _) (by omega))⟩

theorem many3 {L : Nat} {w : World} {q : Int} {nm hs : List Int} {vn vh : Value} (h0 : 0 ≤ q ∧ q ≤ 1000000) (bn : Tlv.BySl L w.heap.size w vn nm) (bh : Tlv.BySl L w.heap.size w vh hs) :
    Calls Try.prog 65 #[.slice (some ⟨w.heap.size, 0, none⟩) 3 3] (w.alloc (.cells #[.int .i64 2, .int .u64 0, vn, .slice none 0 0, .int .i64 1, .int .u64 q, .slice none 0 0, .slice none 0 0, .int .i64 2, .int .u64 0, vh, .slice none 0 0] 95))
      fun e w' => ∃ a3 l3 p3 a4 l4 p4, e = .returned (.agg #[.int .i64 3, .int .u64 0, .slice a3 l3 p3, .slice a4 l4 p4]) ∧ Tlv.Rep w.heap.size w'.heap.size w' 2 (Tr.mk 3 0 [] [(Tr.mk 2 0 nm [] : Tr 1), Tr.mk 1 q [] [], Tr.mk 2 0 hs []]) (.slice a3 l3 p3) (.slice a4 l4 p4) ∧ Below w.heap.size w w' := by
  have h := threeIn (w := w) nm hs q vn vh h0 (bn.agree (Agree.refl _ _ _) (Nat.zero_le _) (Nat.le_refl _)) (bh.agree (Agree.refl _ _ _) (Nat.zero_le _) (Nat.le_refl _)) 95 _ rfl
  refine (Tlv.many_any _ _ _ (by simpa using h) (by omega)).mono ?_
  rintro e w5 ⟨sb', sk', rfl, hr5, hb5⟩
  obtain ⟨a3, l3, p3, a4, l4, p4, rfl, rfl⟩ := hr5.sl
  exact ⟨_, _, _, _, _, _, rfl, hr5.agree (Agree.refl _ _ _) (by simp) (Nat.le_refl _), ((Below.refl _ w).alloc (Nat.le_refl _) _).trans (hb5.mono (by simp))⟩

theorem hashIn {W : World} {g o : Nat} {e : Ent} (he : EOk e) (hg : g < W.heap.size) (h : W.rangeAt g o (entC e)) : Tlv.BySl 0 W.heap.size W (.slice (some ⟨g, o + 2, none⟩) 32 32) e.2.2 := by
  refine ⟨_, 32, by rw [he.2.1], by rw [he.2.1]; omega, by decide, by simp, by rw [he.2.1]; omega, he.2.2, fun _ => ⟨g, o + 2, rfl, Nat.zero_le _, hg, fun i hi => ?_⟩⟩
  have := rng_hash h i (.int .u8 (e.2.2.getD i 0)) (by simp [b8, List.getElem?_eq_getElem hi])
  exact this
theorem exec_conv {P : Program} {o : Oper} {a : Act} {w w' : World} (s d : TypeId) (x : Operand) (ho : o.op = .convert s d x) (v u : Value) (hx : a.eval x = v) (hr : (convert s d v).run P w = .ok u w') : (execOp a.eval o).run P w = .ok (.value u) w' := by
  unfold execOp
  simp [ho, hx, hr, Result.andThen]
theorem exec_slice3 {P : Program} {o : Oper} {a : Act} {w w' : World} (t : TypeId) (x y z : Operand) (ho : o.op = .buildSlice t 3 #[(0, x), (1, y), (2, z)]) (v1 v2 v3 u : Value) (hx : a.eval x = v1) (hy : a.eval y = v2) (hz : a.eval z = v3) (hr : (Instr.buildSlice t 3 #[(0, v1), (1, v2), (2, v3)]).run P w = .ok u w') : (execOp a.eval o).run P w = .ok (.value u) w' := by
  unfold execOp
  simp [ho, hx, hy, hz, hr, Result.andThen]
theorem run_threeV (t1 t2 t3 n1 n2 n3 : Int) (b1 b2 b3 k1 k2 k3 : Value) (w : World) : (Instr.buildSlice 93 3 #[(0, .agg #[.int .i64 t1, .int .u64 n1, b1, k1]), (1, .agg #[.int .i64 t2, .int .u64 n2, b2, k2]), (2, .agg #[.int .i64 t3, .int .u64 n3, b3, k3])]).run Try.prog w = .ok (.slice (some ⟨w.heap.size, 0, none⟩) 3 3) (w.alloc (.cells #[.int .i64 t1, .int .u64 n1, b1, k1, .int .i64 t2, .int .u64 n2, b2, k2, .int .i64 t3, .int .u64 n3, b3, k3] 95)) := by kernel_rfl

set_option maxHeartbeats 2000000 in
set_option maxRecDepth 100000 in
theorem entval_any (nm : List Int) (p : Bool) (hs : List Int) (w : World) (he : EOk (nm, p, hs)) (hl : nm.length ≤ 1000000) :
    Calls Try.prog 71 #[.agg (entC (nm, p, hs)).toArray] w fun e w' => ∃ a3 l3 p3 a4 l4 p4, e = .returned (.agg #[.int .i64 3, .int .u64 0, .slice a3 l3 p3, .slice a4 l4 p4]) ∧ Tlv.Rep w.heap.size w'.heap.size w' 2 (entT (nm, p, hs)) (.slice a3 l3 p3) (.slice a4 l4 p4) ∧ Below w.heap.size w w' := by
  have HE := hid he
  have HL := hid hl
  have h0 : 0 ≤ (if p then (1 : Int) else 0) ∧ (if p then (1 : Int) else 0) ≤ 1000000 := by cases p <;> simp
  have hpl : ∀ (W : World) (g : Nat), W.rangeAt g 0 (entC (nm, p, hs)) → W.cell? ⟨g, 0, none⟩ = some (.string (txt nm)) ∧ W.cell? ⟨g, 1, none⟩ = some (.bool p) := fun W g h => ⟨h 0 _ rfl, h 1 _ rfl⟩
  have HPL := hid hpl
  clear hpl he hl
  obtain ⟨C, hC⟩ : ∃ C, entC (nm, p, hs) = C := ⟨_, rfl⟩
  have HC := hid hC
  rw [hC]
  clear hC
  obtain ⟨T, hT⟩ : ∃ T, txt nm = T := ⟨_, rfl⟩
  have HT := hid hT
  obtain ⟨W0, hW0⟩ : ∃ W0, (w.alloc (.cells C.toArray 70)).alloc (.cells #[.int .i64 0, .int .u64 0, .slice none 0 0, .slice none 0 0] 95) = W0 := ⟨_, rfl⟩
  have hz : W0.heap.size = w.heap.size + 2 := by rw [← hW0]; simp
  have hbel : Below w.heap.size w W0 := by rw [← hW0]; exact ((Below.refl _ _).alloc (Nat.le_refl _) _).alloc (by simp) _
  have hrg : W0.rangeAt w.heap.size 0 C := by
    rw [← hW0]
    refine World.rangeAt_alloc (fun j v hv => ?_) _
    rw [Nat.zero_add, World.cell?_alloc_at _ _ _ _ rfl]
    simpa using hv
  have HG : Hid (∀ j u, (#[.int .i64 0, .int .u64 0, .slice none 0 0, .slice none 0 0] : Array Value)[j]? = some u → W0.cell? ⟨w.heap.size + 1, j, none⟩ = some u) := fun j u hj => by
    rw [← hW0, World.cell?_alloc_at _ _ _ _ (by simp), hj]
  have HF : Hid (∀ j, W0.frozen? ⟨w.heap.size + 1, j, none⟩ = false) := fun j => by
    rw [← hW0, World.frozen?_alloc_at _ _ _ _ (by simp)]
  have hplC := HPL.out W0 w.heap.size (by rw [HC.out]; exact hrg)
  rw [hT] at hplC
  have HRC : Hid (∀ V, Below (w.heap.size + 1) W0 V → V.cell? ⟨w.heap.size, 0, none⟩ = some (.string T)) := fun V h => (h.cell (p := ⟨w.heap.size, 0, none⟩) (by simp)).trans hplC.1
  have hwn := hashIn (W := W0) (g := w.heap.size) (o := 0) HE.out (by omega) (by rw [HC.out]; exact hrg)
  have K44 := hid (bytes44 (S := fun V => Below W0.heap.size W0 V) HE.out.2.1 (fun V h => h) hwn)
  have q1 := hplC.2
  have HZ := hid hz
  have HZ2 : Hid (w.heap.size + 1 ≤ W0.heap.size) := by rw [Hid]; omega
  have HBEL := hid hbel
  have HCV := hid (fun V => conv_txt nm HE.out.1 HL.out V)
  rw [hT] at HCV
  have HW0 := hid hW0
  rw [← hW0] at q1
  clear hz hbel hrg hwn hplC hW0 hT
  go_enter Try.func71, Try.ntmps71
  cases p
  · go_wp2_with fail
    rw [HW0.out]
    clear q1
    refine wp_region_held_drew (S := fun V => Below (w.heap.size + 1) W0 V) (by kernel_rfl) ((Below.refl _ _).drew) (fun hHeld => ?_)
    refine wpAnyH_take (i := 0) (oi := { dst := some 6, op := Op.fieldAddr 70 (Operand.tmp 1) 0, type := 0, pos := "dir.go:108", after := #[], guard := none }) (v := .pointer (some ⟨w.heap.size, 0, none⟩)) rfl (by kernel_rfl) (by kernel_rfl) (by kernel_rfl) (fun _ _ _ h => h) (Or.inl ⟨by rfl, fun w' hw' => by (clear hw'; go_simp)⟩) hHeld ?_
    simp only [Act.put, List.setIfInBounds_toArray, List.set_cons_zero, List.set_cons_succ]
    refine wpAnyH_take (i := 1) (oi := { dst := some 7, op := Op.load 9 (Operand.tmp 6), type := 9, pos := "dir.go:108", after := #[{ on := 0, ground := Ground.data }], guard := none }) (v := .string T) rfl (by kernel_rfl) (by kernel_rfl) (by kernel_rfl) (fun _ _ _ h => h) (Or.inl ⟨by rfl, fun w' hw' => by (have q := HRC.out _ hw'; clear hw'; go_simp)⟩) hHeld ?_
    simp only [Act.put, List.setIfInBounds_toArray, List.set_cons_zero, List.set_cons_succ]
    refine wpAnyH_take (i := 4) (oi := { dst := some 10, op := Op.move (Operand.tmp 3), type := 83, pos := "dir.go:108", after := #[], guard := none }) (v := .int .u64 0) rfl (by kernel_rfl) (by kernel_rfl) (by kernel_rfl) (fun _ _ _ h => h) (Or.inl ⟨by rfl, fun w' hw' => by (clear hw'; go_simp)⟩) hHeld ?_
    simp only [Act.put, List.setIfInBounds_toArray, List.set_cons_zero, List.set_cons_succ]
    refine wpAnyH_take (i := 6) (oi := { dst := some 12, op := Op.fieldAddr 70 (Operand.tmp 1) 2, type := 0, pos := "dir.go:108", after := #[], guard := none }) (v := .pointer (some ⟨w.heap.size, 2, none⟩)) rfl (by kernel_rfl) (by kernel_rfl) (by kernel_rfl) (fun _ _ _ h => h) (Or.inl ⟨by rfl, fun w' hw' => by (clear hw'; go_simp)⟩) hHeld ?_
    simp only [Act.put, List.setIfInBounds_toArray, List.set_cons_zero, List.set_cons_succ]
    refine wpAnyH_take (i := 7) (oi := { dst := some 13, op := Op.slice 68 (Operand.tmp 12) none none none, type := 26, pos := "dir.go:108", after := #[{ on := 6, ground := Ground.data }], guard := none }) (v := .slice (some ⟨w.heap.size, 2, none⟩) 32 32) rfl (by kernel_rfl) (by kernel_rfl) (by kernel_rfl) (fun _ _ _ h => h) (Or.inl ⟨by rfl, fun w' hw' => by (clear hw'; go_simp)⟩) hHeld ?_
    simp only [Act.put, List.setIfInBounds_toArray, List.set_cons_zero, List.set_cons_succ]
    refine wpAnyH_ready (rs := [2]) (by kernel_rfl) (by simp) ?_
    refine (AllReadyH.cons (o := { dst := some 8, op := Op.convert 9 26 (Operand.tmp 7), type := 26, pos := "dir.go:108", after := #[{ on := 1, ground := Ground.data }], guard := none }) rfl (fun K hK => ?_) AllReadyH.nil)
    obtain ⟨cn, W1, hcv, hv1, hb1⟩ := HCV.out W0.drew
    have HV1 := hid hv1
    have HK1 : Hid (Below W0.heap.size W0 W1) := (Below.refl _ _).drew.trans hb1
    clear hv1 hb1
    rw [if_pos (by rfl)]
    refine wp_valE (exec_conv 9 26 _ rfl (.string T) _ rfl hcv) ?_
    refine hK.out _ _ (HK1.out.mono HZ2.out) (fun hh => ?_)
    clear hK K hHeld
    have hHeld := hh
    clear hh
    try simp only [Act.put, List.setIfInBounds_toArray, List.set_cons_zero, List.set_cons_succ]
    refine wpAnyH_ready (rs := [3]) (by kernel_rfl) (by simp) ?_
    refine (AllReadyH.cons (o := { dst := some 9, op := Op.call { callee := Callee.value (Operand.func 66), args := #[Operand.tmp 8], argTypes := #[26] }, type := 95, pos := "dir.go:108", after := #[{ on := 2, ground := Ground.data }], guard := none }) rfl (fun K hK => ?_) AllReadyH.nil)
    go_simp
    refine (Tlv.bytes_any _ nm _ (HV1.out.agree (Agree.refl _ _ _) (Nat.zero_le _) (Nat.le_refl _))).mono ?_
    rintro e w2 ⟨v2, rfl, hv2, hb2⟩
    obtain ⟨a2, c2, rfl, hx2⟩ := id hv2
    clear hx2
    have HV2 : Hid (Tlv.BySl W0.heap.size w2.heap.size w2 (.slice a2 nm.length c2) nm) := hv2.agree (Agree.refl _ _ _) HK1.out.size (Nat.le_refl _)
    have HK2 : Hid (Below W0.heap.size W0 w2) := HK1.out.trans (hb2.mono HK1.out.size)
    clear hv2 hb2
    go_wp2_with fail
    refine hK.out _ _ (HK2.out.mono HZ2.out) (fun hh => ?_)
    clear hK K hHeld
    have hHeld := hh
    clear hh
    try simp only [Act.put, List.setIfInBounds_toArray, List.set_cons_zero, List.set_cons_succ]
    refine wpAnyH_ready (rs := [5]) (by kernel_rfl) (by simp) ?_
    refine (AllReadyH.cons (o := { dst := some 11, op := Op.call { callee := Callee.value (Operand.func 67), args := #[Operand.tmp 10], argTypes := #[83] }, type := 95, pos := "dir.go:108", after := #[{ on := 4, ground := Ground.data }, { on := 3, ground := Ground.chain }], guard := none }) rfl (fun K hK => ?_) AllReadyH.nil)
    go_simp
    refine (Tlv.number_any 0 _).mono ?_
    rintro e w3 ⟨rfl, hb3⟩
    have HV3 := hid (bySl_lift HV2.out hb3)
    have HK3 : Hid (Below W0.heap.size W0 w3) := HK2.out.trans (hb3.mono HK2.out.size)
    clear hb3
    go_wp2_with fail
    refine hK.out _ _ (HK3.out.mono HZ2.out) (fun hh => ?_)
    clear hK K hHeld
    have hHeld := hh
    clear hh
    try simp only [Act.put, List.setIfInBounds_toArray, List.set_cons_zero, List.set_cons_succ]
    refine wpAnyH_ready (rs := [8]) (by kernel_rfl) (by simp) ?_
    refine (AllReadyH.cons (o := { dst := some 14, op := Op.call { callee := Callee.value (Operand.func 66), args := #[Operand.tmp 13], argTypes := #[26] }, type := 95, pos := "dir.go:108", after := #[{ on := 7, ground := Ground.data }, { on := 5, ground := Ground.chain }], guard := none }) rfl (fun K hK => ?_) AllReadyH.nil)
    go_simp
    refine (K44.out _ HK3.out).mono ?_
    rintro e w4 ⟨a4, c4, rfl, hv4, hb4⟩
    have HV4 := hid (bySl_lift HV3.out hb4)
    have HH4 := hid hv4
    have HK4 : Hid (Below W0.heap.size W0 w4) := HK3.out.trans (hb4.mono HK3.out.size)
    clear hv4 hb4
    go_wp2_with fail
    refine hK.out _ _ (HK4.out.mono HZ2.out) (fun hh => ?_)
    clear hK K hHeld
    have hHeld := hh
    clear hh
    try simp only [Act.put, List.setIfInBounds_toArray, List.set_cons_zero, List.set_cons_succ]
    refine wpAnyH_ready (rs := [9]) (by kernel_rfl) (by simp) ?_
    refine (AllReadyH.cons (o := { dst := some 15, op := Op.buildSlice 93 3 #[(0, Operand.tmp 9), (1, Operand.tmp 11), (2, Operand.tmp 14)], type := 93, pos := "dir.go:108", after := #[{ on := 3, ground := Ground.data }, { on := 5, ground := Ground.data }, { on := 8, ground := Ground.data }], guard := none }) rfl (fun K hK => ?_) AllReadyH.nil)
    rw [if_pos (by rfl)]
    refine wp_valE (exec_slice3 93 _ _ _ rfl (.agg #[.int .i64 2, .int .u64 0, .slice a2 nm.length c2, .slice none 0 0]) (.agg #[.int .i64 1, .int .u64 0, .slice none 0 0, .slice none 0 0]) (.agg #[.int .i64 2, .int .u64 0, .slice a4 32 c4, .slice none 0 0]) _ rfl rfl rfl (run_threeV _ _ _ _ _ _ _ _ _ _ _ _ _)) ?_
    refine hK.out _ _ ((HK4.out.alloc HK4.out.size _).mono HZ2.out) (fun hh => ?_)
    clear hK K hHeld
    have hHeld := hh
    clear hh
    try simp only [Act.put, List.setIfInBounds_toArray, List.set_cons_zero, List.set_cons_succ]
    refine wpAnyH_ready (rs := [10]) (by kernel_rfl) (by simp) ?_
    refine (AllReadyH.cons (o := { dst := some 16, op := Op.call { callee := Callee.value (Operand.func 65), args := #[Operand.tmp 15], argTypes := #[93] }, type := 95, pos := "dir.go:108", after := #[{ on := 9, ground := Ground.data }, { on := 8, ground := Ground.chain }], guard := none }) rfl (fun K hK => ?_) AllReadyH.nil)
    go_simp
    refine (many3 h0 HV4.out HH4.out).mono ?_
    rintro e w6 ⟨a3, l3, p3, a5, l5, p5, rfl, hr6, hb6⟩
    have HR6 := hid hr6
    have HK6 : Hid (Below W0.heap.size W0 w6) := HK4.out.trans (hb6.mono HK4.out.size)
    have hz6 : w.heap.size + 1 < w6.heap.size := (by have h1 := HK6.out.size; have h2 := HZ.out; omega)
    have hf6 : ∀ j, w6.frozen? ⟨w.heap.size + 1, j, none⟩ = false := (fun j => (HK6.out.frozen (p := ⟨w.heap.size + 1, j, none⟩) (by have h2 := HZ.out; simp; omega)).trans (HF.out j))
    have hc6 : ∀ j u, (#[.int .i64 0, .int .u64 0, .slice none 0 0, .slice none 0 0] : Array Value)[j]? = some u → w6.cell? ⟨w.heap.size + 1, j, none⟩ = some u := (fun j u hj => (HK6.out.cell (p := ⟨w.heap.size + 1, j, none⟩) (by have h2 := HZ.out; simp; omega)).trans (HG.out j u hj))
    have g0 := hc6 0 _ rfl
    have g1 := hc6 1 _ rfl
    have g2 := hc6 2 _ rfl
    have g3 := hc6 3 _ rfl
    clear hr6 hb6 hc6
    go_wp2_with fail
    refine hK.out _ _ (HK6.out.mono HZ2.out) (fun hh => ?_)
    clear hK K hHeld
    have hHeld := hh
    clear hh
    try simp only [Act.put, List.setIfInBounds_toArray, List.set_cons_zero, List.set_cons_succ]
    refine wpAnyH_ready (rs := [11]) (by kernel_rfl) (by simp) ?_
    refine (AllReadyH.cons (o := { dst := none, op := Op.store 95 (Operand.tmp 2) (Operand.tmp 16), type := 0, pos := "dir.go:108", after := #[{ on := 10, ground := Ground.data }, { on := 10, ground := Ground.chain }, { on := 0, ground := Ground.phase }, { on := 1, ground := Ground.phase }, { on := 2, ground := Ground.phase }, { on := 3, ground := Ground.phase }, { on := 4, ground := Ground.phase }, { on := 5, ground := Ground.phase }, { on := 6, ground := Ground.phase }, { on := 7, ground := Ground.phase }, { on := 8, ground := Ground.phase }, { on := 9, ground := Ground.phase }, { on := 10, ground := Ground.phase }], guard := none }) rfl (fun K hK => ?_) AllReadyH.nil)
    go_simp
    refine hK.out _ _ ((HK6.out.mono HZ2.out).trans (Tlv.bset4 (Nat.le_refl _) _ _ _ _)) (fun hh => ?_)
    clear hK K hHeld
    have hHeld := hh
    clear hh
    try simp only [Act.put, List.setIfInBounds_toArray, List.set_cons_zero, List.set_cons_succ]
    refine wpAnyH_done (by kernel_rfl) ?_ _
    clear hHeld
    go_wp2_with fail
    obtain ⟨q0, q1, q2, q3⟩ := Tlv.set4_read (u0 := .int .i64 3) (u1 := .int .u64 0) (u2 := .slice a3 l3 p3) (u3 := .slice a5 l5 p5) g0 g1 g2 g3
    refine bodyPost_ret (v := .agg #[.int .i64 3, .int .u64 0, .slice a3 l3 p3, .slice a5 l5 p5]) (by simp [results, Try.results71, go_sem, q0, q1, q2, q3]) rfl ⟨_, _, _, _, _, _, rfl, ?_, ?_⟩
    · have h1 := HK4.out.size
      have h2 := HZ.out
      exact HR6.out.agree (Agree.set4 _ (.inl (by omega)) _ _ _ _) (by omega) (by simp)
    · exact HBEL.out.trans (((HK6.out.mono HZ2.out).mono (Nat.le_succ _)).trans (Tlv.bset4 (Nat.le_succ _) _ _ _ _))
  · go_wp2_with fail
    rw [HW0.out]
    clear q1
    refine wp_region_held_drew (S := fun V => Below (w.heap.size + 1) W0 V) (by kernel_rfl) ((Below.refl _ _).drew) (fun hHeld => ?_)
    refine wpAnyH_take (i := 0) (oi := { dst := some 6, op := Op.fieldAddr 70 (Operand.tmp 1) 0, type := 0, pos := "dir.go:108", after := #[], guard := none }) (v := .pointer (some ⟨w.heap.size, 0, none⟩)) rfl (by kernel_rfl) (by kernel_rfl) (by kernel_rfl) (fun _ _ _ h => h) (Or.inl ⟨by rfl, fun w' hw' => by (clear hw'; go_simp)⟩) hHeld ?_
    simp only [Act.put, List.setIfInBounds_toArray, List.set_cons_zero, List.set_cons_succ]
    refine wpAnyH_take (i := 1) (oi := { dst := some 7, op := Op.load 9 (Operand.tmp 6), type := 9, pos := "dir.go:108", after := #[{ on := 0, ground := Ground.data }], guard := none }) (v := .string T) rfl (by kernel_rfl) (by kernel_rfl) (by kernel_rfl) (fun _ _ _ h => h) (Or.inl ⟨by rfl, fun w' hw' => by (have q := HRC.out _ hw'; clear hw'; go_simp)⟩) hHeld ?_
    simp only [Act.put, List.setIfInBounds_toArray, List.set_cons_zero, List.set_cons_succ]
    refine wpAnyH_take (i := 4) (oi := { dst := some 10, op := Op.move (Operand.tmp 3), type := 83, pos := "dir.go:108", after := #[], guard := none }) (v := .int .u64 1) rfl (by kernel_rfl) (by kernel_rfl) (by kernel_rfl) (fun _ _ _ h => h) (Or.inl ⟨by rfl, fun w' hw' => by (clear hw'; go_simp)⟩) hHeld ?_
    simp only [Act.put, List.setIfInBounds_toArray, List.set_cons_zero, List.set_cons_succ]
    refine wpAnyH_take (i := 6) (oi := { dst := some 12, op := Op.fieldAddr 70 (Operand.tmp 1) 2, type := 0, pos := "dir.go:108", after := #[], guard := none }) (v := .pointer (some ⟨w.heap.size, 2, none⟩)) rfl (by kernel_rfl) (by kernel_rfl) (by kernel_rfl) (fun _ _ _ h => h) (Or.inl ⟨by rfl, fun w' hw' => by (clear hw'; go_simp)⟩) hHeld ?_
    simp only [Act.put, List.setIfInBounds_toArray, List.set_cons_zero, List.set_cons_succ]
    refine wpAnyH_take (i := 7) (oi := { dst := some 13, op := Op.slice 68 (Operand.tmp 12) none none none, type := 26, pos := "dir.go:108", after := #[{ on := 6, ground := Ground.data }], guard := none }) (v := .slice (some ⟨w.heap.size, 2, none⟩) 32 32) rfl (by kernel_rfl) (by kernel_rfl) (by kernel_rfl) (fun _ _ _ h => h) (Or.inl ⟨by rfl, fun w' hw' => by (clear hw'; go_simp)⟩) hHeld ?_
    simp only [Act.put, List.setIfInBounds_toArray, List.set_cons_zero, List.set_cons_succ]
    refine wpAnyH_ready (rs := [2]) (by kernel_rfl) (by simp) ?_
    refine (AllReadyH.cons (o := { dst := some 8, op := Op.convert 9 26 (Operand.tmp 7), type := 26, pos := "dir.go:108", after := #[{ on := 1, ground := Ground.data }], guard := none }) rfl (fun K hK => ?_) AllReadyH.nil)
    obtain ⟨cn, W1, hcv, hv1, hb1⟩ := HCV.out W0.drew
    have HV1 := hid hv1
    have HK1 : Hid (Below W0.heap.size W0 W1) := (Below.refl _ _).drew.trans hb1
    clear hv1 hb1
    rw [if_pos (by rfl)]
    refine wp_valE (exec_conv 9 26 _ rfl (.string T) _ rfl hcv) ?_
    refine hK.out _ _ (HK1.out.mono HZ2.out) (fun hh => ?_)
    clear hK K hHeld
    have hHeld := hh
    clear hh
    try simp only [Act.put, List.setIfInBounds_toArray, List.set_cons_zero, List.set_cons_succ]
    refine wpAnyH_ready (rs := [3]) (by kernel_rfl) (by simp) ?_
    refine (AllReadyH.cons (o := { dst := some 9, op := Op.call { callee := Callee.value (Operand.func 66), args := #[Operand.tmp 8], argTypes := #[26] }, type := 95, pos := "dir.go:108", after := #[{ on := 2, ground := Ground.data }], guard := none }) rfl (fun K hK => ?_) AllReadyH.nil)
    go_simp
    refine (Tlv.bytes_any _ nm _ (HV1.out.agree (Agree.refl _ _ _) (Nat.zero_le _) (Nat.le_refl _))).mono ?_
    rintro e w2 ⟨v2, rfl, hv2, hb2⟩
    obtain ⟨a2, c2, rfl, hx2⟩ := id hv2
    clear hx2
    have HV2 : Hid (Tlv.BySl W0.heap.size w2.heap.size w2 (.slice a2 nm.length c2) nm) := hv2.agree (Agree.refl _ _ _) HK1.out.size (Nat.le_refl _)
    have HK2 : Hid (Below W0.heap.size W0 w2) := HK1.out.trans (hb2.mono HK1.out.size)
    clear hv2 hb2
    go_wp2_with fail
    refine hK.out _ _ (HK2.out.mono HZ2.out) (fun hh => ?_)
    clear hK K hHeld
    have hHeld := hh
    clear hh
    try simp only [Act.put, List.setIfInBounds_toArray, List.set_cons_zero, List.set_cons_succ]
    refine wpAnyH_ready (rs := [5]) (by kernel_rfl) (by simp) ?_
    refine (AllReadyH.cons (o := { dst := some 11, op := Op.call { callee := Callee.value (Operand.func 67), args := #[Operand.tmp 10], argTypes := #[83] }, type := 95, pos := "dir.go:108", after := #[{ on := 4, ground := Ground.data }, { on := 3, ground := Ground.chain }], guard := none }) rfl (fun K hK => ?_) AllReadyH.nil)
    go_simp
    refine (Tlv.number_any 1 _).mono ?_
    rintro e w3 ⟨rfl, hb3⟩
    have HV3 := hid (bySl_lift HV2.out hb3)
    have HK3 : Hid (Below W0.heap.size W0 w3) := HK2.out.trans (hb3.mono HK2.out.size)
    clear hb3
    go_wp2_with fail
    refine hK.out _ _ (HK3.out.mono HZ2.out) (fun hh => ?_)
    clear hK K hHeld
    have hHeld := hh
    clear hh
    try simp only [Act.put, List.setIfInBounds_toArray, List.set_cons_zero, List.set_cons_succ]
    refine wpAnyH_ready (rs := [8]) (by kernel_rfl) (by simp) ?_
    refine (AllReadyH.cons (o := { dst := some 14, op := Op.call { callee := Callee.value (Operand.func 66), args := #[Operand.tmp 13], argTypes := #[26] }, type := 95, pos := "dir.go:108", after := #[{ on := 7, ground := Ground.data }, { on := 5, ground := Ground.chain }], guard := none }) rfl (fun K hK => ?_) AllReadyH.nil)
    go_simp
    refine (K44.out _ HK3.out).mono ?_
    rintro e w4 ⟨a4, c4, rfl, hv4, hb4⟩
    have HV4 := hid (bySl_lift HV3.out hb4)
    have HH4 := hid hv4
    have HK4 : Hid (Below W0.heap.size W0 w4) := HK3.out.trans (hb4.mono HK3.out.size)
    clear hv4 hb4
    go_wp2_with fail
    refine hK.out _ _ (HK4.out.mono HZ2.out) (fun hh => ?_)
    clear hK K hHeld
    have hHeld := hh
    clear hh
    try simp only [Act.put, List.setIfInBounds_toArray, List.set_cons_zero, List.set_cons_succ]
    refine wpAnyH_ready (rs := [9]) (by kernel_rfl) (by simp) ?_
    refine (AllReadyH.cons (o := { dst := some 15, op := Op.buildSlice 93 3 #[(0, Operand.tmp 9), (1, Operand.tmp 11), (2, Operand.tmp 14)], type := 93, pos := "dir.go:108", after := #[{ on := 3, ground := Ground.data }, { on := 5, ground := Ground.data }, { on := 8, ground := Ground.data }], guard := none }) rfl (fun K hK => ?_) AllReadyH.nil)
    rw [if_pos (by rfl)]
    refine wp_valE (exec_slice3 93 _ _ _ rfl (.agg #[.int .i64 2, .int .u64 0, .slice a2 nm.length c2, .slice none 0 0]) (.agg #[.int .i64 1, .int .u64 1, .slice none 0 0, .slice none 0 0]) (.agg #[.int .i64 2, .int .u64 0, .slice a4 32 c4, .slice none 0 0]) _ rfl rfl rfl (run_threeV _ _ _ _ _ _ _ _ _ _ _ _ _)) ?_
    refine hK.out _ _ ((HK4.out.alloc HK4.out.size _).mono HZ2.out) (fun hh => ?_)
    clear hK K hHeld
    have hHeld := hh
    clear hh
    try simp only [Act.put, List.setIfInBounds_toArray, List.set_cons_zero, List.set_cons_succ]
    refine wpAnyH_ready (rs := [10]) (by kernel_rfl) (by simp) ?_
    refine (AllReadyH.cons (o := { dst := some 16, op := Op.call { callee := Callee.value (Operand.func 65), args := #[Operand.tmp 15], argTypes := #[93] }, type := 95, pos := "dir.go:108", after := #[{ on := 9, ground := Ground.data }, { on := 8, ground := Ground.chain }], guard := none }) rfl (fun K hK => ?_) AllReadyH.nil)
    go_simp
    refine (many3 h0 HV4.out HH4.out).mono ?_
    rintro e w6 ⟨a3, l3, p3, a5, l5, p5, rfl, hr6, hb6⟩
    have HR6 := hid hr6
    have HK6 : Hid (Below W0.heap.size W0 w6) := HK4.out.trans (hb6.mono HK4.out.size)
    have hz6 : w.heap.size + 1 < w6.heap.size := (by have h1 := HK6.out.size; have h2 := HZ.out; omega)
    have hf6 : ∀ j, w6.frozen? ⟨w.heap.size + 1, j, none⟩ = false := (fun j => (HK6.out.frozen (p := ⟨w.heap.size + 1, j, none⟩) (by have h2 := HZ.out; simp; omega)).trans (HF.out j))
    have hc6 : ∀ j u, (#[.int .i64 0, .int .u64 0, .slice none 0 0, .slice none 0 0] : Array Value)[j]? = some u → w6.cell? ⟨w.heap.size + 1, j, none⟩ = some u := (fun j u hj => (HK6.out.cell (p := ⟨w.heap.size + 1, j, none⟩) (by have h2 := HZ.out; simp; omega)).trans (HG.out j u hj))
    have g0 := hc6 0 _ rfl
    have g1 := hc6 1 _ rfl
    have g2 := hc6 2 _ rfl
    have g3 := hc6 3 _ rfl
    clear hr6 hb6 hc6
    go_wp2_with fail
    refine hK.out _ _ (HK6.out.mono HZ2.out) (fun hh => ?_)
    clear hK K hHeld
    have hHeld := hh
    clear hh
    try simp only [Act.put, List.setIfInBounds_toArray, List.set_cons_zero, List.set_cons_succ]
    refine wpAnyH_ready (rs := [11]) (by kernel_rfl) (by simp) ?_
    refine (AllReadyH.cons (o := { dst := none, op := Op.store 95 (Operand.tmp 2) (Operand.tmp 16), type := 0, pos := "dir.go:108", after := #[{ on := 10, ground := Ground.data }, { on := 10, ground := Ground.chain }, { on := 0, ground := Ground.phase }, { on := 1, ground := Ground.phase }, { on := 2, ground := Ground.phase }, { on := 3, ground := Ground.phase }, { on := 4, ground := Ground.phase }, { on := 5, ground := Ground.phase }, { on := 6, ground := Ground.phase }, { on := 7, ground := Ground.phase }, { on := 8, ground := Ground.phase }, { on := 9, ground := Ground.phase }, { on := 10, ground := Ground.phase }], guard := none }) rfl (fun K hK => ?_) AllReadyH.nil)
    go_simp
    refine hK.out _ _ ((HK6.out.mono HZ2.out).trans (Tlv.bset4 (Nat.le_refl _) _ _ _ _)) (fun hh => ?_)
    clear hK K hHeld
    have hHeld := hh
    clear hh
    try simp only [Act.put, List.setIfInBounds_toArray, List.set_cons_zero, List.set_cons_succ]
    refine wpAnyH_done (by kernel_rfl) ?_ _
    clear hHeld
    go_wp2_with fail
    obtain ⟨q0, q1, q2, q3⟩ := Tlv.set4_read (u0 := .int .i64 3) (u1 := .int .u64 0) (u2 := .slice a3 l3 p3) (u3 := .slice a5 l5 p5) g0 g1 g2 g3
    refine bodyPost_ret (v := .agg #[.int .i64 3, .int .u64 0, .slice a3 l3 p3, .slice a5 l5 p5]) (by simp [results, Try.results71, go_sem, q0, q1, q2, q3]) rfl ⟨_, _, _, _, _, _, rfl, ?_, ?_⟩
    · have h1 := HK4.out.size
      have h2 := HZ.out
      exact HR6.out.agree (Agree.set4 _ (.inl (by omega)) _ _ _ _) (by omega) (by simp)
    · exact HBEL.out.trans (((HK6.out.mono HZ2.out).mono (Nat.le_succ _)).trans (Tlv.bset4 (Nat.le_succ _) _ _ _ _))
end Go.Proofs.Ytenfahecnkdhaaa.Nd
end

section
/-
  Many of tlv with nothing: a list that is not there.
-/
namespace Go.Proofs.Ytenfahecnkdhaaa.Nd
open Go.RowKit
open Tlv (Tr Agree bcell set4_read cell_far4 bset4)
open Sim (hid Kp No)
attribute [local go_sem ↓] Go.wp_at_zero Go.wp_at_succ

theorem bclone_none (w : World) : Calls Try.prog 47 #[.slice none 0 0] w fun e w' => e = .returned (.slice none 0 0) ∧ Below w.heap.size w w' := by
  have q22 := Tlv.Try.nilEq
  go_enter Try.func47, Try.ntmps47
  go_wp2
  go_ret
  exact ⟨rfl, Below.refl _ _⟩

set_option maxHeartbeats 2000000 in
set_option maxRecDepth 100000 in
theorem clone_none (w : World) : Calls Try.prog 80 #[.agg #[.int .i64 3, .int .u64 0, .slice none 0 0, .slice none 0 0], .int .i64 131072] w fun e w' => e = .returned (.tuple #[.agg #[.int .i64 3, .int .u64 0, .slice none 0 0, .slice none 0 0], .bool true]) ∧ Below w.heap.size w w' := by
  have HB := hid bclone_none
  go_enter Try.func80, Try.ntmps80
  go_upto_region 3 with fail
  obtain ⟨W0, hW0⟩ : ∃ W0, W0 = (w.alloc (Obj.cells #[Value.int IntKind.i64 3, Value.int IntKind.u64 0, Value.slice none 0 0, Value.slice none 0 0] 95)).alloc (Obj.cells #[Value.int IntKind.i64 0, Value.int IntKind.u64 0, Value.slice none 0 0, Value.slice none 0 0] 95) := ⟨_, rfl⟩
  have HW0 := hid hW0
  clear hW0
  go_cut [6] (fun s wx => ∃ (g : Nat), s = .pointer (some ⟨g, 0, none⟩) ∧ w.heap.size + 2 ≤ g ∧ g < wx.heap.size ∧ wx.cell? ⟨g, 0, none⟩ = some (.int .i64 3) ∧ wx.cell? ⟨g, 1, none⟩ = some (.int .u64 0) ∧
    wx.cell? ⟨g, 2, none⟩ = some (.slice none 0 0) ∧ wx.cell? ⟨g, 3, none⟩ = some (.slice none 0 0) ∧ (∀ o, wx.frozen? ⟨g, o, none⟩ = false) ∧ Hid (Below (w.heap.size + 2) W0 wx))
  case first =>
    go_region_held3 (fun w' => w'.cell? ⟨w.heap.size, 0, none⟩ = some (.int .i64 3) ∧ w'.cell? ⟨w.heap.size, 1, none⟩ = some (.int .u64 0) ∧ w'.cell? ⟨w.heap.size, 2, none⟩ = some (.slice none 0 0)) (first | go_keep | (refine ⟨?_, ?_, ?_⟩ <;> (rw [cell_far4 (by simp; omega)]; assumption)))
      ((go_at_call 47; refine (HB.out _).mono ?_; rintro e w1 ⟨rfl, hb⟩; have Hb := hid hb; obtain ⟨hc, hf⟩ := bcell hb; have hz := hb.size; clear hb; have q0 : w1.cell? ⟨w.heap.size, 0, none⟩ = some (.int .i64 3) := (hc _ _ (by simp; try omega)).trans (by simp [go_sem]); have q1 : w1.cell? ⟨w.heap.size, 1, none⟩ = some (.int .u64 0) := (hc _ _ (by simp; try omega)).trans (by simp [go_sem]); have q2 : w1.cell? ⟨w.heap.size, 2, none⟩ = some (.slice none 0 0) := (hc _ _ (by simp; try omega)).trans (by simp [go_sem])))
    · go_wp2_with fail
      go_meet
      simp at hz
      refine ⟨w1.heap.size, rfl, by omega, by simp, by simp, by simp, by simp, by simp, by simp, ?_⟩
      rw [HW0.out]
      exact (((Below.refl _ _).drew).trans (Hb.out.mono (by simp))).alloc (by omega) _
    · go_wp2_with fail
      go_meet
      simp at hz
      obtain ⟨r0, r1, r2, r3⟩ := set4_read (w := w1) (b := w.heap.size + 1 + 1) (u0 := .int .i64 3) (u1 := .int .u64 0) (u2 := .slice none 0 0) (u3 := .slice none 0 0) (x0 := .int .i64 0) (x1 := .int .u64 0) (x2 := .slice none 0 0) (x3 := .slice none 0 0) ((hc _ _ (by simp)).trans (by simp [go_sem])) ((hc _ _ (by simp)).trans (by simp [go_sem])) ((hc _ _ (by simp)).trans (by simp [go_sem])) ((hc _ _ (by simp)).trans (by simp [go_sem]))
      refine ⟨w.heap.size + 1 + 1, rfl, by omega, by simp; omega, r0, r1, r2, r3, ?_, ?_⟩
      · intro o
        simp only [World.frozen?_setCell]
        rw [hf _ _ (by simp)]
        simp [go_sem]
      · rw [HW0.out]
        exact ((((Below.refl _ _).alloc (by simp) _).drew).trans (Hb.out.mono (by simp))).trans (bset4 (by omega) _ _ _ _)
  case rest =>
    obtain ⟨g, rfl, hg0, hg1, e0, e1, e2, e3, hfr, HX⟩ := hcut
    have xb : ∀ o, wc.cell? ⟨w.heap.size, o, none⟩ = W0.cell? ⟨w.heap.size, o, none⟩ := fun o => HX.out.cell (p := ⟨w.heap.size, o, none⟩) (by simp)
    have b3 : wc.cell? ⟨w.heap.size, 3, none⟩ = some (.slice none 0 0) := by rw [xb, HW0.out]; simp [go_sem]
    have xr : ∀ o, wc.cell? ⟨w.heap.size + 1, o, none⟩ = W0.cell? ⟨w.heap.size + 1, o, none⟩ := fun o => HX.out.cell (p := ⟨w.heap.size + 1, o, none⟩) (by simp)
    have xf : ∀ o, wc.frozen? ⟨w.heap.size + 1, o, none⟩ = W0.frozen? ⟨w.heap.size + 1, o, none⟩ := fun o => HX.out.frozen (p := ⟨w.heap.size + 1, o, none⟩) (by simp)
    have r0 : wc.cell? ⟨w.heap.size + 1, 0, none⟩ = some (.int .i64 0) := by rw [xr, HW0.out]; simp [go_sem]
    have r1 : wc.cell? ⟨w.heap.size + 1, 1, none⟩ = some (.int .u64 0) := by rw [xr, HW0.out]; simp [go_sem]
    have r2 : wc.cell? ⟨w.heap.size + 1, 2, none⟩ = some (.slice none 0 0) := by rw [xr, HW0.out]; simp [go_sem]
    have r3 : wc.cell? ⟨w.heap.size + 1, 3, none⟩ = some (.slice none 0 0) := by rw [xr, HW0.out]; simp [go_sem]
    have rf : ∀ o, wc.frozen? ⟨w.heap.size + 1, o, none⟩ = false := fun o => by rw [xf, HW0.out]; simp [go_sem]
    clear xb xf xr
    have hB0 : Hid (Below w.heap.size w W0) := by rw [Hid, HW0.out]; exact ((Below.refl _ _).alloc (Nat.le_refl _) _).alloc (by simp) _
    go_wp2
    refine wp_loop_rounds 1 ?_
    rw [rounds_succ]
    go_wp2_with fail
    obtain ⟨q0, q1, q2, q3⟩ := set4_read (u0 := .int .i64 3) (u1 := .int .u64 0) (u2 := .slice none 0 0) (u3 := .slice none 0 0) r0 r1 r2 r3
    refine bodyPost_ret (v := .tuple #[.agg #[.int .i64 3, .int .u64 0, .slice none 0 0, .slice none 0 0], .bool true]) (by simp [results, Try.results80, go_sem, q0, q1, q2, q3]) rfl ⟨rfl, ?_⟩
    exact (hB0.out.trans (HX.out.mono (by omega))).trans (bset4 (by omega) _ _ _ _)

set_option maxHeartbeats 400000 in
theorem many_none (w : World) : Calls Try.prog 65 #[.slice none 0 0] w fun e w' => e = .returned (.agg #[.int .i64 3, .int .u64 0, .slice none 0 0, .slice none 0 0]) ∧ Below w.heap.size w w' := by
  have HC := hid clone_none
  go_enter Try.func65, Try.ntmps65
  go_wp2_with fail
  refine (HC.out _).mono ?_
  rintro e w1 ⟨rfl, hb1⟩
  have Hb1 := hid hb1
  obtain ⟨hc, hf⟩ := bcell hb1
  have hz := hb1.size
  simp at hz
  have hgw : w.heap.size < w1.heap.size := by omega
  have g0 : w1.cell? ⟨w.heap.size, 0, none⟩ = some (.int .i64 0) := by rw [hc _ _ (by simp)]; simp [go_sem]
  have g1 : w1.cell? ⟨w.heap.size, 1, none⟩ = some (.int .u64 0) := by rw [hc _ _ (by simp)]; simp [go_sem]
  have g2 : w1.cell? ⟨w.heap.size, 2, none⟩ = some (.slice none 0 0) := by rw [hc _ _ (by simp)]; simp [go_sem]
  have g3 : w1.cell? ⟨w.heap.size, 3, none⟩ = some (.slice none 0 0) := by rw [hc _ _ (by simp)]; simp [go_sem]
  have gf : ∀ o, w1.frozen? ⟨w.heap.size, o, none⟩ = false := fun o => by rw [hf _ _ (by simp)]; simp [go_sem]
  clear hc hf hb1
  go_wp2_with fail
  obtain ⟨q0, q1, q2, q3⟩ := set4_read (u0 := .int .i64 3) (u1 := .int .u64 0) (u2 := .slice none 0 0) (u3 := .slice none 0 0) g0 g1 g2 g3
  refine bodyPost_ret (v := .agg #[.int .i64 3, .int .u64 0, .slice none 0 0, .slice none 0 0]) (by simp [results, Try.results65, go_sem, q0, q1, q2, q3, hgw]) rfl ⟨rfl, ?_⟩
  exact (((((Below.refl _ w).alloc (Nat.le_refl _) _).trans (Hb1.out.mono (by simp))).trans (bset4 (Nat.le_refl _) _ _ _ _)).alloc (by simp; omega) _)
end Go.Proofs.Ytenfahecnkdhaaa.Nd
end

section
/-
  A list of values that grows in a variable: one round's memory.
-/
namespace Go.Proofs.Ytenfahecnkdhaaa.Nd
open Go.RowKit
open Tlv (Tr Agree CInv cellsK cell4)
open Sim (hid Kp No)

/-- The variable at block w1.heap.size holds a list's value: the first k of these. -/
def VI {n : Nat} (w1 : World) (ts : List (Tr n)) (k : Nat) (v : Value) (wr : World) : Prop :=
  wr.cell? ⟨w1.heap.size, 0, none⟩ = some (.int .i64 3) ∧ wr.cell? ⟨w1.heap.size, 1, none⟩ = some (.int .u64 0) ∧ wr.cell? ⟨w1.heap.size, 2, none⟩ = some (.slice none 0 0) ∧ wr.cell? ⟨w1.heap.size, 3, none⟩ = some v ∧
    (∀ o, wr.frozen? ⟨w1.heap.size, o, none⟩ = false) ∧ w1.heap.size < wr.heap.size ∧ CInv (w1.heap.size + 1) (ts.take k) v wr ∧ Below w1.heap.size w1 wr

theorem push_run {n base L B k : Nat} {ts : List (Tr n)} {t : Tr n} {av : Option Addr} {cv : Nat} {sb sk : Value} (w : World) (hk : ts.length = k) (h : CInv base ts (.slice av k cv) w) (hb : base ≤ w.heap.size) (hr : Tlv.Rep L B w n t sb sk) (hL : base ≤ L) (hB : B ≤ w.heap.size)
    (hd : ∀ r, (Value.slice av k cv).ownBlock = some r → r < L ∨ B ≤ r) (hl : k + 1 ≤ 2000000) (ty : TypeId) :
    ∃ g' cap w', (Builtin.append_ #[93, 93] ty #[.slice av k cv, .slice (some ⟨w.heap.size, 0, none⟩) 1 1]).run Try.prog (w.alloc (.cells #[.int .i64 t.hd.1, .int .u64 t.hd.2.1, sb, sk] 95)) = .ok (.slice (some ⟨g', 0, none⟩) (k + 1) cap) w' ∧
      CInv base (ts ++ [t]) (.slice (some ⟨g', 0, none⟩) (k + 1) cap) w' ∧ (w.alloc (.cells #[.int .i64 t.hd.1, .int .u64 t.hd.2.1, sb, sk] 95)).grownBy w' (Value.slice av k cv).ownBlock := by
  obtain ⟨i0, hi, hz0, hz1, hz2⟩ := info_parts Tlv.Try.info95
  have hlt := h.lt
  have hA : Agree base w.heap.size w (w.alloc (.cells #[.int .i64 t.hd.1, .int .u64 t.hd.2.1, sb, sk] 95)) := (Agree.refl _ _ _).alloc (Nat.le_refl _) _
  obtain ⟨ps, hl2, hown, hkid⟩ := h.agree hA (by simp)
  have hr2 := hr.agree (L' := L) (B' := B) (hA.mono hL hB) (Nat.le_refl _) (Nat.le_refl _)
  rw [hk] at hown
  have hone : ∀ u ∈ cell4 t (sb, sk), u.oneCell' = true := by
    obtain ⟨_, _, _, _, _, _, rfl, rfl⟩ := hr.sl
    intro u hu
    simp only [cell4, List.mem_cons, List.not_mem_nil, or_false] at hu
    rcases hu with rfl | rfl | rfl | rfl <;> rfl
  obtain ⟨g', cap, w', hrun, ho, hgr, hat, hlt'⟩ := run_append_lies (P := Try.prog) (w.alloc (.cells #[.int .i64 t.hd.1, .int .u64 t.hd.2.1, sb, sk] 95)) 93 ty base 95 i0 _ 4 64 Try.underlying93 hi hz0 hz1 hz2 rfl (by decide) (.slice av k cv) k (cellsK ts ps) hown ⟨w.heap.size, 0, none⟩ 1 1 (cell4 t (sb, sk)) rfl
    (World.news_of_block (cs := #[.int .i64 t.hd.1, .int .u64 t.hd.2.1, sb, sk]) (t := 95) (fr := (0, 0)) (heap_alloc_new w _)) hone (by omega) (by unfold maxLen; omega) (by omega) (by simp; omega) _ rfl
  refine ⟨g', cap, w', hrun, ?_, hgr⟩
  have P := CInv.push (g := g') (cap := cap) hl2 hkid hr2 hL (by simp; omega) hd (by rw [hk]; exact ho) hgr hat
  rw [hk] at P
  exact P

theorem VI.start {n : Nat} (w1 : World) (ts : List (Tr n)) : VI w1 ts 0 (.slice none 0 0) (w1.alloc (.cells #[.int .i64 3, .int .u64 0, .slice none 0 0, .slice none 0 0] 95)) :=
  ⟨by simp, by simp, by simp, by simp, by simp, by simp, by simpa using CInv.nil _ _, (Below.refl _ _).alloc (Nat.le_refl _) _⟩

theorem VI.step {n : Nat} {w1 wr W1 w2 : World} {ts : List (Tr n)} {k cv : Nat} {av : Option Addr} {t : Tr n} {sb sk : Value} (h : VI w1 ts k (.slice av k cv) wr) (hk : Kp No wr W1) (hb : Below W1.heap.size W1 w2) (hr : Tlv.Rep W1.heap.size w2.heap.size w2 n t sb sk) (he : ts[k]? = some t) (hl : k + 1 ≤ 2000000) (ty : TypeId) :
    ∃ g' cap w4, (Builtin.append_ #[93, 93] ty #[.slice av k cv, .slice (some ⟨w2.heap.size, 0, none⟩) 1 1]).run Try.prog (w2.alloc (.cells #[.int .i64 t.hd.1, .int .u64 t.hd.2.1, sb, sk] 95)) = .ok (.slice (some ⟨g', 0, none⟩) (k + 1) cap) w4 ∧
      w4.cell? ⟨w1.heap.size, 3, none⟩ = some (.slice av k cv) ∧ w4.frozen? ⟨w1.heap.size, 3, none⟩ = false ∧ w1.heap.size < w4.heap.size ∧
      VI w1 ts (k + 1) (.slice (some ⟨g', 0, none⟩) (k + 1) cap) (w4.setCell ⟨w1.heap.size, 3, none⟩ (.slice (some ⟨g', 0, none⟩) (k + 1) cap)) ∧ Kp (fun x => x = w1.heap.size ∨ (Value.slice av k cv).ownBlock = some x) W1 w4 := by
  obtain ⟨h0, h1, h2, h3, hf, hs, hc, hw⟩ := h
  have hlk : (ts.take k).length = k := by
    have := (List.getElem?_eq_some_iff.1 he).1
    rw [List.length_take]
    omega
  have hz1 := hk.size
  have hz2 := hb.size
  have hA : Agree (w1.heap.size + 1) wr.heap.size wr w2 := fun j _ hj => (hb.block j (by omega)).trans (hk.block j hj (fun x => x))
  have hc2 := hc.agree hA (by omega)
  obtain ⟨g', cap, w4, hrun, hC, hgr⟩ := push_run w2 hlk hc2 (by omega) hr (by omega) (Nat.le_refl _) (fun r hr => .inl (by have := (hc.lt r hr).2; omega)) hl ty
  have hne : ∀ r, (Value.slice av k cv).ownBlock = some r → w1.heap.size + 1 ≤ r := fun r hr => (hc.lt r hr).1
  have hnb : some w1.heap.size ≠ (Value.slice av k cv).ownBlock := fun e => by have := hne _ e.symm; omega
  have hzg := hgr.size
  simp at hzg
  have cc : ∀ j, w4.cell? ⟨w1.heap.size, j, none⟩ = wr.cell? ⟨w1.heap.size, j, none⟩ := fun j => by
    rw [hgr.cell_far ⟨w1.heap.size, j, none⟩ (by simp; omega) hnb, World.cell?_alloc_past _ _ _ (by omega), hb.cell (p := ⟨w1.heap.size, j, none⟩) (by simp; omega)]
    exact hk.cell (p := ⟨w1.heap.size, j, none⟩) hs (fun x => x)
  have cf : ∀ j, w4.frozen? ⟨w1.heap.size, j, none⟩ = false := fun j => by
    rw [hgr.frozen_far ⟨w1.heap.size, j, none⟩ (by simp; omega) hnb, World.frozen?_alloc_past _ _ _ (by omega), hb.frozen (p := ⟨w1.heap.size, j, none⟩) (by simp; omega), hk.frozen (p := ⟨w1.heap.size, j, none⟩) hs (fun x => x)]
    exact hf j
  have htake : ts.take (k + 1) = ts.take k ++ [t] := by
    rw [List.take_add_one, he]
    rfl
  have hKp : Kp (fun x => x = w1.heap.size ∨ (Value.slice av k cv).ownBlock = some x) W1 w4 := (((Kp.refl _ W1).trans (Kp.below hb : Kp No _ _) (fun _ hx => hx.elim)).alloc _).grown hgr (fun x hx => .inl (.inr hx))
  refine ⟨g', cap, w4, hrun, (cc 3).trans h3, cf 3, by omega, ⟨?_, ?_, ?_, ?_, fun o => ?_, ?_, ?_, ?_⟩, hKp⟩
  · rw [Sim.cell_other (by omega)]; exact (cc 0).trans h0
  · rw [Sim.cell_other (by omega)]; exact (cc 1).trans h1
  · rw [Sim.cell_other (by omega)]; exact (cc 2).trans h2
  · exact World.cell?_setCell_same _ _ _ ((cc 3).trans h3)
  · rw [World.frozen?_setCell]; exact cf o
  · simp; omega
  · rw [htake]
    exact hC.agree ((Agree.refl _ _ _).setCell (.inl (by simp)) _) (by simp)
  · have b1 : Below w1.heap.size w1 w2 := hw.trans ⟨by rw [hb.os, hk.os], by rw [hb.tape, hk.tape], by rw [hb.output, hk.output], by omega, fun j hj => (hb.block j (by omega)).trans (hk.block j (by omega) (fun x => x))⟩
    exact ((b1.alloc (by omega) _).grown hgr (by simp; omega) (fun r hr => by have := hne r hr; omega)).setCell (by simp) _
end Go.Proofs.Ytenfahecnkdhaaa.Nd
end

section
/-
  The value of entries in tlv's words.
-/
namespace Go.Proofs.Ytenfahecnkdhaaa.Nd
open Go.RowKit
open Tlv (Tr Agree)
open Sim (hid Kp No)

theorem run_oneV (t n : Int) (sb sk : Value) (w : World) : (Instr.buildSlice 93 1 #[(0, .agg #[.int .i64 t, .int .u64 n, sb, sk])]).run Try.prog w = .ok (.slice (some ⟨w.heap.size, 0, none⟩) 1 1) (w.alloc (.cells #[.int .i64 t, .int .u64 n, sb, sk] 95)) := by kernel_rfl
set_option maxHeartbeats 4000000 in
set_option maxRecDepth 100000 in
theorem value_any (w : World) (v : Value) (d : List Ent) (P : Nat → Prop) (hv : EV P w v d) (hp : ∀ e ∈ d, e.1.length ≤ 1000000) (hl : d.length ≤ 1000000) :
    Calls Try.prog 45 #[v] w fun e w' => ∃ a3 l3 p3 a4 l4 p4, e = .returned (.agg #[.int .i64 3, .int .u64 0, .slice a3 l3 p3, .slice a4 l4 p4]) ∧ Tlv.Rep w.heap.size w'.heap.size w' 3 (entsT d) (.slice a3 l3 p3) (.slice a4 l4 p4) ∧ Below w.heap.size w w' := by
  obtain ⟨a, c, rfl, h2, h3, h4, h5, h6⟩ := hv
  obtain ⟨n, hn⟩ : ∃ n, d.length = n := ⟨_, rfl⟩
  have HN := hid hn
  have HP := hid hp
  rw [hn] at hl h2 ⊢
  have H6 := hid h6
  have HM := hid many_none
  clear hn h2 h3 h4 h5 h6 hp
  go_enter Try.func45, Try.ntmps45
  go_wp2_with fail
  refine (HM.out _).mono ?_
  rintro e w1 ⟨rfl, hb1⟩
  have HB1 := hid hb1
  have HW : Hid (Below w.heap.size w w1) := ((Below.refl _ _).alloc (Nat.le_refl _) _).trans (hb1.mono (by simp))
  have hzw : w.heap.size < w1.heap.size := by have := hb1.size; simp at this; omega
  clear hb1 HM
  go_wp2_with fail
  go_loopw [9] (fun i wr => ∃ (k : Nat) (av : Option Addr) (cv : Nat), i = .int .i64 (k : Int) ∧ k ≤ n ∧ Hid (VI w1 (d.map entT) k (.slice av k cv) wr)) (fun i _ => n - (intOf i).toNat)
  case atStart => exact ⟨0, none, 0, rfl, Nat.zero_le _, VI.start w1 (d.map entT)⟩
  case round =>
    obtain ⟨k, av, cv, rfl, hkn, HS⟩ := hrel
    have hKw : Kp No w wr := Kp.below (HW.out.trans (HS.out.2.2.2.2.2.2.2.mono (by omega)))
    by_cases hlt : k < n
    · have hltI : (k : Int) < (n : Int) := by omega
      have hwk : IntKind.i64.wrap ((k : Int) + 1) = ((k + 1 : Nat) : Int) := by rw [IntKind.wrap_i64]; omega
      obtain ⟨e, he⟩ : ∃ e, d[k]? = some e := ⟨_, List.getElem?_eq_getElem (by rw [HN.out]; exact hlt)⟩
      have HE : Hid ((d.map entT)[k]? = some (entT e)) := by rw [Hid, List.getElem?_map, he]; rfl
      obtain ⟨g, o, rfl, _, hr⟩ := H6.out (by intro e; have := HN.out; rw [e] at this; simp at this; omega)
      have hrow := hr.kp hKw (fun x => x)
      have HX := hid (hrow.2 k e he)
      have HI := hid (inf HX.out.1)
      have HVAL : Hid (∀ V, Calls Try.prog 71 #[.agg (entC e).toArray] V fun e' w' => ∃ a3 l3 p3 a4 l4 p4, e' = .returned (.agg #[.int .i64 3, .int .u64 0, .slice a3 l3 p3, .slice a4 l4 p4]) ∧ Tlv.Rep V.heap.size w'.heap.size w' 2 (entT e) (.slice a3 l3 p3) (.slice a4 l4 p4) ∧ Below V.heap.size V w') := fun V => by
        have q0 := HP.out e (List.mem_of_getElem? he)
        obtain ⟨nm, p, q⟩ := e
        exact entval_any nm p q V HX.out.1 q0
      obtain ⟨cx, hcx⟩ : ∃ cx, entC e = cx := ⟨_, rfl⟩
      have HRX : Hid (wr.rangeAt g (o + k * 34) cx) := by rw [← hcx]; exact HX.out.2
      rw [hcx] at HI HVAL
      have hcl : cx.length = 34 := by rw [← hcx]; exact entC_length HX.out.1
      have HO1 : Hid (cx.toArray.all (·.oneCell') = true) := by rw [← hcx]; exact all_oneCell_toArray (entC_one e)
      have HC0 : Hid (∃ v0, cx[0]? = some v0) := ⟨_, List.getElem?_eq_getElem (by omega)⟩
      clear hcx hr hrow he hKw
      go_wp2_with (first
        | (refine wpList_load_mid (by rfl) 70 _ (by rfl) g (o + k * 34) (by rfl) cx _ HRX.out Try.underlying70 rfl HI.out ?_)
        | (refine wpList_store_box (fun W => ∀ V, Kp No W V → V.rangeAt wr.heap.size 0 cx ∧ Kp No wr V) (by rfl) 70 _ _ (by rfl) wr.heap.size 0 cx.toArray (by rfl) (by rfl) (thereE wr _ _ _ (by rw [List.size_toArray, hcl]; exact Nat.le_refl _)) HI.out HO1.out (boxE wr _ cx rfl hcl) ?_; intro W1 hW1; have HW1 := hid hW1; clear hW1))
      have HKW := hid (HW1.out W1 (Kp.refl _ _)).2
      have hbx : wr.heap.size < W1.heap.size := by
        obtain ⟨v0, hv0⟩ := HC0.out
        exact World.block_lt_of_cell? _ _ ((HW1.out W1 (Kp.refl _ _)).1 0 v0 hv0)
      have HLX : Hid (∀ V, Kp (fun x => x = w1.heap.size ∨ (Value.slice av k cv).ownBlock = some x) W1 V → V.rangeAt wr.heap.size 0 cx) := fun V hV j u hu => by
        refine (hV.cell (p := ⟨wr.heap.size, _, none⟩) hbx (fun hx => ?_)).trans ((HW1.out W1 (Kp.refl _ _)).1 j u hu)
        rcases hx with hx | hx
        · have h1 := HS.out.2.2.2.2.2.1
          have h2 : wr.heap.size = w1.heap.size := hx
          omega
        · have h1 := (HS.out.2.2.2.2.2.2.1.lt wr.heap.size hx).2
          omega
      have c3 : ∀ V, Kp No W1 V → V.cell? ⟨w1.heap.size, 3, none⟩ = some (.slice av k cv) := fun V hV => ((HW1.out V hV).2.cell (p := ⟨w1.heap.size, 3, none⟩) HS.out.2.2.2.2.2.1 (fun x => x)).trans HS.out.2.2.2.1
      clear hcl hbx
      refine wp_region_held_drew (S := fun V => Kp (fun x => x = w1.heap.size ∨ (Value.slice av k cv).ownBlock = some x) W1 V) (by kernel_rfl) ((Kp.refl _ _).drew) (fun hHeld => ?_)
      refine wpAnyH_take (i := 0) (oi := { dst := some 13, op := Op.fieldAddr 95 (Operand.tmp 3) 3, type := 0, pos := "dir.go:90", after := #[], guard := none }) (v := .pointer (some ⟨w1.heap.size, 3, none⟩)) rfl (by kernel_rfl) (by kernel_rfl) (by kernel_rfl) (fun _ _ _ h => h) (Or.inl ⟨by rfl, fun w' hw' => by (clear hw'; go_simp)⟩) hHeld ?_
      simp only [Act.put, List.setIfInBounds_toArray, List.set_cons_zero, List.set_cons_succ]
      refine wpAnyH_take (i := 2) (oi := { dst := some 15, op := Op.load 70 (Operand.tmp 5), type := 70, pos := "dir.go:90", after := #[], guard := none }) (v := .agg cx.toArray) rfl (by kernel_rfl) (by kernel_rfl) (by kernel_rfl) (fun _ _ _ h => h) (yieldsIf_load_mid (by rfl) _ _ rfl wr.heap.size 0 rfl cx _ (HLX.out) Try.underlying70 rfl HI.out) hHeld ?_
      simp only [Act.put, List.setIfInBounds_toArray, List.set_cons_zero, List.set_cons_succ]
      refine wpAnyH_ready (rs := [1, 3]) (by kernel_rfl) (by simp) ?_
      refine (AllReadyH.cons (o := { dst := some 14, op := Op.load 93 (Operand.tmp 13), type := 93, pos := "dir.go:90", after := #[{ on := 0, ground := Ground.data }], guard := none }) rfl (fun K hK => ?_) (AllReadyH.cons (o := { dst := some 16, op := Op.call { callee := Callee.value (Operand.func 71), args := #[Operand.tmp 15], argTypes := #[70] }, type := 95, pos := "dir.go:90", after := #[{ on := 2, ground := Ground.data }], guard := none }) rfl (fun K hK => ?_) AllReadyH.nil))
      · have q3 := c3 (W1.drew) ((Kp.refl No W1).drew)
        go_simp
        refine hK.out _ _ ((((Kp.refl No W1).drew).ofNo)) (fun hh => ?_)
        clear hK K hHeld
        have hHeld := hh
        clear hh
        try simp only [Act.put, List.setIfInBounds_toArray, List.set_cons_zero, List.set_cons_succ]
        refine wpAnyH_ready (rs := [3]) (by kernel_rfl) (by simp) ?_
        refine (AllReadyH.cons (o := { dst := some 16, op := Op.call { callee := Callee.value (Operand.func 71), args := #[Operand.tmp 15], argTypes := #[70] }, type := 95, pos := "dir.go:90", after := #[{ on := 2, ground := Ground.data }], guard := none }) rfl (fun K hK => ?_) AllReadyH.nil)
        go_simp
        refine (HVAL.out _).mono ?_
        rintro e' w2 ⟨a3, l3, p3, a4, l4, p4, rfl, hr2, hb2⟩
        have hb2' : Below W1.heap.size W1 w2 := (Below.refl _ _).drew.trans hb2
        obtain ⟨g', cap, w4, hap, k3, kf, ks, hvi, hkp⟩ := HS.out.step HKW.out hb2' hr2 HE.out (by omega) 93
        have HK2 : Hid (Kp No W1 w2) := Kp.below hb2'
        have HAP := hid hap
        have HVI := hid hvi
        have HKP := hid hkp
        clear hap hvi hkp hr2 hb2 hb2'
        go_wp2_with fail
        refine hK.out _ _ (HK2.out.ofNo) (fun hh => ?_)
        clear hK K hHeld
        have hHeld := hh
        clear hh
        try simp only [Act.put, List.setIfInBounds_toArray, List.set_cons_zero, List.set_cons_succ]
        refine wpAnyH_ready (rs := [4]) (by kernel_rfl) (by simp) ?_
        refine (AllReadyH.cons (o := { dst := some 17, op := Op.buildSlice 93 1 #[(0, Operand.tmp 16)], type := 93, pos := "dir.go:90", after := #[{ on := 3, ground := Ground.data }], guard := none }) rfl (fun K hK => ?_) AllReadyH.nil)
        rw [if_pos (by rfl)]
        refine wp_valE (exec_sliceE 93 _ rfl (.agg #[.int .i64 3, .int .u64 0, .slice a3 l3 p3, .slice a4 l4 p4]) _ rfl (run_oneV _ _ _ _ _)) ?_
        refine hK.out _ _ ((HK2.out.alloc _).ofNo) (fun hh => ?_)
        clear hK K hHeld
        have hHeld := hh
        clear hh
        try simp only [Act.put, List.setIfInBounds_toArray, List.set_cons_zero, List.set_cons_succ]
        refine wpAnyH_ready (rs := [5]) (by kernel_rfl) (by simp) ?_
        refine (AllReadyH.cons (o := { dst := some 18, op := Op.call { callee := Callee.builtin Builtin.append, args := #[Operand.tmp 14, Operand.tmp 17], argTypes := #[93, 93] }, type := 93, pos := "dir.go:90", after := #[{ on := 1, ground := Ground.data }, { on := 4, ground := Ground.data }, { on := 3, ground := Ground.chain }], guard := none }) rfl (fun K hK => ?_) AllReadyH.nil)
        rw [if_pos (by rfl)]
        refine wp_valE (exec_appE _ _ 93 rfl (.slice av k cv) (.slice (some ⟨w2.heap.size, 0, none⟩) 1 1) _ rfl rfl HAP.out) ?_
        refine hK.out _ _ (HKP.out) (fun hh => ?_)
        clear hK K hHeld
        have hHeld := hh
        clear hh
        try simp only [Act.put, List.setIfInBounds_toArray, List.set_cons_zero, List.set_cons_succ]
        refine wpAnyH_take (i := 6) (oi := { dst := some 19, op := Op.fieldAddr 95 (Operand.tmp 3) 3, type := 0, pos := "dir.go:90", after := #[{ on := 0, ground := Ground.phase }, { on := 1, ground := Ground.phase }, { on := 2, ground := Ground.phase }, { on := 3, ground := Ground.phase }, { on := 4, ground := Ground.phase }, { on := 5, ground := Ground.phase }], guard := none }) (v := .pointer (some ⟨w1.heap.size, 3, none⟩)) rfl (by kernel_rfl) (by kernel_rfl) (by kernel_rfl) (fun _ _ _ h => h) (Or.inl ⟨by rfl, fun w' hw' => by (clear hw'; go_simp)⟩) hHeld ?_
        simp only [Act.put, List.setIfInBounds_toArray, List.set_cons_zero, List.set_cons_succ]
        refine wpAnyH_ready (rs := [7]) (by kernel_rfl) (by simp) ?_
        refine (AllReadyH.cons (o := { dst := none, op := Op.store 93 (Operand.tmp 19) (Operand.tmp 18), type := 0, pos := "dir.go:90", after := #[{ on := 6, ground := Ground.data }, { on := 5, ground := Ground.data }, { on := 5, ground := Ground.chain }, { on := 0, ground := Ground.phase }, { on := 1, ground := Ground.phase }, { on := 2, ground := Ground.phase }, { on := 3, ground := Ground.phase }, { on := 4, ground := Ground.phase }, { on := 5, ground := Ground.phase }], guard := none }) rfl (fun K hK => ?_) AllReadyH.nil)
        go_simp
        refine hK.out _ _ ((HKP.out.setCell (p := ⟨w1.heap.size, 3, none⟩) (.inl (.inl rfl)) _)) (fun hh => ?_)
        clear hK K hHeld
        have hHeld := hh
        clear hh
        try simp only [Act.put, List.setIfInBounds_toArray, List.set_cons_zero, List.set_cons_succ]
        refine wpAnyH_done (by kernel_rfl) ?_ _
        clear hHeld
        go_wp2_with fail
        go_round
        case rel => exact ⟨k + 1, some ⟨g', 0, none⟩, cap, by first | rfl | go_num, by omega, HVI.out⟩
        case measure => simp [intOf]; omega
      · go_simp
        refine (HVAL.out _).mono ?_
        rintro e' w2 ⟨a3, l3, p3, a4, l4, p4, rfl, hr2, hb2⟩
        have hb2' : Below W1.heap.size W1 w2 := (Below.refl _ _).drew.trans hb2
        obtain ⟨g', cap, w4, hap, k3, kf, ks, hvi, hkp⟩ := HS.out.step HKW.out hb2' hr2 HE.out (by omega) 93
        have HK2 : Hid (Kp No W1 w2) := Kp.below hb2'
        have HAP := hid hap
        have HVI := hid hvi
        have HKP := hid hkp
        clear hap hvi hkp hr2 hb2 hb2'
        go_wp2_with fail
        refine hK.out _ _ (HK2.out.ofNo) (fun hh => ?_)
        clear hK K hHeld
        have hHeld := hh
        clear hh
        try simp only [Act.put, List.setIfInBounds_toArray, List.set_cons_zero, List.set_cons_succ]
        refine wpAnyH_ready (rs := [1, 4]) (by kernel_rfl) (by simp) ?_
        refine (AllReadyH.cons (o := { dst := some 14, op := Op.load 93 (Operand.tmp 13), type := 93, pos := "dir.go:90", after := #[{ on := 0, ground := Ground.data }], guard := none }) rfl (fun K hK => ?_) (AllReadyH.cons (o := { dst := some 17, op := Op.buildSlice 93 1 #[(0, Operand.tmp 16)], type := 93, pos := "dir.go:90", after := #[{ on := 3, ground := Ground.data }], guard := none }) rfl (fun K hK => ?_) AllReadyH.nil))
        · have q3 := c3 (w2) HK2.out
          go_simp
          refine hK.out _ _ ((HK2.out.ofNo)) (fun hh => ?_)
          clear hK K hHeld
          have hHeld := hh
          clear hh
          try simp only [Act.put, List.setIfInBounds_toArray, List.set_cons_zero, List.set_cons_succ]
          refine wpAnyH_ready (rs := [4]) (by kernel_rfl) (by simp) ?_
          refine (AllReadyH.cons (o := { dst := some 17, op := Op.buildSlice 93 1 #[(0, Operand.tmp 16)], type := 93, pos := "dir.go:90", after := #[{ on := 3, ground := Ground.data }], guard := none }) rfl (fun K hK => ?_) AllReadyH.nil)
          rw [if_pos (by rfl)]
          refine wp_valE (exec_sliceE 93 _ rfl (.agg #[.int .i64 3, .int .u64 0, .slice a3 l3 p3, .slice a4 l4 p4]) _ rfl (run_oneV _ _ _ _ _)) ?_
          refine hK.out _ _ ((HK2.out.alloc _).ofNo) (fun hh => ?_)
          clear hK K hHeld
          have hHeld := hh
          clear hh
          try simp only [Act.put, List.setIfInBounds_toArray, List.set_cons_zero, List.set_cons_succ]
          refine wpAnyH_ready (rs := [5]) (by kernel_rfl) (by simp) ?_
          refine (AllReadyH.cons (o := { dst := some 18, op := Op.call { callee := Callee.builtin Builtin.append, args := #[Operand.tmp 14, Operand.tmp 17], argTypes := #[93, 93] }, type := 93, pos := "dir.go:90", after := #[{ on := 1, ground := Ground.data }, { on := 4, ground := Ground.data }, { on := 3, ground := Ground.chain }], guard := none }) rfl (fun K hK => ?_) AllReadyH.nil)
          rw [if_pos (by rfl)]
          refine wp_valE (exec_appE _ _ 93 rfl (.slice av k cv) (.slice (some ⟨w2.heap.size, 0, none⟩) 1 1) _ rfl rfl HAP.out) ?_
          refine hK.out _ _ (HKP.out) (fun hh => ?_)
          clear hK K hHeld
          have hHeld := hh
          clear hh
          try simp only [Act.put, List.setIfInBounds_toArray, List.set_cons_zero, List.set_cons_succ]
          refine wpAnyH_take (i := 6) (oi := { dst := some 19, op := Op.fieldAddr 95 (Operand.tmp 3) 3, type := 0, pos := "dir.go:90", after := #[{ on := 0, ground := Ground.phase }, { on := 1, ground := Ground.phase }, { on := 2, ground := Ground.phase }, { on := 3, ground := Ground.phase }, { on := 4, ground := Ground.phase }, { on := 5, ground := Ground.phase }], guard := none }) (v := .pointer (some ⟨w1.heap.size, 3, none⟩)) rfl (by kernel_rfl) (by kernel_rfl) (by kernel_rfl) (fun _ _ _ h => h) (Or.inl ⟨by rfl, fun w' hw' => by (clear hw'; go_simp)⟩) hHeld ?_
          simp only [Act.put, List.setIfInBounds_toArray, List.set_cons_zero, List.set_cons_succ]
          refine wpAnyH_ready (rs := [7]) (by kernel_rfl) (by simp) ?_
          refine (AllReadyH.cons (o := { dst := none, op := Op.store 93 (Operand.tmp 19) (Operand.tmp 18), type := 0, pos := "dir.go:90", after := #[{ on := 6, ground := Ground.data }, { on := 5, ground := Ground.data }, { on := 5, ground := Ground.chain }, { on := 0, ground := Ground.phase }, { on := 1, ground := Ground.phase }, { on := 2, ground := Ground.phase }, { on := 3, ground := Ground.phase }, { on := 4, ground := Ground.phase }, { on := 5, ground := Ground.phase }], guard := none }) rfl (fun K hK => ?_) AllReadyH.nil)
          go_simp
          refine hK.out _ _ ((HKP.out.setCell (p := ⟨w1.heap.size, 3, none⟩) (.inl (.inl rfl)) _)) (fun hh => ?_)
          clear hK K hHeld
          have hHeld := hh
          clear hh
          try simp only [Act.put, List.setIfInBounds_toArray, List.set_cons_zero, List.set_cons_succ]
          refine wpAnyH_done (by kernel_rfl) ?_ _
          clear hHeld
          go_wp2_with fail
          go_round
          case rel => exact ⟨k + 1, some ⟨g', 0, none⟩, cap, by first | rfl | go_num, by omega, HVI.out⟩
          case measure => simp [intOf]; omega
        · rw [if_pos (by rfl)]
          refine wp_valE (exec_sliceE 93 _ rfl (.agg #[.int .i64 3, .int .u64 0, .slice a3 l3 p3, .slice a4 l4 p4]) _ rfl (run_oneV _ _ _ _ _)) ?_
          refine hK.out _ _ ((HK2.out.alloc _).ofNo) (fun hh => ?_)
          clear hK K hHeld
          have hHeld := hh
          clear hh
          try simp only [Act.put, List.setIfInBounds_toArray, List.set_cons_zero, List.set_cons_succ]
          refine wpAnyH_ready (rs := [1]) (by kernel_rfl) (by simp) ?_
          refine (AllReadyH.cons (o := { dst := some 14, op := Op.load 93 (Operand.tmp 13), type := 93, pos := "dir.go:90", after := #[{ on := 0, ground := Ground.data }], guard := none }) rfl (fun K hK => ?_) AllReadyH.nil)
          have q3 := c3 (w2.alloc (.cells #[.int .i64 3, .int .u64 0, .slice a3 l3 p3, .slice a4 l4 p4] 95)) (HK2.out.alloc _)
          go_simp
          refine hK.out _ _ (((HK2.out.alloc _).ofNo)) (fun hh => ?_)
          clear hK K hHeld
          have hHeld := hh
          clear hh
          try simp only [Act.put, List.setIfInBounds_toArray, List.set_cons_zero, List.set_cons_succ]
          refine wpAnyH_ready (rs := [5]) (by kernel_rfl) (by simp) ?_
          refine (AllReadyH.cons (o := { dst := some 18, op := Op.call { callee := Callee.builtin Builtin.append, args := #[Operand.tmp 14, Operand.tmp 17], argTypes := #[93, 93] }, type := 93, pos := "dir.go:90", after := #[{ on := 1, ground := Ground.data }, { on := 4, ground := Ground.data }, { on := 3, ground := Ground.chain }], guard := none }) rfl (fun K hK => ?_) AllReadyH.nil)
          rw [if_pos (by rfl)]
          refine wp_valE (exec_appE _ _ 93 rfl (.slice av k cv) (.slice (some ⟨w2.heap.size, 0, none⟩) 1 1) _ rfl rfl HAP.out) ?_
          refine hK.out _ _ (HKP.out) (fun hh => ?_)
          clear hK K hHeld
          have hHeld := hh
          clear hh
          try simp only [Act.put, List.setIfInBounds_toArray, List.set_cons_zero, List.set_cons_succ]
          refine wpAnyH_take (i := 6) (oi := { dst := some 19, op := Op.fieldAddr 95 (Operand.tmp 3) 3, type := 0, pos := "dir.go:90", after := #[{ on := 0, ground := Ground.phase }, { on := 1, ground := Ground.phase }, { on := 2, ground := Ground.phase }, { on := 3, ground := Ground.phase }, { on := 4, ground := Ground.phase }, { on := 5, ground := Ground.phase }], guard := none }) (v := .pointer (some ⟨w1.heap.size, 3, none⟩)) rfl (by kernel_rfl) (by kernel_rfl) (by kernel_rfl) (fun _ _ _ h => h) (Or.inl ⟨by rfl, fun w' hw' => by (clear hw'; go_simp)⟩) hHeld ?_
          simp only [Act.put, List.setIfInBounds_toArray, List.set_cons_zero, List.set_cons_succ]
          refine wpAnyH_ready (rs := [7]) (by kernel_rfl) (by simp) ?_
          refine (AllReadyH.cons (o := { dst := none, op := Op.store 93 (Operand.tmp 19) (Operand.tmp 18), type := 0, pos := "dir.go:90", after := #[{ on := 6, ground := Ground.data }, { on := 5, ground := Ground.data }, { on := 5, ground := Ground.chain }, { on := 0, ground := Ground.phase }, { on := 1, ground := Ground.phase }, { on := 2, ground := Ground.phase }, { on := 3, ground := Ground.phase }, { on := 4, ground := Ground.phase }, { on := 5, ground := Ground.phase }], guard := none }) rfl (fun K hK => ?_) AllReadyH.nil)
          go_simp
          refine hK.out _ _ ((HKP.out.setCell (p := ⟨w1.heap.size, 3, none⟩) (.inl (.inl rfl)) _)) (fun hh => ?_)
          clear hK K hHeld
          have hHeld := hh
          clear hh
          try simp only [Act.put, List.setIfInBounds_toArray, List.set_cons_zero, List.set_cons_succ]
          refine wpAnyH_done (by kernel_rfl) ?_ _
          clear hHeld
          go_wp2_with fail
          go_round
          case rel => exact ⟨k + 1, some ⟨g', 0, none⟩, cap, by first | rfl | go_num, by omega, HVI.out⟩
          case measure => simp [intOf]; omega
    · have hltI : ¬ (k : Int) < (n : Int) := by omega
      have hkn' : k = n := by omega
      have hS := HS.out
      obtain ⟨f0, f1, f2, f3, hf, hs, hc, hw⟩ := hS
      have hc' := hc.done (by rw [List.length_take, List.length_map, HN.out]; omega)
      rw [List.take_of_length_le (by rw [List.length_map, HN.out]; omega)] at hc'
      have HC := hid hc'
      have HBW := hid hw
      have xr : ∀ o, wr.cell? ⟨w.heap.size, o, none⟩ = (#[.int .i64 0, .int .u64 0, .slice none 0 0, .slice none 0 0] : Array Value)[o]? := fun o => by
        rw [hw.cell (p := ⟨w.heap.size, o, none⟩) (by simp; omega), HB1.out.cell (p := ⟨w.heap.size, o, none⟩) (by simp), World.cell?_alloc_at _ _ _ _ rfl]
      have xf : ∀ o, wr.frozen? ⟨w.heap.size, o, none⟩ = false := fun o => by
        rw [hw.frozen (p := ⟨w.heap.size, o, none⟩) (by simp; omega), HB1.out.frozen (p := ⟨w.heap.size, o, none⟩) (by simp), World.frozen?_alloc_at _ _ _ _ rfl]
      have r0 : wr.cell? ⟨w.heap.size, 0, none⟩ = some (.int .i64 0) := xr 0
      have r1 : wr.cell? ⟨w.heap.size, 1, none⟩ = some (.int .u64 0) := xr 1
      have r2 : wr.cell? ⟨w.heap.size, 2, none⟩ = some (.slice none 0 0) := xr 2
      have r3 : wr.cell? ⟨w.heap.size, 3, none⟩ = some (.slice none 0 0) := xr 3
      clear xr hc hc' hw hKw HS hkn'
      go_wp2_with fail
      obtain ⟨q0, q1, q2, q3⟩ := Tlv.set4_read (u0 := .int .i64 3) (u1 := .int .u64 0) (u2 := .slice none 0 0) (u3 := .slice av k cv) r0 r1 r2 r3
      refine bodyPost_ret (v := .agg #[.int .i64 3, .int .u64 0, .slice none 0 0, .slice av k cv]) (by simp [results, Try.results45, go_sem, q0, q1, q2, q3]) rfl ⟨_, _, _, _, _, _, rfl, ⟨by simp [entsT, Tr.mk, Tlv.Tr.hd], by simp [entsT, Tr.mk, Tlv.Tr.hd], Tlv.BySl.none _ _ _, ?_⟩, ?_⟩
      · have A4 := Agree.set4 (L := w1.heap.size + 1) (B := wr.heap.size) wr (b := w.heap.size) (o0 := 0) (o1 := 1) (o2 := 2) (o3 := 3) (.inl (by omega)) (.int .i64 3) (.int .u64 0) (.slice none 0 0) (.slice av k cv)
        exact HC.out.agree (L' := w.heap.size) (fun _ _ _ r => Tlv.Rep.agree (L' := w.heap.size) A4 (by omega) (by simp) r) A4 (by omega) (by simp)
      · exact (HW.out.trans (HBW.out.mono (by omega))).trans (Tlv.bset4 (Nat.le_refl _) _ _ _ _)
end Go.Proofs.Ytenfahecnkdhaaa.Nd
end
