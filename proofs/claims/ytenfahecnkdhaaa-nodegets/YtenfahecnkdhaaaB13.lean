/- Of the proof: the texts NdRPutD, one behind the other. -/
import Derived.Test.YtenfahecnkdhaaaB11
import Derived.Test.YtenfahecnkdhaaaB3
import Derived.Test.YtenfahecnkdhaaaB4
section
/-
  PutDir, of the document.
-/
namespace Go.Proofs.Ytenfahecnkdhaaa.Nd
open Go.RowKit
open Tlv (Tr Agree AgreeS BInv RepS BySlS KSlS)
open Sim (hid Kp No)
set_option linter.unusedSimpArgs false

theorem bySlS_lift {S S' : Nat → Prop} {w w' : World} {v : Value} {bs : List Int} (h : BySlS S w v bs) (hw : AgreeS S w w') (hS : ∀ b, S b → S' b) : BySlS S' w' v bs := h.agree hw hS
/-- Three values in a row: an entry's. -/
theorem threeInS {P Q : Nat → Prop} {w : World} (nm hs : List Int) (q : Int) (vn vh : Value) (h0 : 0 ≤ q ∧ q ≤ 1000000) (bn : BySlS P w vn nm) (bh : BySlS P w vh hs) (hP : ∀ b, P b → b < w.heap.size) (hQ : ∀ b, P b ∨ b = w.heap.size → Q b) (ty : TypeId) (C : Array Value)
    (hC : C = #[.int .i64 2, .int .u64 0, vn, .slice none 0 0, .int .i64 1, .int .u64 q, .slice none 0 0, .slice none 0 0, .int .i64 2, .int .u64 0, vh, .slice none 0 0]) :
    KSlS Q (w.alloc (.cells C ty)) (RepS Q (w.alloc (.cells C ty)) 1) (.slice (some ⟨w.heap.size, 0, none⟩) 3 3) [(Tr.mk 2 0 nm [] : Tr 1), Tr.mk 1 q [] [], Tr.mk 2 0 hs []] := by
  subst hC
  have hA : ∀ o : Obj, AgreeS P w (w.alloc o) := fun o b hb => Below.heap_alloc _ _ _ (hP b hb)
  have hc : ∀ (C : Array Value) (j : Nat), (w.alloc (.cells C ty)).cell? ⟨w.heap.size, j, none⟩ = C[j]? := fun C j => World.cell?_alloc_at _ _ _ _ rfl
  refine ⟨_, 3, rfl, Nat.le_refl _, by decide, by simp, by simp, fun _ => ⟨w.heap.size, 0, rfl, hQ _ (.inr rfl), fun j t hj => ?_⟩⟩
  match j, hj with
  | 0, hj =>
    simp only [List.getElem?_cons_zero, Option.some.injEq] at hj
    subst hj
    exact ⟨_, _, hc _ _, hc _ _, hc _ _, hc _ _, repS_bytes (bySlS_lift bn (hA _) (fun b hb => hQ b (.inl hb)))⟩
  | 1, hj =>
    simp only [List.getElem?_cons_succ, List.getElem?_cons_zero, Option.some.injEq] at hj
    subst hj
    exact ⟨_, _, hc _ _, hc _ _, hc _ _, hc _ _, repS_num (by omega)⟩
  | 2, hj =>
    simp only [List.getElem?_cons_succ, List.getElem?_cons_zero, Option.some.injEq] at hj
    subst hj
    exact ⟨_, _, hc _ _, hc _ _, hc _ _, hc _ _, repS_bytes (bySlS_lift bh (hA _) (fun b hb => hQ b (.inl hb)))⟩

set_option maxHeartbeats 8000000 in
set_option maxRecDepth 100000 in
theorem rPutDir_any (w : World) (v : Value) (d : List Ent) (hv : EV (· < w.heap.size) w v d) (hl : d.length ≤ 1000000) (hnm : ∀ e ∈ d, e.1.length ≤ 1000000) (hsz : RightP d → Tlv.szT 3 (entsT d) ≠ 0) :
    Calls Try.prog 14 #[v] w fun e w' => Put1 (RightP d ∧ objP (entsT d)) 3 (Tlv.formOf 3 (entsT d)) w' e ∧ Below w.heap.size w w' := by
  obtain ⟨a, c, rfl, hxx⟩ := id hv
  clear hxx
  have HVV := hid hv
  have HSZ := hid hsz
  have HNM := hid hnm
  have HOK := hid hv.ok
  obtain ⟨n, hn⟩ : ∃ n, d.length = n := ⟨_, rfl⟩
  have HN := hid hn
  obtain ⟨W0, hW0⟩ : ∃ W, w.alloc (.cells #[.int .i64 0, .slice none 0 0] 29) = W := ⟨_, rfl⟩
  have HB0 : Hid (Below w.heap.size w W0) := by rw [Hid, ← hW0]; exact (Below.refl _ _).alloc (Nat.le_refl _) _
  have HRF := hid (rightDir_any W0 _ d _ (hv.kept (by rw [← hW0]; exact (Kp.refl No w).alloc _)) hl hnm)
  rw [hn] at hl HVV HRF ⊢
  clear hv hsz hn hnm
  have HZ : Hid (W0.heap.size = w.heap.size + 1) := by rw [Hid, ← hW0]; simp
  have HR : Hid (∀ V, Below W0.heap.size W0 V → V.cell? ⟨w.heap.size, 0, none⟩ = some (.int .i64 0) ∧ V.cell? ⟨w.heap.size, 1, none⟩ = some (.slice none 0 0) ∧ (∀ o, V.frozen? ⟨w.heap.size, o, none⟩ = false) ∧ w.heap.size < V.heap.size ∧ ∀ o x, V.cell? ⟨w.heap.size, o, none⟩ ≠ some (.int .u8 x)) := fun V hV => by
    have hs := hV.size
    have hz := HZ.out
    refine ⟨?_, ?_, fun o => ?_, by omega, fun o x => ?_⟩
    · rw [hV.cell (p := ⟨w.heap.size, 0, none⟩) (by show w.heap.size < _; omega), ← hW0]; simp [go_sem]
    · rw [hV.cell (p := ⟨w.heap.size, 1, none⟩) (by show w.heap.size < _; omega), ← hW0]; simp [go_sem]
    · rw [hV.frozen (p := ⟨w.heap.size, o, none⟩) (by show w.heap.size < _; omega), ← hW0]; simp [go_sem]
    · rw [hV.cell (p := ⟨w.heap.size, o, none⟩) (by show w.heap.size < _; omega), ← hW0, World.cell?_alloc_at _ _ _ _ rfl]
      match o with
      | 0 => simp
      | 1 => simp
      | o + 2 => simp
  go_enter Try.func14, Try.ntmps14
  go_wp2_with fail
  refine HRF.out.mono ?_
  rintro e w1 ⟨⟨rb, rfl, hrb⟩, k1⟩
  have HRB := hid hrb
  have HB1 : Hid (Below W0.heap.size W0 w1) := k1.toBelow'
  have HBW : Hid (Below w.heap.size w w1) := HB0.out.trans (HB1.out.mono HB0.out.size)
  clear hW0 HRF k1 hrb
  cases rb with
  | false =>
    have HNO : Hid (¬ (RightP d ∧ objP (entsT d))) := fun h => by have := HRB.out.2 h.1; cases this
    obtain ⟨g0, g1, gf, hg2, _⟩ := HR.out w1 HB1.out
    go_wp2_with fail
    obtain ⟨q0, q1⟩ := set2_read (u0 := .int .i64 0) (u1 := .slice none 0 0) g0 g1
    refine bodyPost_ret (v := .tuple #[.agg #[.int .i64 0, .slice none 0 0], .int .i64 1]) (by simp [results, Try.results14, go_sem, q0, q1]) rfl ⟨put1_no HNO.out, ?_⟩
    exact (HBW.out.setCell (by simp) _).setCell (by simp) _
  | true =>
    have HRP : Hid (RightP d) := HRB.out.1 rfl
    have HSZ2 : Hid (Tlv.szT 3 (entsT d) ≠ 0) := HSZ.out HRP.out
    go_wp2_with fail
    refine (rlist_any w1 none 0 0).mono ?_
    rintro e w2 ⟨rfl, k2⟩
    have HB2 : Hid (Below W0.heap.size W0 w2) := HB1.out.trans (k2.toBelow'.mono HB1.out.size)
    have HBW2 : Hid (Below w.heap.size w w2) := HB0.out.trans (HB2.out.mono HB0.out.size)
    have HZ2 : Hid (w.heap.size + 1 ≤ w2.heap.size) := by have := HB2.out.size; have := HZ.out; rw [Hid]; omega
    clear k2
    go_wp2_with fail
    go_loopw [5] (fun v5 wr => ∃ (k : Nat) (av : Option Addr) (cv : Nat), v5 = .int .i64 (k : Int) ∧ k ≤ n ∧ Hid (RV (fun g => g < w.heap.size) w2 w2.heap.size ((d.map entT).take k) (.slice av k cv) wr)) (fun v5 _ => n - (intOf v5).toNat)
    case atStart => exact ⟨0, none, 0, rfl, Nat.zero_le _, RV.start _ _ _⟩
    case round =>
      obtain ⟨k, av, cv, rfl, hkn, HS⟩ := hrel
      have HBR : Hid (Below W0.heap.size W0 wr) := HB2.out.trans (HS.out.2.2.2.2.2.2.2.mono HB2.out.size)
      have HKW : Hid (Below w.heap.size w wr) := HB0.out.trans (HBR.out.mono HB0.out.size)
      have hzr := HZ2.out
      have hbr := HS.out.2.2.2.2.2.1
      by_cases hlt : k < n
      · have hltI : (k : Int) < (n : Int) := by omega
        have hwk : IntKind.i64.wrap ((k : Int) + 1) = ((k + 1 : Nat) : Int) := by rw [IntKind.wrap_i64]; omega
        obtain ⟨e, he⟩ : ∃ e, d[k]? = some e := ⟨_, List.getElem?_eq_getElem (by rw [HN.out]; exact hlt)⟩
        have hne : d ≠ [] := fun h => by rw [h] at he; simp at he
        obtain ⟨g, o, rfl, hg, hrow⟩ := ev_row HVV.out hne
        have HLN : Hid (e.1.length ≤ 1000000) := HNM.out e (List.mem_of_getElem? he)
        have HDK : Hid ((d.map entT).take k ++ [entT e] = (d.map entT).take (k + 1)) := by rw [Hid, List.take_add_one, List.getElem?_map, he]; rfl
        have HLK : Hid (((d.map entT).take k).length = k) := by have := HN.out; rw [Hid]; simp; omega
        have HGW := hid hg
        obtain ⟨nm, p, hs⟩ := e
        have HEO : Hid (EOk (nm, p, hs)) := (hrow.2 k _ he).1
        have HRG : Hid (∀ V, Below w.heap.size w V → V.cell? ⟨g, o + k * 34, none⟩ = some (.string (txt nm)) ∧ V.cell? ⟨g, o + k * 34 + 1, none⟩ = some (.bool p) ∧ V.rangeAt g (o + k * 34 + 2) (b8 hs)) := fun V hV => by
          have h : V.rangeAt g (o + k * 34) (entC (nm, p, hs)) := fun j u hu => (hV.cell (p := ⟨g, _, none⟩) hg).trans ((hrow.2 k _ he).2 j u hu)
          exact ⟨h 0 _ rfl, h 1 _ rfl, rng_hash h⟩
        have hd1 := (HRG.out wr HKW.out).2.1
        have hgr : g < wr.heap.size := Nat.lt_of_lt_of_le hg HKW.out.size
        clear hrow he hg hne
        cases p with
        | false =>
          obtain ⟨W1, hW1⟩ : ∃ W, wr.alloc (.cells #[.int .i64 1, .int .u64 0, .slice none 0 0, .slice none 0 0] 86) = W := ⟨_, rfl⟩
          have HK1 : Hid (Kp No wr W1) := by rw [Hid, ← hW1]; exact (Kp.refl No wr).alloc _
          have HZ1 : Hid (W1.heap.size = wr.heap.size + 1) := by rw [Hid, ← hW1]; simp
          have hfar : ∀ b, b < wr.heap.size + 1 → b ≠ w2.heap.size → (∀ r, (Value.slice av k cv).ownBlock = some r → b ≠ r) → ∀ V, Kp (fun x => x = w2.heap.size ∨ (Value.slice av k cv).ownBlock = some x) W1 V → ∀ j, V.cell? ⟨b, j, none⟩ = W1.cell? ⟨b, j, none⟩ := fun b hb h1 h2 V hV j => hV.cell (p := ⟨b, j, none⟩) (by show b < _; have := HZ1.out; omega) (fun hx => by
            rcases hx with hx | hx
            · exact h1 hx
            · exact h2 b hx rfl)
          have hol : ∀ r, (Value.slice av k cv).ownBlock = some r → w2.heap.size + 1 ≤ r ∧ r < wr.heap.size := fun r hr => HS.out.2.2.2.2.2.2.1.lt r hr
          have HB6 : Hid (∀ V, Kp (fun x => x = w2.heap.size ∨ (Value.slice av k cv).ownBlock = some x) W1 V → V.cell? ⟨wr.heap.size, 0, none⟩ = some (.int .i64 1) ∧ V.cell? ⟨wr.heap.size, 1, none⟩ = some (.int .u64 0) ∧ V.cell? ⟨wr.heap.size, 2, none⟩ = some (.slice none 0 0) ∧ V.cell? ⟨wr.heap.size, 3, none⟩ = some (.slice none 0 0)) := fun V hV => by
            have e := hfar wr.heap.size (by omega) (by omega) (fun r hr => by have := (hol r hr).2; omega) V hV
            rw [e, e, e, e, ← hW1]
            exact ⟨by simp, by simp, by simp, by simp⟩
          have HST : Hid (∀ V, Kp (fun x => x = w2.heap.size ∨ (Value.slice av k cv).ownBlock = some x) W1 V → V.cell? ⟨g, o + k * 34, none⟩ = some (.string (txt nm))) := fun V hV => by
            have hg := HGW.out
            rw [hfar g (by omega) (by omega) (fun r hr => by have := (hol r hr).1; omega) V hV]
            exact (HRG.out W1 (HKW.out.trans (HK1.out.toBelow'.mono HKW.out.size))).1
          have c3 : ∀ V, Kp No W1 V → V.cell? ⟨w2.heap.size, 3, none⟩ = some (.slice av k cv) := fun V hV => ((HK1.out.andNone hV).cell (p := ⟨w2.heap.size, 3, none⟩) HS.out.2.2.2.2.2.1 (fun x => x)).trans HS.out.2.2.2.1
          obtain ⟨capn, W2, hcv, hcy, hcb⟩ := conv_txt nm HEO.out.1 HLN.out W1.drew
          have HCV := hid hcv
          have HCY := hid hcy
          have HK2 : Hid (Kp No W1 W2) := ((Kp.refl No W1).drew).andNone (Kp.below hcb)
          have HZ2' : Hid (W1.drew.heap.size = wr.heap.size + 1) := HZ1.out
          clear hcv hcy hcb hfar hol
          obtain ⟨ln, hln⟩ : ∃ x, nm.length = x := ⟨_, rfl⟩
          rw [hln] at HCV HCY
          rw [HZ2'.out] at HCV HCY
          clear hln
          have hd1' := hd1
          obtain ⟨T, hT⟩ : ∃ T, txt nm = T := ⟨_, rfl⟩
          rw [hT] at HCV HST
          clear hT
          have HW1 := hid hW1
          clear hW1
          go_wp2_with fail
          rw [HW1.out]
          clear hd1 hd1'
          refine wp_region_held_drew (S := fun V => Kp (fun x => x = w2.heap.size ∨ (Value.slice av k cv).ownBlock = some x) W1 V) (by kernel_rfl) ((Kp.refl _ _).drew) (fun hHeld => ?_)
          refine wpAnyH_take (i := 0) (oi := { dst := some 25, op := Op.fieldAddr 86 (Operand.tmp 4) 3, type := 0, pos := "ref.go:85", after := #[], guard := none }) (v := .pointer (some ⟨w2.heap.size, 3, none⟩)) rfl (by kernel_rfl) (by kernel_rfl) (by kernel_rfl) (fun _ _ _ h => h) (Or.inl ⟨by rfl, fun w' hw' => by (clear hw'; go_simp)⟩) hHeld ?_
          simp only [Act.put, List.setIfInBounds_toArray, List.set_cons_zero, List.set_cons_succ]
          refine wpAnyH_take (i := 2) (oi := { dst := some 27, op := Op.move (Operand.tmp 0), type := 25, pos := "ref.go:85", after := #[], guard := none }) (v := .slice (some ⟨g, o, none⟩) n c) rfl (by kernel_rfl) (by kernel_rfl) (by kernel_rfl) (fun _ _ _ h => h) (Or.inl ⟨by rfl, fun w' hw' => by (clear hw'; go_simp)⟩) hHeld ?_
          simp only [Act.put, List.setIfInBounds_toArray, List.set_cons_zero, List.set_cons_succ]
          refine wpAnyH_take (i := 3) (oi := { dst := some 28, op := Op.move (Operand.tmp 5), type := 3, pos := "ref.go:85", after := #[], guard := none }) (v := .int .i64 (k : Int)) rfl (by kernel_rfl) (by kernel_rfl) (by kernel_rfl) (fun _ _ _ h => h) (Or.inl ⟨by rfl, fun w' hw' => by (clear hw'; go_simp)⟩) hHeld ?_
          simp only [Act.put, List.setIfInBounds_toArray, List.set_cons_zero, List.set_cons_succ]
          refine wpAnyH_take (i := 4) (oi := { dst := some 29, op := Op.indexAddr 25 (Operand.tmp 27) (Operand.tmp 28), type := 0, pos := "ref.go:85", after := #[{ on := 2, ground := Ground.data }, { on := 3, ground := Ground.data }], guard := none }) (v := .pointer (some ⟨g, o + k * 34, none⟩)) rfl (by kernel_rfl) (by kernel_rfl) (by kernel_rfl) (fun _ _ _ h => h) (Or.inl ⟨by rfl, fun w' hw' => by (clear hw'; go_simp)⟩) hHeld ?_
          simp only [Act.put, List.setIfInBounds_toArray, List.set_cons_zero, List.set_cons_succ]
          refine wpAnyH_take (i := 5) (oi := { dst := some 30, op := Op.fieldAddr 79 (Operand.tmp 29) 0, type := 0, pos := "ref.go:85", after := #[{ on := 4, ground := Ground.data }], guard := none }) (v := .pointer (some ⟨g, o + k * 34, none⟩)) rfl (by kernel_rfl) (by kernel_rfl) (by kernel_rfl) (fun _ _ _ h => h) (Or.inl ⟨by rfl, fun w' hw' => by (clear hw'; go_simp)⟩) hHeld ?_
          simp only [Act.put, List.setIfInBounds_toArray, List.set_cons_zero, List.set_cons_succ]
          refine wpAnyH_take (i := 6) (oi := { dst := some 31, op := Op.load 9 (Operand.tmp 30), type := 9, pos := "ref.go:85", after := #[{ on := 5, ground := Ground.data }], guard := none }) (v := .string T) rfl (by kernel_rfl) (by kernel_rfl) (by kernel_rfl) (fun _ _ _ h => h) (Or.inl ⟨by rfl, fun w' hw' => by (have q := HST.out _ hw'; clear hw'; go_simp)⟩) hHeld ?_
          simp only [Act.put, List.setIfInBounds_toArray, List.set_cons_zero, List.set_cons_succ]
          refine wpAnyH_take (i := 9) (oi := { dst := some 34, op := Op.load 86 (Operand.tmp 6), type := 86, pos := "ref.go:85", after := #[], guard := none }) (v := .agg #[.int .i64 1, .int .u64 0, .slice none 0 0, .slice none 0 0]) rfl (by kernel_rfl) (by kernel_rfl) (by kernel_rfl) (fun _ _ _ h => h) (Or.inl ⟨by rfl, fun w' hw' => by (obtain ⟨q0, q1, q2, q3⟩ := HB6.out _ hw'; clear hw'; go_simp)⟩) hHeld ?_
          simp only [Act.put, List.setIfInBounds_toArray, List.set_cons_zero, List.set_cons_succ]
          refine wpAnyH_take (i := 10) (oi := { dst := some 35, op := Op.move (Operand.tmp 0), type := 25, pos := "ref.go:85", after := #[], guard := none }) (v := .slice (some ⟨g, o, none⟩) n c) rfl (by kernel_rfl) (by kernel_rfl) (by kernel_rfl) (fun _ _ _ h => h) (Or.inl ⟨by rfl, fun w' hw' => by (clear hw'; go_simp)⟩) hHeld ?_
          simp only [Act.put, List.setIfInBounds_toArray, List.set_cons_zero, List.set_cons_succ]
          refine wpAnyH_take (i := 11) (oi := { dst := some 36, op := Op.move (Operand.tmp 5), type := 3, pos := "ref.go:85", after := #[], guard := none }) (v := .int .i64 (k : Int)) rfl (by kernel_rfl) (by kernel_rfl) (by kernel_rfl) (fun _ _ _ h => h) (Or.inl ⟨by rfl, fun w' hw' => by (clear hw'; go_simp)⟩) hHeld ?_
          simp only [Act.put, List.setIfInBounds_toArray, List.set_cons_zero, List.set_cons_succ]
          refine wpAnyH_take (i := 12) (oi := { dst := some 37, op := Op.indexAddr 25 (Operand.tmp 35) (Operand.tmp 36), type := 0, pos := "ref.go:85", after := #[{ on := 10, ground := Ground.data }, { on := 11, ground := Ground.data }], guard := none }) (v := .pointer (some ⟨g, o + k * 34, none⟩)) rfl (by kernel_rfl) (by kernel_rfl) (by kernel_rfl) (fun _ _ _ h => h) (Or.inl ⟨by rfl, fun w' hw' => by (clear hw'; go_simp)⟩) hHeld ?_
          simp only [Act.put, List.setIfInBounds_toArray, List.set_cons_zero, List.set_cons_succ]
          refine wpAnyH_take (i := 13) (oi := { dst := some 38, op := Op.fieldAddr 79 (Operand.tmp 37) 2, type := 0, pos := "ref.go:85", after := #[{ on := 12, ground := Ground.data }], guard := none }) (v := .pointer (some ⟨g, o + k * 34 + 2, none⟩)) rfl (by kernel_rfl) (by kernel_rfl) (by kernel_rfl) (fun _ _ _ h => h) (Or.inl ⟨by rfl, fun w' hw' => by (clear hw'; go_simp)⟩) hHeld ?_
          simp only [Act.put, List.setIfInBounds_toArray, List.set_cons_zero, List.set_cons_succ]
          refine wpAnyH_take (i := 14) (oi := { dst := some 39, op := Op.slice 68 (Operand.tmp 38) none none none, type := 26, pos := "ref.go:85", after := #[{ on := 13, ground := Ground.data }], guard := none }) (v := .slice (some ⟨g, o + k * 34 + 2, none⟩) 32 32) rfl (by kernel_rfl) (by kernel_rfl) (by kernel_rfl) (fun _ _ _ h => h) (Or.inl ⟨by rfl, fun w' hw' => by (clear hw'; go_simp)⟩) hHeld ?_
          simp only [Act.put, List.setIfInBounds_toArray, List.set_cons_zero, List.set_cons_succ]
          refine wpAnyH_ready (rs := [1, 7]) (by kernel_rfl) (by simp) ?_
          refine (AllReadyH.cons (o := { dst := some 26, op := Op.load 84 (Operand.tmp 25), type := 84, pos := "ref.go:85", after := #[{ on := 0, ground := Ground.data }], guard := none }) rfl (fun K hK => ?_) (AllReadyH.cons (o := { dst := some 32, op := Op.convert 9 26 (Operand.tmp 31), type := 26, pos := "ref.go:85", after := #[{ on := 6, ground := Ground.data }], guard := none }) rfl (fun K hK => ?_) AllReadyH.nil))
          · have q3 := c3 W1.drew ((Kp.refl No W1).drew)
            go_simp
            refine hK.out _ _ (((Kp.refl No W1).drew).ofNo) (fun hh => ?_)
            clear hK K hHeld
            have hHeld := hh
            clear hh
            try simp only [Act.put, List.setIfInBounds_toArray, List.set_cons_zero, List.set_cons_succ]
            refine wpAnyH_ready (rs := [7]) (by kernel_rfl) (by simp) ?_
            refine (AllReadyH.cons (o := { dst := some 32, op := Op.convert 9 26 (Operand.tmp 31), type := 26, pos := "ref.go:85", after := #[{ on := 6, ground := Ground.data }], guard := none }) rfl (fun K hK => ?_) AllReadyH.nil)
            rw [if_pos (by rfl)]
            refine wp_valE (exec_conv 9 26 (.tmp 31) rfl (.string T) (.slice (some ⟨wr.heap.size + 1, 0, none⟩) ln capn) rfl HCV.out) ?_
            refine hK.out _ _ (HK2.out.ofNo) (fun hh => ?_)
            clear hK K hHeld
            have hHeld := hh
            clear hh
            try simp only [Act.put, List.setIfInBounds_toArray, List.set_cons_zero, List.set_cons_succ]
            refine wpAnyH_ready (rs := [8]) (by kernel_rfl) (by simp) ?_
            refine (AllReadyH.cons (o := { dst := some 33, op := Op.call { callee := Callee.value (Operand.func 42), args := #[Operand.tmp 32], argTypes := #[26] }, type := 86, pos := "ref.go:85", after := #[{ on := 7, ground := Ground.data }], guard := none }) rfl (fun K hK => ?_) AllReadyH.nil)
            go_simp
            refine (rbytes_any _ _ _ _).mono ?_
            rintro e' w3 ⟨rfl, kb⟩
            have HK3 : Hid (Kp No W1 w3) := HK2.out.andNone kb
            have HK23 : Hid (Kp No W2 w3) := kb
            clear kb
            go_wp2_with fail
            refine hK.out _ _ (HK3.out.ofNo) (fun hh => ?_)
            clear hK K hHeld
            have hHeld := hh
            clear hh
            try simp only [Act.put, List.setIfInBounds_toArray, List.set_cons_zero, List.set_cons_succ]
            refine wpAnyH_ready (rs := [15]) (by kernel_rfl) (by simp) ?_
            refine (AllReadyH.cons (o := { dst := some 40, op := Op.call { callee := Callee.value (Operand.func 42), args := #[Operand.tmp 39], argTypes := #[26] }, type := 86, pos := "ref.go:85", after := #[{ on := 14, ground := Ground.data }, { on := 8, ground := Ground.chain }], guard := none }) rfl (fun K hK => ?_) AllReadyH.nil)
            go_simp
            refine (rbytes_any _ _ _ _).mono ?_
            rintro e' w4 ⟨rfl, kb⟩
            have HK4 : Hid (Kp No W1 w4) := HK3.out.andNone kb
            have HK24 : Hid (Kp No W2 w4) := HK23.out.andNone kb
            have HK3I : Hid (KSlS (fun x => x < w.heap.size ∨ (W1.heap.size ≤ x ∧ x < w4.heap.size + 1)) (w4.alloc (.cells #[.int .i64 2, .int .u64 0, .slice (some ⟨wr.heap.size + 1, 0, none⟩) ln capn, .slice none 0 0, .int .i64 1, .int .u64 0, .slice none 0 0, .slice none 0 0, .int .i64 2, .int .u64 0, .slice (some ⟨g, o + k * 34 + 2, none⟩) 32 32, .slice none 0 0] 86)) (RepS (fun x => x < w.heap.size ∨ (W1.heap.size ≤ x ∧ x < w4.heap.size + 1)) (w4.alloc (.cells #[.int .i64 2, .int .u64 0, .slice (some ⟨wr.heap.size + 1, 0, none⟩) ln capn, .slice none 0 0, .int .i64 1, .int .u64 0, .slice none 0 0, .slice none 0 0, .int .i64 2, .int .u64 0, .slice (some ⟨g, o + k * 34 + 2, none⟩) 32 32, .slice none 0 0] 86)) 1) (.slice (some ⟨w4.heap.size, 0, none⟩) 3 3) [(Tr.mk 2 0 nm [] : Tr 1), Tr.mk 1 0 [] [], Tr.mk 2 0 hs []]) := by
              have hz1 := HZ1.out
              have hw4 := HK4.out.size
              have hww := HKW.out.size
              have hW2 := HK24.out.size
              refine threeInS (P := fun x => x < w.heap.size ∨ (W1.heap.size ≤ x ∧ x < w4.heap.size)) nm hs 0 _ _ (by omega) ?_ ?_ (fun x hx => by rcases hx with hx | hx <;> omega) (fun x hx => by omega) _ _ rfl
              · refine bySlS_lift HCY.out.toS (fun x hx => HK24.out.block x hx.2 (fun y => y)) (fun x hx => .inr ?_)
                have h1 := hx.1
                have h2 := hx.2
                omega
              · exact hashS ⟨HEO.out.2.1, HEO.out.2.2⟩ (.inl HGW.out) (HRG.out w4 (HKW.out.trans ((HK1.out.andNone HK4.out).toBelow'.mono HKW.out.size))).2.2
            clear kb
            go_wp2_with fail
            refine hK.out _ _ (HK4.out.ofNo) (fun hh => ?_)
            clear hK K hHeld
            have hHeld := hh
            clear hh
            try simp only [Act.put, List.setIfInBounds_toArray, List.set_cons_zero, List.set_cons_succ]
            refine wpAnyH_ready (rs := [16]) (by kernel_rfl) (by simp) ?_
            refine (AllReadyH.cons (o := { dst := some 41, op := Op.buildSlice 84 3 #[(0, Operand.tmp 33), (1, Operand.tmp 34), (2, Operand.tmp 40)], type := 84, pos := "ref.go:85", after := #[{ on := 8, ground := Ground.data }, { on := 9, ground := Ground.data }, { on := 15, ground := Ground.data }], guard := none }) rfl (fun K hK => ?_) AllReadyH.nil)
            rw [if_pos (by rfl)]
            refine wp_valE (exec_slice3 84 _ _ _ rfl (.agg #[.int .i64 2, .int .u64 0, .slice (some ⟨wr.heap.size + 1, 0, none⟩) ln capn, .slice none 0 0]) (.agg #[.int .i64 1, .int .u64 0, .slice none 0 0, .slice none 0 0]) (.agg #[.int .i64 2, .int .u64 0, .slice (some ⟨g, o + k * 34 + 2, none⟩) 32 32, .slice none 0 0]) _ rfl rfl rfl (run_threeRV _ _ _ _ _ _ _ _ _ _ _ _ _)) ?_
            refine hK.out _ _ ((HK4.out.alloc _).ofNo) (fun hh => ?_)
            clear hK K hHeld
            have hHeld := hh
            clear hh
            try simp only [Act.put, List.setIfInBounds_toArray, List.set_cons_zero, List.set_cons_succ]
            refine wpAnyH_ready (rs := [17]) (by kernel_rfl) (by simp) ?_
            refine (AllReadyH.cons (o := { dst := some 42, op := Op.call { callee := Callee.value (Operand.func 41), args := #[Operand.tmp 41], argTypes := #[84] }, type := 86, pos := "ref.go:85", after := #[{ on := 16, ground := Ground.data }, { on := 15, ground := Ground.chain }], guard := none }) rfl (fun K hK => ?_) AllReadyH.nil)
            go_simp
            refine (rlist_any _ _ _ _).mono ?_
            rintro e' w5 ⟨rfl, kl⟩
            have HK5 : Hid (Kp No W1 w5) := (HK4.out.alloc _).andNone kl
            have hr2 : RepS (fun x => x < w.heap.size ∨ (W1.heap.size ≤ x ∧ x < w5.heap.size)) w5 2 (entT (nm, false, hs)) (.slice none 0 0) (.slice (some ⟨w4.heap.size, 0, none⟩) 3 3) := by
              have hks := kl.size
              simp at hks
              have hww := HKW.out.size
              have h4 := HK4.out.size
              have hz1 := HZ1.out
              refine repS_list (kslS_lift HK3I.out (fun x hx => kl.block x (by simp; omega) (fun y => y)) (fun x hx => by omega))
            obtain ⟨g', cap, w6, hap, k3, kf, ks, hvi, hkp⟩ := HS.out.step HLK.out (Nat.le_refl _) (fun x hx => by omega) HK1.out HK5.out hr2 (by have := HZ1.out; omega) (by omega) 84
            simp only [show (entT (nm, false, hs)).hd.1 = 3 from rfl, show (entT (nm, false, hs)).hd.2.1 = 0 from rfl] at hap
            rw [HDK.out] at hvi
            have HAP := hid hap
            have HVI := hid hvi
            have HKP := hid hkp
            clear hap hvi hkp hr2 kl
            go_wp2_with fail
            refine hK.out _ _ (HK5.out.ofNo) (fun hh => ?_)
            clear hK K hHeld
            have hHeld := hh
            clear hh
            try simp only [Act.put, List.setIfInBounds_toArray, List.set_cons_zero, List.set_cons_succ]
            refine wpAnyH_ready (rs := [18]) (by kernel_rfl) (by simp) ?_
            refine (AllReadyH.cons (o := { dst := some 43, op := Op.buildSlice 84 1 #[(0, Operand.tmp 42)], type := 84, pos := "ref.go:85", after := #[{ on := 17, ground := Ground.data }], guard := none }) rfl (fun K hK => ?_) AllReadyH.nil)
            rw [if_pos (by rfl)]
            refine wp_valE (exec_sliceE 84 _ rfl (.agg #[.int .i64 3, .int .u64 0, .slice none 0 0, .slice (some ⟨w4.heap.size, 0, none⟩) 3 3]) _ rfl (run_oneRV _ _ _ _ _)) ?_
            refine hK.out _ _ ((HK5.out.alloc _).ofNo) (fun hh => ?_)
            clear hK K hHeld
            have hHeld := hh
            clear hh
            try simp only [Act.put, List.setIfInBounds_toArray, List.set_cons_zero, List.set_cons_succ]
            refine wpAnyH_ready (rs := [19]) (by kernel_rfl) (by simp) ?_
            refine (AllReadyH.cons (o := { dst := some 44, op := Op.call { callee := Callee.builtin Builtin.append, args := #[Operand.tmp 26, Operand.tmp 43], argTypes := #[84, 84] }, type := 84, pos := "ref.go:85", after := #[{ on := 1, ground := Ground.data }, { on := 18, ground := Ground.data }, { on := 17, ground := Ground.chain }], guard := none }) rfl (fun K hK => ?_) AllReadyH.nil)
            rw [if_pos (by rfl)]
            refine wp_valE (exec_appE _ _ 84 rfl (.slice av k cv) (.slice (some ⟨w5.heap.size, 0, none⟩) 1 1) _ rfl rfl HAP.out) ?_
            refine hK.out _ _ (HKP.out) (fun hh => ?_)
            clear hK K hHeld
            have hHeld := hh
            clear hh
            try simp only [Act.put, List.setIfInBounds_toArray, List.set_cons_zero, List.set_cons_succ]
            refine wpAnyH_take (i := 20) (oi := { dst := some 45, op := Op.fieldAddr 86 (Operand.tmp 4) 3, type := 0, pos := "ref.go:85", after := #[{ on := 0, ground := Ground.phase }, { on := 1, ground := Ground.phase }, { on := 2, ground := Ground.phase }, { on := 3, ground := Ground.phase }, { on := 4, ground := Ground.phase }, { on := 5, ground := Ground.phase }, { on := 6, ground := Ground.phase }, { on := 7, ground := Ground.phase }, { on := 8, ground := Ground.phase }, { on := 9, ground := Ground.phase }, { on := 10, ground := Ground.phase }, { on := 11, ground := Ground.phase }, { on := 12, ground := Ground.phase }, { on := 13, ground := Ground.phase }, { on := 14, ground := Ground.phase }, { on := 15, ground := Ground.phase }, { on := 16, ground := Ground.phase }, { on := 17, ground := Ground.phase }, { on := 18, ground := Ground.phase }, { on := 19, ground := Ground.phase }], guard := none }) (v := .pointer (some ⟨w2.heap.size, 3, none⟩)) rfl (by kernel_rfl) (by kernel_rfl) (by kernel_rfl) (fun _ _ _ h => h) (Or.inl ⟨by rfl, fun w' hw' => by (clear hw'; go_simp)⟩) hHeld ?_
            simp only [Act.put, List.setIfInBounds_toArray, List.set_cons_zero, List.set_cons_succ]
            refine wpAnyH_ready (rs := [21]) (by kernel_rfl) (by simp) ?_
            refine (AllReadyH.cons (o := { dst := none, op := Op.store 84 (Operand.tmp 45) (Operand.tmp 44), type := 0, pos := "ref.go:85", after := #[{ on := 20, ground := Ground.data }, { on := 19, ground := Ground.data }, { on := 19, ground := Ground.chain }, { on := 0, ground := Ground.phase }, { on := 1, ground := Ground.phase }, { on := 2, ground := Ground.phase }, { on := 3, ground := Ground.phase }, { on := 4, ground := Ground.phase }, { on := 5, ground := Ground.phase }, { on := 6, ground := Ground.phase }, { on := 7, ground := Ground.phase }, { on := 8, ground := Ground.phase }, { on := 9, ground := Ground.phase }, { on := 10, ground := Ground.phase }, { on := 11, ground := Ground.phase }, { on := 12, ground := Ground.phase }, { on := 13, ground := Ground.phase }, { on := 14, ground := Ground.phase }, { on := 15, ground := Ground.phase }, { on := 16, ground := Ground.phase }, { on := 17, ground := Ground.phase }, { on := 18, ground := Ground.phase }, { on := 19, ground := Ground.phase }], guard := none }) rfl (fun K hK => ?_) AllReadyH.nil)
            go_simp
            refine hK.out _ _ (HKP.out.setCell (p := ⟨w2.heap.size, 3, none⟩) (.inl (.inl rfl)) _) (fun hh => ?_)
            clear hK K hHeld
            have hHeld := hh
            clear hh
            try simp only [Act.put, List.setIfInBounds_toArray, List.set_cons_zero, List.set_cons_succ]
            refine wpAnyH_done (by kernel_rfl) ?_ _
            clear hHeld
            go_wp2_with fail
            go_round
            case rel => exact ⟨k + 1, some ⟨g', 0, none⟩, cap, by first | rfl | go_num, by omega, HVI.out⟩
            case measure => simp [intOf]; omega
          · rw [if_pos (by rfl)]
            refine wp_valE (exec_conv 9 26 (.tmp 31) rfl (.string T) (.slice (some ⟨wr.heap.size + 1, 0, none⟩) ln capn) rfl HCV.out) ?_
            refine hK.out _ _ (HK2.out.ofNo) (fun hh => ?_)
            clear hK K hHeld
            have hHeld := hh
            clear hh
            try simp only [Act.put, List.setIfInBounds_toArray, List.set_cons_zero, List.set_cons_succ]
            refine wpAnyH_ready (rs := [1, 8]) (by kernel_rfl) (by simp) ?_
            refine (AllReadyH.cons (o := { dst := some 26, op := Op.load 84 (Operand.tmp 25), type := 84, pos := "ref.go:85", after := #[{ on := 0, ground := Ground.data }], guard := none }) rfl (fun K hK => ?_) (AllReadyH.cons (o := { dst := some 33, op := Op.call { callee := Callee.value (Operand.func 42), args := #[Operand.tmp 32], argTypes := #[26] }, type := 86, pos := "ref.go:85", after := #[{ on := 7, ground := Ground.data }], guard := none }) rfl (fun K hK => ?_) AllReadyH.nil))
            · have q3 := c3 W2 (HK2.out)
              go_simp
              refine hK.out _ _ (HK2.out.ofNo) (fun hh => ?_)
              clear hK K hHeld
              have hHeld := hh
              clear hh
              try simp only [Act.put, List.setIfInBounds_toArray, List.set_cons_zero, List.set_cons_succ]
              refine wpAnyH_ready (rs := [8]) (by kernel_rfl) (by simp) ?_
              refine (AllReadyH.cons (o := { dst := some 33, op := Op.call { callee := Callee.value (Operand.func 42), args := #[Operand.tmp 32], argTypes := #[26] }, type := 86, pos := "ref.go:85", after := #[{ on := 7, ground := Ground.data }], guard := none }) rfl (fun K hK => ?_) AllReadyH.nil)
              go_simp
              refine (rbytes_any _ _ _ _).mono ?_
              rintro e' w3 ⟨rfl, kb⟩
              have HK3 : Hid (Kp No W1 w3) := HK2.out.andNone kb
              have HK23 : Hid (Kp No W2 w3) := kb
              clear kb
              go_wp2_with fail
              refine hK.out _ _ (HK3.out.ofNo) (fun hh => ?_)
              clear hK K hHeld
              have hHeld := hh
              clear hh
              try simp only [Act.put, List.setIfInBounds_toArray, List.set_cons_zero, List.set_cons_succ]
              refine wpAnyH_ready (rs := [15]) (by kernel_rfl) (by simp) ?_
              refine (AllReadyH.cons (o := { dst := some 40, op := Op.call { callee := Callee.value (Operand.func 42), args := #[Operand.tmp 39], argTypes := #[26] }, type := 86, pos := "ref.go:85", after := #[{ on := 14, ground := Ground.data }, { on := 8, ground := Ground.chain }], guard := none }) rfl (fun K hK => ?_) AllReadyH.nil)
              go_simp
              refine (rbytes_any _ _ _ _).mono ?_
              rintro e' w4 ⟨rfl, kb⟩
              have HK4 : Hid (Kp No W1 w4) := HK3.out.andNone kb
              have HK24 : Hid (Kp No W2 w4) := HK23.out.andNone kb
              have HK3I : Hid (KSlS (fun x => x < w.heap.size ∨ (W1.heap.size ≤ x ∧ x < w4.heap.size + 1)) (w4.alloc (.cells #[.int .i64 2, .int .u64 0, .slice (some ⟨wr.heap.size + 1, 0, none⟩) ln capn, .slice none 0 0, .int .i64 1, .int .u64 0, .slice none 0 0, .slice none 0 0, .int .i64 2, .int .u64 0, .slice (some ⟨g, o + k * 34 + 2, none⟩) 32 32, .slice none 0 0] 86)) (RepS (fun x => x < w.heap.size ∨ (W1.heap.size ≤ x ∧ x < w4.heap.size + 1)) (w4.alloc (.cells #[.int .i64 2, .int .u64 0, .slice (some ⟨wr.heap.size + 1, 0, none⟩) ln capn, .slice none 0 0, .int .i64 1, .int .u64 0, .slice none 0 0, .slice none 0 0, .int .i64 2, .int .u64 0, .slice (some ⟨g, o + k * 34 + 2, none⟩) 32 32, .slice none 0 0] 86)) 1) (.slice (some ⟨w4.heap.size, 0, none⟩) 3 3) [(Tr.mk 2 0 nm [] : Tr 1), Tr.mk 1 0 [] [], Tr.mk 2 0 hs []]) := by
                have hz1 := HZ1.out
                have hw4 := HK4.out.size
                have hww := HKW.out.size
                have hW2 := HK24.out.size
                refine threeInS (P := fun x => x < w.heap.size ∨ (W1.heap.size ≤ x ∧ x < w4.heap.size)) nm hs 0 _ _ (by omega) ?_ ?_ (fun x hx => by rcases hx with hx | hx <;> omega) (fun x hx => by omega) _ _ rfl
                · refine bySlS_lift HCY.out.toS (fun x hx => HK24.out.block x hx.2 (fun y => y)) (fun x hx => .inr ?_)
                  have h1 := hx.1
                  have h2 := hx.2
                  omega
                · exact hashS ⟨HEO.out.2.1, HEO.out.2.2⟩ (.inl HGW.out) (HRG.out w4 (HKW.out.trans ((HK1.out.andNone HK4.out).toBelow'.mono HKW.out.size))).2.2
              clear kb
              go_wp2_with fail
              refine hK.out _ _ (HK4.out.ofNo) (fun hh => ?_)
              clear hK K hHeld
              have hHeld := hh
              clear hh
              try simp only [Act.put, List.setIfInBounds_toArray, List.set_cons_zero, List.set_cons_succ]
              refine wpAnyH_ready (rs := [16]) (by kernel_rfl) (by simp) ?_
              refine (AllReadyH.cons (o := { dst := some 41, op := Op.buildSlice 84 3 #[(0, Operand.tmp 33), (1, Operand.tmp 34), (2, Operand.tmp 40)], type := 84, pos := "ref.go:85", after := #[{ on := 8, ground := Ground.data }, { on := 9, ground := Ground.data }, { on := 15, ground := Ground.data }], guard := none }) rfl (fun K hK => ?_) AllReadyH.nil)
              rw [if_pos (by rfl)]
              refine wp_valE (exec_slice3 84 _ _ _ rfl (.agg #[.int .i64 2, .int .u64 0, .slice (some ⟨wr.heap.size + 1, 0, none⟩) ln capn, .slice none 0 0]) (.agg #[.int .i64 1, .int .u64 0, .slice none 0 0, .slice none 0 0]) (.agg #[.int .i64 2, .int .u64 0, .slice (some ⟨g, o + k * 34 + 2, none⟩) 32 32, .slice none 0 0]) _ rfl rfl rfl (run_threeRV _ _ _ _ _ _ _ _ _ _ _ _ _)) ?_
              refine hK.out _ _ ((HK4.out.alloc _).ofNo) (fun hh => ?_)
              clear hK K hHeld
              have hHeld := hh
              clear hh
              try simp only [Act.put, List.setIfInBounds_toArray, List.set_cons_zero, List.set_cons_succ]
              refine wpAnyH_ready (rs := [17]) (by kernel_rfl) (by simp) ?_
              refine (AllReadyH.cons (o := { dst := some 42, op := Op.call { callee := Callee.value (Operand.func 41), args := #[Operand.tmp 41], argTypes := #[84] }, type := 86, pos := "ref.go:85", after := #[{ on := 16, ground := Ground.data }, { on := 15, ground := Ground.chain }], guard := none }) rfl (fun K hK => ?_) AllReadyH.nil)
              go_simp
              refine (rlist_any _ _ _ _).mono ?_
              rintro e' w5 ⟨rfl, kl⟩
              have HK5 : Hid (Kp No W1 w5) := (HK4.out.alloc _).andNone kl
              have hr2 : RepS (fun x => x < w.heap.size ∨ (W1.heap.size ≤ x ∧ x < w5.heap.size)) w5 2 (entT (nm, false, hs)) (.slice none 0 0) (.slice (some ⟨w4.heap.size, 0, none⟩) 3 3) := by
                have hks := kl.size
                simp at hks
                have hww := HKW.out.size
                have h4 := HK4.out.size
                have hz1 := HZ1.out
                refine repS_list (kslS_lift HK3I.out (fun x hx => kl.block x (by simp; omega) (fun y => y)) (fun x hx => by omega))
              obtain ⟨g', cap, w6, hap, k3, kf, ks, hvi, hkp⟩ := HS.out.step HLK.out (Nat.le_refl _) (fun x hx => by omega) HK1.out HK5.out hr2 (by have := HZ1.out; omega) (by omega) 84
              simp only [show (entT (nm, false, hs)).hd.1 = 3 from rfl, show (entT (nm, false, hs)).hd.2.1 = 0 from rfl] at hap
              rw [HDK.out] at hvi
              have HAP := hid hap
              have HVI := hid hvi
              have HKP := hid hkp
              clear hap hvi hkp hr2 kl
              go_wp2_with fail
              refine hK.out _ _ (HK5.out.ofNo) (fun hh => ?_)
              clear hK K hHeld
              have hHeld := hh
              clear hh
              try simp only [Act.put, List.setIfInBounds_toArray, List.set_cons_zero, List.set_cons_succ]
              refine wpAnyH_ready (rs := [18]) (by kernel_rfl) (by simp) ?_
              refine (AllReadyH.cons (o := { dst := some 43, op := Op.buildSlice 84 1 #[(0, Operand.tmp 42)], type := 84, pos := "ref.go:85", after := #[{ on := 17, ground := Ground.data }], guard := none }) rfl (fun K hK => ?_) AllReadyH.nil)
              rw [if_pos (by rfl)]
              refine wp_valE (exec_sliceE 84 _ rfl (.agg #[.int .i64 3, .int .u64 0, .slice none 0 0, .slice (some ⟨w4.heap.size, 0, none⟩) 3 3]) _ rfl (run_oneRV _ _ _ _ _)) ?_
              refine hK.out _ _ ((HK5.out.alloc _).ofNo) (fun hh => ?_)
              clear hK K hHeld
              have hHeld := hh
              clear hh
              try simp only [Act.put, List.setIfInBounds_toArray, List.set_cons_zero, List.set_cons_succ]
              refine wpAnyH_ready (rs := [19]) (by kernel_rfl) (by simp) ?_
              refine (AllReadyH.cons (o := { dst := some 44, op := Op.call { callee := Callee.builtin Builtin.append, args := #[Operand.tmp 26, Operand.tmp 43], argTypes := #[84, 84] }, type := 84, pos := "ref.go:85", after := #[{ on := 1, ground := Ground.data }, { on := 18, ground := Ground.data }, { on := 17, ground := Ground.chain }], guard := none }) rfl (fun K hK => ?_) AllReadyH.nil)
              rw [if_pos (by rfl)]
              refine wp_valE (exec_appE _ _ 84 rfl (.slice av k cv) (.slice (some ⟨w5.heap.size, 0, none⟩) 1 1) _ rfl rfl HAP.out) ?_
              refine hK.out _ _ (HKP.out) (fun hh => ?_)
              clear hK K hHeld
              have hHeld := hh
              clear hh
              try simp only [Act.put, List.setIfInBounds_toArray, List.set_cons_zero, List.set_cons_succ]
              refine wpAnyH_take (i := 20) (oi := { dst := some 45, op := Op.fieldAddr 86 (Operand.tmp 4) 3, type := 0, pos := "ref.go:85", after := #[{ on := 0, ground := Ground.phase }, { on := 1, ground := Ground.phase }, { on := 2, ground := Ground.phase }, { on := 3, ground := Ground.phase }, { on := 4, ground := Ground.phase }, { on := 5, ground := Ground.phase }, { on := 6, ground := Ground.phase }, { on := 7, ground := Ground.phase }, { on := 8, ground := Ground.phase }, { on := 9, ground := Ground.phase }, { on := 10, ground := Ground.phase }, { on := 11, ground := Ground.phase }, { on := 12, ground := Ground.phase }, { on := 13, ground := Ground.phase }, { on := 14, ground := Ground.phase }, { on := 15, ground := Ground.phase }, { on := 16, ground := Ground.phase }, { on := 17, ground := Ground.phase }, { on := 18, ground := Ground.phase }, { on := 19, ground := Ground.phase }], guard := none }) (v := .pointer (some ⟨w2.heap.size, 3, none⟩)) rfl (by kernel_rfl) (by kernel_rfl) (by kernel_rfl) (fun _ _ _ h => h) (Or.inl ⟨by rfl, fun w' hw' => by (clear hw'; go_simp)⟩) hHeld ?_
              simp only [Act.put, List.setIfInBounds_toArray, List.set_cons_zero, List.set_cons_succ]
              refine wpAnyH_ready (rs := [21]) (by kernel_rfl) (by simp) ?_
              refine (AllReadyH.cons (o := { dst := none, op := Op.store 84 (Operand.tmp 45) (Operand.tmp 44), type := 0, pos := "ref.go:85", after := #[{ on := 20, ground := Ground.data }, { on := 19, ground := Ground.data }, { on := 19, ground := Ground.chain }, { on := 0, ground := Ground.phase }, { on := 1, ground := Ground.phase }, { on := 2, ground := Ground.phase }, { on := 3, ground := Ground.phase }, { on := 4, ground := Ground.phase }, { on := 5, ground := Ground.phase }, { on := 6, ground := Ground.phase }, { on := 7, ground := Ground.phase }, { on := 8, ground := Ground.phase }, { on := 9, ground := Ground.phase }, { on := 10, ground := Ground.phase }, { on := 11, ground := Ground.phase }, { on := 12, ground := Ground.phase }, { on := 13, ground := Ground.phase }, { on := 14, ground := Ground.phase }, { on := 15, ground := Ground.phase }, { on := 16, ground := Ground.phase }, { on := 17, ground := Ground.phase }, { on := 18, ground := Ground.phase }, { on := 19, ground := Ground.phase }], guard := none }) rfl (fun K hK => ?_) AllReadyH.nil)
              go_simp
              refine hK.out _ _ (HKP.out.setCell (p := ⟨w2.heap.size, 3, none⟩) (.inl (.inl rfl)) _) (fun hh => ?_)
              clear hK K hHeld
              have hHeld := hh
              clear hh
              try simp only [Act.put, List.setIfInBounds_toArray, List.set_cons_zero, List.set_cons_succ]
              refine wpAnyH_done (by kernel_rfl) ?_ _
              clear hHeld
              go_wp2_with fail
              go_round
              case rel => exact ⟨k + 1, some ⟨g', 0, none⟩, cap, by first | rfl | go_num, by omega, HVI.out⟩
              case measure => simp [intOf]; omega
            · go_simp
              refine (rbytes_any _ _ _ _).mono ?_
              rintro e' w3 ⟨rfl, kb⟩
              have HK3 : Hid (Kp No W1 w3) := HK2.out.andNone kb
              have HK23 : Hid (Kp No W2 w3) := kb
              clear kb
              go_wp2_with fail
              refine hK.out _ _ (HK3.out.ofNo) (fun hh => ?_)
              clear hK K hHeld
              have hHeld := hh
              clear hh
              try simp only [Act.put, List.setIfInBounds_toArray, List.set_cons_zero, List.set_cons_succ]
              refine wpAnyH_ready (rs := [1, 15]) (by kernel_rfl) (by simp) ?_
              refine (AllReadyH.cons (o := { dst := some 26, op := Op.load 84 (Operand.tmp 25), type := 84, pos := "ref.go:85", after := #[{ on := 0, ground := Ground.data }], guard := none }) rfl (fun K hK => ?_) (AllReadyH.cons (o := { dst := some 40, op := Op.call { callee := Callee.value (Operand.func 42), args := #[Operand.tmp 39], argTypes := #[26] }, type := 86, pos := "ref.go:85", after := #[{ on := 14, ground := Ground.data }, { on := 8, ground := Ground.chain }], guard := none }) rfl (fun K hK => ?_) AllReadyH.nil))
              · have q3 := c3 w3 (HK3.out)
                go_simp
                refine hK.out _ _ (HK3.out.ofNo) (fun hh => ?_)
                clear hK K hHeld
                have hHeld := hh
                clear hh
                try simp only [Act.put, List.setIfInBounds_toArray, List.set_cons_zero, List.set_cons_succ]
                refine wpAnyH_ready (rs := [15]) (by kernel_rfl) (by simp) ?_
                refine (AllReadyH.cons (o := { dst := some 40, op := Op.call { callee := Callee.value (Operand.func 42), args := #[Operand.tmp 39], argTypes := #[26] }, type := 86, pos := "ref.go:85", after := #[{ on := 14, ground := Ground.data }, { on := 8, ground := Ground.chain }], guard := none }) rfl (fun K hK => ?_) AllReadyH.nil)
                go_simp
                refine (rbytes_any _ _ _ _).mono ?_
                rintro e' w4 ⟨rfl, kb⟩
                have HK4 : Hid (Kp No W1 w4) := HK3.out.andNone kb
                have HK24 : Hid (Kp No W2 w4) := HK23.out.andNone kb
                have HK3I : Hid (KSlS (fun x => x < w.heap.size ∨ (W1.heap.size ≤ x ∧ x < w4.heap.size + 1)) (w4.alloc (.cells #[.int .i64 2, .int .u64 0, .slice (some ⟨wr.heap.size + 1, 0, none⟩) ln capn, .slice none 0 0, .int .i64 1, .int .u64 0, .slice none 0 0, .slice none 0 0, .int .i64 2, .int .u64 0, .slice (some ⟨g, o + k * 34 + 2, none⟩) 32 32, .slice none 0 0] 86)) (RepS (fun x => x < w.heap.size ∨ (W1.heap.size ≤ x ∧ x < w4.heap.size + 1)) (w4.alloc (.cells #[.int .i64 2, .int .u64 0, .slice (some ⟨wr.heap.size + 1, 0, none⟩) ln capn, .slice none 0 0, .int .i64 1, .int .u64 0, .slice none 0 0, .slice none 0 0, .int .i64 2, .int .u64 0, .slice (some ⟨g, o + k * 34 + 2, none⟩) 32 32, .slice none 0 0] 86)) 1) (.slice (some ⟨w4.heap.size, 0, none⟩) 3 3) [(Tr.mk 2 0 nm [] : Tr 1), Tr.mk 1 0 [] [], Tr.mk 2 0 hs []]) := by
                  have hz1 := HZ1.out
                  have hw4 := HK4.out.size
                  have hww := HKW.out.size
                  have hW2 := HK24.out.size
                  refine threeInS (P := fun x => x < w.heap.size ∨ (W1.heap.size ≤ x ∧ x < w4.heap.size)) nm hs 0 _ _ (by omega) ?_ ?_ (fun x hx => by rcases hx with hx | hx <;> omega) (fun x hx => by omega) _ _ rfl
                  · refine bySlS_lift HCY.out.toS (fun x hx => HK24.out.block x hx.2 (fun y => y)) (fun x hx => .inr ?_)
                    have h1 := hx.1
                    have h2 := hx.2
                    omega
                  · exact hashS ⟨HEO.out.2.1, HEO.out.2.2⟩ (.inl HGW.out) (HRG.out w4 (HKW.out.trans ((HK1.out.andNone HK4.out).toBelow'.mono HKW.out.size))).2.2
                clear kb
                go_wp2_with fail
                refine hK.out _ _ (HK4.out.ofNo) (fun hh => ?_)
                clear hK K hHeld
                have hHeld := hh
                clear hh
                try simp only [Act.put, List.setIfInBounds_toArray, List.set_cons_zero, List.set_cons_succ]
                refine wpAnyH_ready (rs := [16]) (by kernel_rfl) (by simp) ?_
                refine (AllReadyH.cons (o := { dst := some 41, op := Op.buildSlice 84 3 #[(0, Operand.tmp 33), (1, Operand.tmp 34), (2, Operand.tmp 40)], type := 84, pos := "ref.go:85", after := #[{ on := 8, ground := Ground.data }, { on := 9, ground := Ground.data }, { on := 15, ground := Ground.data }], guard := none }) rfl (fun K hK => ?_) AllReadyH.nil)
                rw [if_pos (by rfl)]
                refine wp_valE (exec_slice3 84 _ _ _ rfl (.agg #[.int .i64 2, .int .u64 0, .slice (some ⟨wr.heap.size + 1, 0, none⟩) ln capn, .slice none 0 0]) (.agg #[.int .i64 1, .int .u64 0, .slice none 0 0, .slice none 0 0]) (.agg #[.int .i64 2, .int .u64 0, .slice (some ⟨g, o + k * 34 + 2, none⟩) 32 32, .slice none 0 0]) _ rfl rfl rfl (run_threeRV _ _ _ _ _ _ _ _ _ _ _ _ _)) ?_
                refine hK.out _ _ ((HK4.out.alloc _).ofNo) (fun hh => ?_)
                clear hK K hHeld
                have hHeld := hh
                clear hh
                try simp only [Act.put, List.setIfInBounds_toArray, List.set_cons_zero, List.set_cons_succ]
                refine wpAnyH_ready (rs := [17]) (by kernel_rfl) (by simp) ?_
                refine (AllReadyH.cons (o := { dst := some 42, op := Op.call { callee := Callee.value (Operand.func 41), args := #[Operand.tmp 41], argTypes := #[84] }, type := 86, pos := "ref.go:85", after := #[{ on := 16, ground := Ground.data }, { on := 15, ground := Ground.chain }], guard := none }) rfl (fun K hK => ?_) AllReadyH.nil)
                go_simp
                refine (rlist_any _ _ _ _).mono ?_
                rintro e' w5 ⟨rfl, kl⟩
                have HK5 : Hid (Kp No W1 w5) := (HK4.out.alloc _).andNone kl
                have hr2 : RepS (fun x => x < w.heap.size ∨ (W1.heap.size ≤ x ∧ x < w5.heap.size)) w5 2 (entT (nm, false, hs)) (.slice none 0 0) (.slice (some ⟨w4.heap.size, 0, none⟩) 3 3) := by
                  have hks := kl.size
                  simp at hks
                  have hww := HKW.out.size
                  have h4 := HK4.out.size
                  have hz1 := HZ1.out
                  refine repS_list (kslS_lift HK3I.out (fun x hx => kl.block x (by simp; omega) (fun y => y)) (fun x hx => by omega))
                obtain ⟨g', cap, w6, hap, k3, kf, ks, hvi, hkp⟩ := HS.out.step HLK.out (Nat.le_refl _) (fun x hx => by omega) HK1.out HK5.out hr2 (by have := HZ1.out; omega) (by omega) 84
                simp only [show (entT (nm, false, hs)).hd.1 = 3 from rfl, show (entT (nm, false, hs)).hd.2.1 = 0 from rfl] at hap
                rw [HDK.out] at hvi
                have HAP := hid hap
                have HVI := hid hvi
                have HKP := hid hkp
                clear hap hvi hkp hr2 kl
                go_wp2_with fail
                refine hK.out _ _ (HK5.out.ofNo) (fun hh => ?_)
                clear hK K hHeld
                have hHeld := hh
                clear hh
                try simp only [Act.put, List.setIfInBounds_toArray, List.set_cons_zero, List.set_cons_succ]
                refine wpAnyH_ready (rs := [18]) (by kernel_rfl) (by simp) ?_
                refine (AllReadyH.cons (o := { dst := some 43, op := Op.buildSlice 84 1 #[(0, Operand.tmp 42)], type := 84, pos := "ref.go:85", after := #[{ on := 17, ground := Ground.data }], guard := none }) rfl (fun K hK => ?_) AllReadyH.nil)
                rw [if_pos (by rfl)]
                refine wp_valE (exec_sliceE 84 _ rfl (.agg #[.int .i64 3, .int .u64 0, .slice none 0 0, .slice (some ⟨w4.heap.size, 0, none⟩) 3 3]) _ rfl (run_oneRV _ _ _ _ _)) ?_
                refine hK.out _ _ ((HK5.out.alloc _).ofNo) (fun hh => ?_)
                clear hK K hHeld
                have hHeld := hh
                clear hh
                try simp only [Act.put, List.setIfInBounds_toArray, List.set_cons_zero, List.set_cons_succ]
                refine wpAnyH_ready (rs := [19]) (by kernel_rfl) (by simp) ?_
                refine (AllReadyH.cons (o := { dst := some 44, op := Op.call { callee := Callee.builtin Builtin.append, args := #[Operand.tmp 26, Operand.tmp 43], argTypes := #[84, 84] }, type := 84, pos := "ref.go:85", after := #[{ on := 1, ground := Ground.data }, { on := 18, ground := Ground.data }, { on := 17, ground := Ground.chain }], guard := none }) rfl (fun K hK => ?_) AllReadyH.nil)
                rw [if_pos (by rfl)]
                refine wp_valE (exec_appE _ _ 84 rfl (.slice av k cv) (.slice (some ⟨w5.heap.size, 0, none⟩) 1 1) _ rfl rfl HAP.out) ?_
                refine hK.out _ _ (HKP.out) (fun hh => ?_)
                clear hK K hHeld
                have hHeld := hh
                clear hh
                try simp only [Act.put, List.setIfInBounds_toArray, List.set_cons_zero, List.set_cons_succ]
                refine wpAnyH_take (i := 20) (oi := { dst := some 45, op := Op.fieldAddr 86 (Operand.tmp 4) 3, type := 0, pos := "ref.go:85", after := #[{ on := 0, ground := Ground.phase }, { on := 1, ground := Ground.phase }, { on := 2, ground := Ground.phase }, { on := 3, ground := Ground.phase }, { on := 4, ground := Ground.phase }, { on := 5, ground := Ground.phase }, { on := 6, ground := Ground.phase }, { on := 7, ground := Ground.phase }, { on := 8, ground := Ground.phase }, { on := 9, ground := Ground.phase }, { on := 10, ground := Ground.phase }, { on := 11, ground := Ground.phase }, { on := 12, ground := Ground.phase }, { on := 13, ground := Ground.phase }, { on := 14, ground := Ground.phase }, { on := 15, ground := Ground.phase }, { on := 16, ground := Ground.phase }, { on := 17, ground := Ground.phase }, { on := 18, ground := Ground.phase }, { on := 19, ground := Ground.phase }], guard := none }) (v := .pointer (some ⟨w2.heap.size, 3, none⟩)) rfl (by kernel_rfl) (by kernel_rfl) (by kernel_rfl) (fun _ _ _ h => h) (Or.inl ⟨by rfl, fun w' hw' => by (clear hw'; go_simp)⟩) hHeld ?_
                simp only [Act.put, List.setIfInBounds_toArray, List.set_cons_zero, List.set_cons_succ]
                refine wpAnyH_ready (rs := [21]) (by kernel_rfl) (by simp) ?_
                refine (AllReadyH.cons (o := { dst := none, op := Op.store 84 (Operand.tmp 45) (Operand.tmp 44), type := 0, pos := "ref.go:85", after := #[{ on := 20, ground := Ground.data }, { on := 19, ground := Ground.data }, { on := 19, ground := Ground.chain }, { on := 0, ground := Ground.phase }, { on := 1, ground := Ground.phase }, { on := 2, ground := Ground.phase }, { on := 3, ground := Ground.phase }, { on := 4, ground := Ground.phase }, { on := 5, ground := Ground.phase }, { on := 6, ground := Ground.phase }, { on := 7, ground := Ground.phase }, { on := 8, ground := Ground.phase }, { on := 9, ground := Ground.phase }, { on := 10, ground := Ground.phase }, { on := 11, ground := Ground.phase }, { on := 12, ground := Ground.phase }, { on := 13, ground := Ground.phase }, { on := 14, ground := Ground.phase }, { on := 15, ground := Ground.phase }, { on := 16, ground := Ground.phase }, { on := 17, ground := Ground.phase }, { on := 18, ground := Ground.phase }, { on := 19, ground := Ground.phase }], guard := none }) rfl (fun K hK => ?_) AllReadyH.nil)
                go_simp
                refine hK.out _ _ (HKP.out.setCell (p := ⟨w2.heap.size, 3, none⟩) (.inl (.inl rfl)) _) (fun hh => ?_)
                clear hK K hHeld
                have hHeld := hh
                clear hh
                try simp only [Act.put, List.setIfInBounds_toArray, List.set_cons_zero, List.set_cons_succ]
                refine wpAnyH_done (by kernel_rfl) ?_ _
                clear hHeld
                go_wp2_with fail
                go_round
                case rel => exact ⟨k + 1, some ⟨g', 0, none⟩, cap, by first | rfl | go_num, by omega, HVI.out⟩
                case measure => simp [intOf]; omega
              · go_simp
                refine (rbytes_any _ _ _ _).mono ?_
                rintro e' w4 ⟨rfl, kb⟩
                have HK4 : Hid (Kp No W1 w4) := HK3.out.andNone kb
                have HK24 : Hid (Kp No W2 w4) := HK23.out.andNone kb
                have HK3I : Hid (KSlS (fun x => x < w.heap.size ∨ (W1.heap.size ≤ x ∧ x < w4.heap.size + 1)) (w4.alloc (.cells #[.int .i64 2, .int .u64 0, .slice (some ⟨wr.heap.size + 1, 0, none⟩) ln capn, .slice none 0 0, .int .i64 1, .int .u64 0, .slice none 0 0, .slice none 0 0, .int .i64 2, .int .u64 0, .slice (some ⟨g, o + k * 34 + 2, none⟩) 32 32, .slice none 0 0] 86)) (RepS (fun x => x < w.heap.size ∨ (W1.heap.size ≤ x ∧ x < w4.heap.size + 1)) (w4.alloc (.cells #[.int .i64 2, .int .u64 0, .slice (some ⟨wr.heap.size + 1, 0, none⟩) ln capn, .slice none 0 0, .int .i64 1, .int .u64 0, .slice none 0 0, .slice none 0 0, .int .i64 2, .int .u64 0, .slice (some ⟨g, o + k * 34 + 2, none⟩) 32 32, .slice none 0 0] 86)) 1) (.slice (some ⟨w4.heap.size, 0, none⟩) 3 3) [(Tr.mk 2 0 nm [] : Tr 1), Tr.mk 1 0 [] [], Tr.mk 2 0 hs []]) := by
                  have hz1 := HZ1.out
                  have hw4 := HK4.out.size
                  have hww := HKW.out.size
                  have hW2 := HK24.out.size
                  refine threeInS (P := fun x => x < w.heap.size ∨ (W1.heap.size ≤ x ∧ x < w4.heap.size)) nm hs 0 _ _ (by omega) ?_ ?_ (fun x hx => by rcases hx with hx | hx <;> omega) (fun x hx => by omega) _ _ rfl
                  · refine bySlS_lift HCY.out.toS (fun x hx => HK24.out.block x hx.2 (fun y => y)) (fun x hx => .inr ?_)
                    have h1 := hx.1
                    have h2 := hx.2
                    omega
                  · exact hashS ⟨HEO.out.2.1, HEO.out.2.2⟩ (.inl HGW.out) (HRG.out w4 (HKW.out.trans ((HK1.out.andNone HK4.out).toBelow'.mono HKW.out.size))).2.2
                clear kb
                go_wp2_with fail
                refine hK.out _ _ (HK4.out.ofNo) (fun hh => ?_)
                clear hK K hHeld
                have hHeld := hh
                clear hh
                try simp only [Act.put, List.setIfInBounds_toArray, List.set_cons_zero, List.set_cons_succ]
                refine wpAnyH_ready (rs := [1, 16]) (by kernel_rfl) (by simp) ?_
                refine (AllReadyH.cons (o := { dst := some 26, op := Op.load 84 (Operand.tmp 25), type := 84, pos := "ref.go:85", after := #[{ on := 0, ground := Ground.data }], guard := none }) rfl (fun K hK => ?_) (AllReadyH.cons (o := { dst := some 41, op := Op.buildSlice 84 3 #[(0, Operand.tmp 33), (1, Operand.tmp 34), (2, Operand.tmp 40)], type := 84, pos := "ref.go:85", after := #[{ on := 8, ground := Ground.data }, { on := 9, ground := Ground.data }, { on := 15, ground := Ground.data }], guard := none }) rfl (fun K hK => ?_) AllReadyH.nil))
                · have q3 := c3 w4 (HK4.out)
                  go_simp
                  refine hK.out _ _ (HK4.out.ofNo) (fun hh => ?_)
                  clear hK K hHeld
                  have hHeld := hh
                  clear hh
                  try simp only [Act.put, List.setIfInBounds_toArray, List.set_cons_zero, List.set_cons_succ]
                  refine wpAnyH_ready (rs := [16]) (by kernel_rfl) (by simp) ?_
                  refine (AllReadyH.cons (o := { dst := some 41, op := Op.buildSlice 84 3 #[(0, Operand.tmp 33), (1, Operand.tmp 34), (2, Operand.tmp 40)], type := 84, pos := "ref.go:85", after := #[{ on := 8, ground := Ground.data }, { on := 9, ground := Ground.data }, { on := 15, ground := Ground.data }], guard := none }) rfl (fun K hK => ?_) AllReadyH.nil)
                  rw [if_pos (by rfl)]
                  refine wp_valE (exec_slice3 84 _ _ _ rfl (.agg #[.int .i64 2, .int .u64 0, .slice (some ⟨wr.heap.size + 1, 0, none⟩) ln capn, .slice none 0 0]) (.agg #[.int .i64 1, .int .u64 0, .slice none 0 0, .slice none 0 0]) (.agg #[.int .i64 2, .int .u64 0, .slice (some ⟨g, o + k * 34 + 2, none⟩) 32 32, .slice none 0 0]) _ rfl rfl rfl (run_threeRV _ _ _ _ _ _ _ _ _ _ _ _ _)) ?_
                  refine hK.out _ _ ((HK4.out.alloc _).ofNo) (fun hh => ?_)
                  clear hK K hHeld
                  have hHeld := hh
                  clear hh
                  try simp only [Act.put, List.setIfInBounds_toArray, List.set_cons_zero, List.set_cons_succ]
                  refine wpAnyH_ready (rs := [17]) (by kernel_rfl) (by simp) ?_
                  refine (AllReadyH.cons (o := { dst := some 42, op := Op.call { callee := Callee.value (Operand.func 41), args := #[Operand.tmp 41], argTypes := #[84] }, type := 86, pos := "ref.go:85", after := #[{ on := 16, ground := Ground.data }, { on := 15, ground := Ground.chain }], guard := none }) rfl (fun K hK => ?_) AllReadyH.nil)
                  go_simp
                  refine (rlist_any _ _ _ _).mono ?_
                  rintro e' w5 ⟨rfl, kl⟩
                  have HK5 : Hid (Kp No W1 w5) := (HK4.out.alloc _).andNone kl
                  have hr2 : RepS (fun x => x < w.heap.size ∨ (W1.heap.size ≤ x ∧ x < w5.heap.size)) w5 2 (entT (nm, false, hs)) (.slice none 0 0) (.slice (some ⟨w4.heap.size, 0, none⟩) 3 3) := by
                    have hks := kl.size
                    simp at hks
                    have hww := HKW.out.size
                    have h4 := HK4.out.size
                    have hz1 := HZ1.out
                    refine repS_list (kslS_lift HK3I.out (fun x hx => kl.block x (by simp; omega) (fun y => y)) (fun x hx => by omega))
                  obtain ⟨g', cap, w6, hap, k3, kf, ks, hvi, hkp⟩ := HS.out.step HLK.out (Nat.le_refl _) (fun x hx => by omega) HK1.out HK5.out hr2 (by have := HZ1.out; omega) (by omega) 84
                  simp only [show (entT (nm, false, hs)).hd.1 = 3 from rfl, show (entT (nm, false, hs)).hd.2.1 = 0 from rfl] at hap
                  rw [HDK.out] at hvi
                  have HAP := hid hap
                  have HVI := hid hvi
                  have HKP := hid hkp
                  clear hap hvi hkp hr2 kl
                  go_wp2_with fail
                  refine hK.out _ _ (HK5.out.ofNo) (fun hh => ?_)
                  clear hK K hHeld
                  have hHeld := hh
                  clear hh
                  try simp only [Act.put, List.setIfInBounds_toArray, List.set_cons_zero, List.set_cons_succ]
                  refine wpAnyH_ready (rs := [18]) (by kernel_rfl) (by simp) ?_
                  refine (AllReadyH.cons (o := { dst := some 43, op := Op.buildSlice 84 1 #[(0, Operand.tmp 42)], type := 84, pos := "ref.go:85", after := #[{ on := 17, ground := Ground.data }], guard := none }) rfl (fun K hK => ?_) AllReadyH.nil)
                  rw [if_pos (by rfl)]
                  refine wp_valE (exec_sliceE 84 _ rfl (.agg #[.int .i64 3, .int .u64 0, .slice none 0 0, .slice (some ⟨w4.heap.size, 0, none⟩) 3 3]) _ rfl (run_oneRV _ _ _ _ _)) ?_
                  refine hK.out _ _ ((HK5.out.alloc _).ofNo) (fun hh => ?_)
                  clear hK K hHeld
                  have hHeld := hh
                  clear hh
                  try simp only [Act.put, List.setIfInBounds_toArray, List.set_cons_zero, List.set_cons_succ]
                  refine wpAnyH_ready (rs := [19]) (by kernel_rfl) (by simp) ?_
                  refine (AllReadyH.cons (o := { dst := some 44, op := Op.call { callee := Callee.builtin Builtin.append, args := #[Operand.tmp 26, Operand.tmp 43], argTypes := #[84, 84] }, type := 84, pos := "ref.go:85", after := #[{ on := 1, ground := Ground.data }, { on := 18, ground := Ground.data }, { on := 17, ground := Ground.chain }], guard := none }) rfl (fun K hK => ?_) AllReadyH.nil)
                  rw [if_pos (by rfl)]
                  refine wp_valE (exec_appE _ _ 84 rfl (.slice av k cv) (.slice (some ⟨w5.heap.size, 0, none⟩) 1 1) _ rfl rfl HAP.out) ?_
                  refine hK.out _ _ (HKP.out) (fun hh => ?_)
                  clear hK K hHeld
                  have hHeld := hh
                  clear hh
                  try simp only [Act.put, List.setIfInBounds_toArray, List.set_cons_zero, List.set_cons_succ]
                  refine wpAnyH_take (i := 20) (oi := { dst := some 45, op := Op.fieldAddr 86 (Operand.tmp 4) 3, type := 0, pos := "ref.go:85", after := #[{ on := 0, ground := Ground.phase }, { on := 1, ground := Ground.phase }, { on := 2, ground := Ground.phase }, { on := 3, ground := Ground.phase }, { on := 4, ground := Ground.phase }, { on := 5, ground := Ground.phase }, { on := 6, ground := Ground.phase }, { on := 7, ground := Ground.phase }, { on := 8, ground := Ground.phase }, { on := 9, ground := Ground.phase }, { on := 10, ground := Ground.phase }, { on := 11, ground := Ground.phase }, { on := 12, ground := Ground.phase }, { on := 13, ground := Ground.phase }, { on := 14, ground := Ground.phase }, { on := 15, ground := Ground.phase }, { on := 16, ground := Ground.phase }, { on := 17, ground := Ground.phase }, { on := 18, ground := Ground.phase }, { on := 19, ground := Ground.phase }], guard := none }) (v := .pointer (some ⟨w2.heap.size, 3, none⟩)) rfl (by kernel_rfl) (by kernel_rfl) (by kernel_rfl) (fun _ _ _ h => h) (Or.inl ⟨by rfl, fun w' hw' => by (clear hw'; go_simp)⟩) hHeld ?_
                  simp only [Act.put, List.setIfInBounds_toArray, List.set_cons_zero, List.set_cons_succ]
                  refine wpAnyH_ready (rs := [21]) (by kernel_rfl) (by simp) ?_
                  refine (AllReadyH.cons (o := { dst := none, op := Op.store 84 (Operand.tmp 45) (Operand.tmp 44), type := 0, pos := "ref.go:85", after := #[{ on := 20, ground := Ground.data }, { on := 19, ground := Ground.data }, { on := 19, ground := Ground.chain }, { on := 0, ground := Ground.phase }, { on := 1, ground := Ground.phase }, { on := 2, ground := Ground.phase }, { on := 3, ground := Ground.phase }, { on := 4, ground := Ground.phase }, { on := 5, ground := Ground.phase }, { on := 6, ground := Ground.phase }, { on := 7, ground := Ground.phase }, { on := 8, ground := Ground.phase }, { on := 9, ground := Ground.phase }, { on := 10, ground := Ground.phase }, { on := 11, ground := Ground.phase }, { on := 12, ground := Ground.phase }, { on := 13, ground := Ground.phase }, { on := 14, ground := Ground.phase }, { on := 15, ground := Ground.phase }, { on := 16, ground := Ground.phase }, { on := 17, ground := Ground.phase }, { on := 18, ground := Ground.phase }, { on := 19, ground := Ground.phase }], guard := none }) rfl (fun K hK => ?_) AllReadyH.nil)
                  go_simp
                  refine hK.out _ _ (HKP.out.setCell (p := ⟨w2.heap.size, 3, none⟩) (.inl (.inl rfl)) _) (fun hh => ?_)
                  clear hK K hHeld
                  have hHeld := hh
                  clear hh
                  try simp only [Act.put, List.setIfInBounds_toArray, List.set_cons_zero, List.set_cons_succ]
                  refine wpAnyH_done (by kernel_rfl) ?_ _
                  clear hHeld
                  go_wp2_with fail
                  go_round
                  case rel => exact ⟨k + 1, some ⟨g', 0, none⟩, cap, by first | rfl | go_num, by omega, HVI.out⟩
                  case measure => simp [intOf]; omega
                · rw [if_pos (by rfl)]
                  refine wp_valE (exec_slice3 84 _ _ _ rfl (.agg #[.int .i64 2, .int .u64 0, .slice (some ⟨wr.heap.size + 1, 0, none⟩) ln capn, .slice none 0 0]) (.agg #[.int .i64 1, .int .u64 0, .slice none 0 0, .slice none 0 0]) (.agg #[.int .i64 2, .int .u64 0, .slice (some ⟨g, o + k * 34 + 2, none⟩) 32 32, .slice none 0 0]) _ rfl rfl rfl (run_threeRV _ _ _ _ _ _ _ _ _ _ _ _ _)) ?_
                  refine hK.out _ _ ((HK4.out.alloc _).ofNo) (fun hh => ?_)
                  clear hK K hHeld
                  have hHeld := hh
                  clear hh
                  try simp only [Act.put, List.setIfInBounds_toArray, List.set_cons_zero, List.set_cons_succ]
                  refine wpAnyH_ready (rs := [1, 17]) (by kernel_rfl) (by simp) ?_
                  refine (AllReadyH.cons (o := { dst := some 26, op := Op.load 84 (Operand.tmp 25), type := 84, pos := "ref.go:85", after := #[{ on := 0, ground := Ground.data }], guard := none }) rfl (fun K hK => ?_) (AllReadyH.cons (o := { dst := some 42, op := Op.call { callee := Callee.value (Operand.func 41), args := #[Operand.tmp 41], argTypes := #[84] }, type := 86, pos := "ref.go:85", after := #[{ on := 16, ground := Ground.data }, { on := 15, ground := Ground.chain }], guard := none }) rfl (fun K hK => ?_) AllReadyH.nil))
                  · have q3 := c3 (w4.alloc (.cells #[.int .i64 2, .int .u64 0, .slice (some ⟨wr.heap.size + 1, 0, none⟩) ln capn, .slice none 0 0, .int .i64 1, .int .u64 0, .slice none 0 0, .slice none 0 0, .int .i64 2, .int .u64 0, .slice (some ⟨g, o + k * 34 + 2, none⟩) 32 32, .slice none 0 0] 86)) ((HK4.out.alloc _))
                    go_simp
                    refine hK.out _ _ ((HK4.out.alloc _).ofNo) (fun hh => ?_)
                    clear hK K hHeld
                    have hHeld := hh
                    clear hh
                    try simp only [Act.put, List.setIfInBounds_toArray, List.set_cons_zero, List.set_cons_succ]
                    refine wpAnyH_ready (rs := [17]) (by kernel_rfl) (by simp) ?_
                    refine (AllReadyH.cons (o := { dst := some 42, op := Op.call { callee := Callee.value (Operand.func 41), args := #[Operand.tmp 41], argTypes := #[84] }, type := 86, pos := "ref.go:85", after := #[{ on := 16, ground := Ground.data }, { on := 15, ground := Ground.chain }], guard := none }) rfl (fun K hK => ?_) AllReadyH.nil)
                    go_simp
                    refine (rlist_any _ _ _ _).mono ?_
                    rintro e' w5 ⟨rfl, kl⟩
                    have HK5 : Hid (Kp No W1 w5) := (HK4.out.alloc _).andNone kl
                    have hr2 : RepS (fun x => x < w.heap.size ∨ (W1.heap.size ≤ x ∧ x < w5.heap.size)) w5 2 (entT (nm, false, hs)) (.slice none 0 0) (.slice (some ⟨w4.heap.size, 0, none⟩) 3 3) := by
                      have hks := kl.size
                      simp at hks
                      have hww := HKW.out.size
                      have h4 := HK4.out.size
                      have hz1 := HZ1.out
                      refine repS_list (kslS_lift HK3I.out (fun x hx => kl.block x (by simp; omega) (fun y => y)) (fun x hx => by omega))
                    obtain ⟨g', cap, w6, hap, k3, kf, ks, hvi, hkp⟩ := HS.out.step HLK.out (Nat.le_refl _) (fun x hx => by omega) HK1.out HK5.out hr2 (by have := HZ1.out; omega) (by omega) 84
                    simp only [show (entT (nm, false, hs)).hd.1 = 3 from rfl, show (entT (nm, false, hs)).hd.2.1 = 0 from rfl] at hap
                    rw [HDK.out] at hvi
                    have HAP := hid hap
                    have HVI := hid hvi
                    have HKP := hid hkp
                    clear hap hvi hkp hr2 kl
                    go_wp2_with fail
                    refine hK.out _ _ (HK5.out.ofNo) (fun hh => ?_)
                    clear hK K hHeld
                    have hHeld := hh
                    clear hh
                    try simp only [Act.put, List.setIfInBounds_toArray, List.set_cons_zero, List.set_cons_succ]
                    refine wpAnyH_ready (rs := [18]) (by kernel_rfl) (by simp) ?_
                    refine (AllReadyH.cons (o := { dst := some 43, op := Op.buildSlice 84 1 #[(0, Operand.tmp 42)], type := 84, pos := "ref.go:85", after := #[{ on := 17, ground := Ground.data }], guard := none }) rfl (fun K hK => ?_) AllReadyH.nil)
                    rw [if_pos (by rfl)]
                    refine wp_valE (exec_sliceE 84 _ rfl (.agg #[.int .i64 3, .int .u64 0, .slice none 0 0, .slice (some ⟨w4.heap.size, 0, none⟩) 3 3]) _ rfl (run_oneRV _ _ _ _ _)) ?_
                    refine hK.out _ _ ((HK5.out.alloc _).ofNo) (fun hh => ?_)
                    clear hK K hHeld
                    have hHeld := hh
                    clear hh
                    try simp only [Act.put, List.setIfInBounds_toArray, List.set_cons_zero, List.set_cons_succ]
                    refine wpAnyH_ready (rs := [19]) (by kernel_rfl) (by simp) ?_
                    refine (AllReadyH.cons (o := { dst := some 44, op := Op.call { callee := Callee.builtin Builtin.append, args := #[Operand.tmp 26, Operand.tmp 43], argTypes := #[84, 84] }, type := 84, pos := "ref.go:85", after := #[{ on := 1, ground := Ground.data }, { on := 18, ground := Ground.data }, { on := 17, ground := Ground.chain }], guard := none }) rfl (fun K hK => ?_) AllReadyH.nil)
                    rw [if_pos (by rfl)]
                    refine wp_valE (exec_appE _ _ 84 rfl (.slice av k cv) (.slice (some ⟨w5.heap.size, 0, none⟩) 1 1) _ rfl rfl HAP.out) ?_
                    refine hK.out _ _ (HKP.out) (fun hh => ?_)
                    clear hK K hHeld
                    have hHeld := hh
                    clear hh
                    try simp only [Act.put, List.setIfInBounds_toArray, List.set_cons_zero, List.set_cons_succ]
                    refine wpAnyH_take (i := 20) (oi := { dst := some 45, op := Op.fieldAddr 86 (Operand.tmp 4) 3, type := 0, pos := "ref.go:85", after := #[{ on := 0, ground := Ground.phase }, { on := 1, ground := Ground.phase }, { on := 2, ground := Ground.phase }, { on := 3, ground := Ground.phase }, { on := 4, ground := Ground.phase }, { on := 5, ground := Ground.phase }, { on := 6, ground := Ground.phase }, { on := 7, ground := Ground.phase }, { on := 8, ground := Ground.phase }, { on := 9, ground := Ground.phase }, { on := 10, ground := Ground.phase }, { on := 11, ground := Ground.phase }, { on := 12, ground := Ground.phase }, { on := 13, ground := Ground.phase }, { on := 14, ground := Ground.phase }, { on := 15, ground := Ground.phase }, { on := 16, ground := Ground.phase }, { on := 17, ground := Ground.phase }, { on := 18, ground := Ground.phase }, { on := 19, ground := Ground.phase }], guard := none }) (v := .pointer (some ⟨w2.heap.size, 3, none⟩)) rfl (by kernel_rfl) (by kernel_rfl) (by kernel_rfl) (fun _ _ _ h => h) (Or.inl ⟨by rfl, fun w' hw' => by (clear hw'; go_simp)⟩) hHeld ?_
                    simp only [Act.put, List.setIfInBounds_toArray, List.set_cons_zero, List.set_cons_succ]
                    refine wpAnyH_ready (rs := [21]) (by kernel_rfl) (by simp) ?_
                    refine (AllReadyH.cons (o := { dst := none, op := Op.store 84 (Operand.tmp 45) (Operand.tmp 44), type := 0, pos := "ref.go:85", after := #[{ on := 20, ground := Ground.data }, { on := 19, ground := Ground.data }, { on := 19, ground := Ground.chain }, { on := 0, ground := Ground.phase }, { on := 1, ground := Ground.phase }, { on := 2, ground := Ground.phase }, { on := 3, ground := Ground.phase }, { on := 4, ground := Ground.phase }, { on := 5, ground := Ground.phase }, { on := 6, ground := Ground.phase }, { on := 7, ground := Ground.phase }, { on := 8, ground := Ground.phase }, { on := 9, ground := Ground.phase }, { on := 10, ground := Ground.phase }, { on := 11, ground := Ground.phase }, { on := 12, ground := Ground.phase }, { on := 13, ground := Ground.phase }, { on := 14, ground := Ground.phase }, { on := 15, ground := Ground.phase }, { on := 16, ground := Ground.phase }, { on := 17, ground := Ground.phase }, { on := 18, ground := Ground.phase }, { on := 19, ground := Ground.phase }], guard := none }) rfl (fun K hK => ?_) AllReadyH.nil)
                    go_simp
                    refine hK.out _ _ (HKP.out.setCell (p := ⟨w2.heap.size, 3, none⟩) (.inl (.inl rfl)) _) (fun hh => ?_)
                    clear hK K hHeld
                    have hHeld := hh
                    clear hh
                    try simp only [Act.put, List.setIfInBounds_toArray, List.set_cons_zero, List.set_cons_succ]
                    refine wpAnyH_done (by kernel_rfl) ?_ _
                    clear hHeld
                    go_wp2_with fail
                    go_round
                    case rel => exact ⟨k + 1, some ⟨g', 0, none⟩, cap, by first | rfl | go_num, by omega, HVI.out⟩
                    case measure => simp [intOf]; omega
                  · go_simp
                    refine (rlist_any _ _ _ _).mono ?_
                    rintro e' w5 ⟨rfl, kl⟩
                    have HK5 : Hid (Kp No W1 w5) := (HK4.out.alloc _).andNone kl
                    have hr2 : RepS (fun x => x < w.heap.size ∨ (W1.heap.size ≤ x ∧ x < w5.heap.size)) w5 2 (entT (nm, false, hs)) (.slice none 0 0) (.slice (some ⟨w4.heap.size, 0, none⟩) 3 3) := by
                      have hks := kl.size
                      simp at hks
                      have hww := HKW.out.size
                      have h4 := HK4.out.size
                      have hz1 := HZ1.out
                      refine repS_list (kslS_lift HK3I.out (fun x hx => kl.block x (by simp; omega) (fun y => y)) (fun x hx => by omega))
                    obtain ⟨g', cap, w6, hap, k3, kf, ks, hvi, hkp⟩ := HS.out.step HLK.out (Nat.le_refl _) (fun x hx => by omega) HK1.out HK5.out hr2 (by have := HZ1.out; omega) (by omega) 84
                    simp only [show (entT (nm, false, hs)).hd.1 = 3 from rfl, show (entT (nm, false, hs)).hd.2.1 = 0 from rfl] at hap
                    rw [HDK.out] at hvi
                    have HAP := hid hap
                    have HVI := hid hvi
                    have HKP := hid hkp
                    clear hap hvi hkp hr2 kl
                    go_wp2_with fail
                    refine hK.out _ _ (HK5.out.ofNo) (fun hh => ?_)
                    clear hK K hHeld
                    have hHeld := hh
                    clear hh
                    try simp only [Act.put, List.setIfInBounds_toArray, List.set_cons_zero, List.set_cons_succ]
                    refine wpAnyH_ready (rs := [1, 18]) (by kernel_rfl) (by simp) ?_
                    refine (AllReadyH.cons (o := { dst := some 26, op := Op.load 84 (Operand.tmp 25), type := 84, pos := "ref.go:85", after := #[{ on := 0, ground := Ground.data }], guard := none }) rfl (fun K hK => ?_) (AllReadyH.cons (o := { dst := some 43, op := Op.buildSlice 84 1 #[(0, Operand.tmp 42)], type := 84, pos := "ref.go:85", after := #[{ on := 17, ground := Ground.data }], guard := none }) rfl (fun K hK => ?_) AllReadyH.nil))
                    · have q3 := c3 w5 (HK5.out)
                      go_simp
                      refine hK.out _ _ (HK5.out.ofNo) (fun hh => ?_)
                      clear hK K hHeld
                      have hHeld := hh
                      clear hh
                      try simp only [Act.put, List.setIfInBounds_toArray, List.set_cons_zero, List.set_cons_succ]
                      refine wpAnyH_ready (rs := [18]) (by kernel_rfl) (by simp) ?_
                      refine (AllReadyH.cons (o := { dst := some 43, op := Op.buildSlice 84 1 #[(0, Operand.tmp 42)], type := 84, pos := "ref.go:85", after := #[{ on := 17, ground := Ground.data }], guard := none }) rfl (fun K hK => ?_) AllReadyH.nil)
                      rw [if_pos (by rfl)]
                      refine wp_valE (exec_sliceE 84 _ rfl (.agg #[.int .i64 3, .int .u64 0, .slice none 0 0, .slice (some ⟨w4.heap.size, 0, none⟩) 3 3]) _ rfl (run_oneRV _ _ _ _ _)) ?_
                      refine hK.out _ _ ((HK5.out.alloc _).ofNo) (fun hh => ?_)
                      clear hK K hHeld
                      have hHeld := hh
                      clear hh
                      try simp only [Act.put, List.setIfInBounds_toArray, List.set_cons_zero, List.set_cons_succ]
                      refine wpAnyH_ready (rs := [19]) (by kernel_rfl) (by simp) ?_
                      refine (AllReadyH.cons (o := { dst := some 44, op := Op.call { callee := Callee.builtin Builtin.append, args := #[Operand.tmp 26, Operand.tmp 43], argTypes := #[84, 84] }, type := 84, pos := "ref.go:85", after := #[{ on := 1, ground := Ground.data }, { on := 18, ground := Ground.data }, { on := 17, ground := Ground.chain }], guard := none }) rfl (fun K hK => ?_) AllReadyH.nil)
                      rw [if_pos (by rfl)]
                      refine wp_valE (exec_appE _ _ 84 rfl (.slice av k cv) (.slice (some ⟨w5.heap.size, 0, none⟩) 1 1) _ rfl rfl HAP.out) ?_
                      refine hK.out _ _ (HKP.out) (fun hh => ?_)
                      clear hK K hHeld
                      have hHeld := hh
                      clear hh
                      try simp only [Act.put, List.setIfInBounds_toArray, List.set_cons_zero, List.set_cons_succ]
                      refine wpAnyH_take (i := 20) (oi := { dst := some 45, op := Op.fieldAddr 86 (Operand.tmp 4) 3, type := 0, pos := "ref.go:85", after := #[{ on := 0, ground := Ground.phase }, { on := 1, ground := Ground.phase }, { on := 2, ground := Ground.phase }, { on := 3, ground := Ground.phase }, { on := 4, ground := Ground.phase }, { on := 5, ground := Ground.phase }, { on := 6, ground := Ground.phase }, { on := 7, ground := Ground.phase }, { on := 8, ground := Ground.phase }, { on := 9, ground := Ground.phase }, { on := 10, ground := Ground.phase }, { on := 11, ground := Ground.phase }, { on := 12, ground := Ground.phase }, { on := 13, ground := Ground.phase }, { on := 14, ground := Ground.phase }, { on := 15, ground := Ground.phase }, { on := 16, ground := Ground.phase }, { on := 17, ground := Ground.phase }, { on := 18, ground := Ground.phase }, { on := 19, ground := Ground.phase }], guard := none }) (v := .pointer (some ⟨w2.heap.size, 3, none⟩)) rfl (by kernel_rfl) (by kernel_rfl) (by kernel_rfl) (fun _ _ _ h => h) (Or.inl ⟨by rfl, fun w' hw' => by (clear hw'; go_simp)⟩) hHeld ?_
                      simp only [Act.put, List.setIfInBounds_toArray, List.set_cons_zero, List.set_cons_succ]
                      refine wpAnyH_ready (rs := [21]) (by kernel_rfl) (by simp) ?_
                      refine (AllReadyH.cons (o := { dst := none, op := Op.store 84 (Operand.tmp 45) (Operand.tmp 44), type := 0, pos := "ref.go:85", after := #[{ on := 20, ground := Ground.data }, { on := 19, ground := Ground.data }, { on := 19, ground := Ground.chain }, { on := 0, ground := Ground.phase }, { on := 1, ground := Ground.phase }, { on := 2, ground := Ground.phase }, { on := 3, ground := Ground.phase }, { on := 4, ground := Ground.phase }, { on := 5, ground := Ground.phase }, { on := 6, ground := Ground.phase }, { on := 7, ground := Ground.phase }, { on := 8, ground := Ground.phase }, { on := 9, ground := Ground.phase }, { on := 10, ground := Ground.phase }, { on := 11, ground := Ground.phase }, { on := 12, ground := Ground.phase }, { on := 13, ground := Ground.phase }, { on := 14, ground := Ground.phase }, { on := 15, ground := Ground.phase }, { on := 16, ground := Ground.phase }, { on := 17, ground := Ground.phase }, { on := 18, ground := Ground.phase }, { on := 19, ground := Ground.phase }], guard := none }) rfl (fun K hK => ?_) AllReadyH.nil)
                      go_simp
                      refine hK.out _ _ (HKP.out.setCell (p := ⟨w2.heap.size, 3, none⟩) (.inl (.inl rfl)) _) (fun hh => ?_)
                      clear hK K hHeld
                      have hHeld := hh
                      clear hh
                      try simp only [Act.put, List.setIfInBounds_toArray, List.set_cons_zero, List.set_cons_succ]
                      refine wpAnyH_done (by kernel_rfl) ?_ _
                      clear hHeld
                      go_wp2_with fail
                      go_round
                      case rel => exact ⟨k + 1, some ⟨g', 0, none⟩, cap, by first | rfl | go_num, by omega, HVI.out⟩
                      case measure => simp [intOf]; omega
                    · rw [if_pos (by rfl)]
                      refine wp_valE (exec_sliceE 84 _ rfl (.agg #[.int .i64 3, .int .u64 0, .slice none 0 0, .slice (some ⟨w4.heap.size, 0, none⟩) 3 3]) _ rfl (run_oneRV _ _ _ _ _)) ?_
                      refine hK.out _ _ ((HK5.out.alloc _).ofNo) (fun hh => ?_)
                      clear hK K hHeld
                      have hHeld := hh
                      clear hh
                      try simp only [Act.put, List.setIfInBounds_toArray, List.set_cons_zero, List.set_cons_succ]
                      refine wpAnyH_ready (rs := [1]) (by kernel_rfl) (by simp) ?_
                      refine (AllReadyH.cons (o := { dst := some 26, op := Op.load 84 (Operand.tmp 25), type := 84, pos := "ref.go:85", after := #[{ on := 0, ground := Ground.data }], guard := none }) rfl (fun K hK => ?_) AllReadyH.nil)
                      have q3 := c3 (w5.alloc (.cells #[.int .i64 3, .int .u64 0, .slice none 0 0, .slice (some ⟨w4.heap.size, 0, none⟩) 3 3] 86)) ((HK5.out.alloc _))
                      go_simp
                      refine hK.out _ _ ((HK5.out.alloc _).ofNo) (fun hh => ?_)
                      clear hK K hHeld
                      have hHeld := hh
                      clear hh
                      try simp only [Act.put, List.setIfInBounds_toArray, List.set_cons_zero, List.set_cons_succ]
                      refine wpAnyH_ready (rs := [19]) (by kernel_rfl) (by simp) ?_
                      refine (AllReadyH.cons (o := { dst := some 44, op := Op.call { callee := Callee.builtin Builtin.append, args := #[Operand.tmp 26, Operand.tmp 43], argTypes := #[84, 84] }, type := 84, pos := "ref.go:85", after := #[{ on := 1, ground := Ground.data }, { on := 18, ground := Ground.data }, { on := 17, ground := Ground.chain }], guard := none }) rfl (fun K hK => ?_) AllReadyH.nil)
                      rw [if_pos (by rfl)]
                      refine wp_valE (exec_appE _ _ 84 rfl (.slice av k cv) (.slice (some ⟨w5.heap.size, 0, none⟩) 1 1) _ rfl rfl HAP.out) ?_
                      refine hK.out _ _ (HKP.out) (fun hh => ?_)
                      clear hK K hHeld
                      have hHeld := hh
                      clear hh
                      try simp only [Act.put, List.setIfInBounds_toArray, List.set_cons_zero, List.set_cons_succ]
                      refine wpAnyH_take (i := 20) (oi := { dst := some 45, op := Op.fieldAddr 86 (Operand.tmp 4) 3, type := 0, pos := "ref.go:85", after := #[{ on := 0, ground := Ground.phase }, { on := 1, ground := Ground.phase }, { on := 2, ground := Ground.phase }, { on := 3, ground := Ground.phase }, { on := 4, ground := Ground.phase }, { on := 5, ground := Ground.phase }, { on := 6, ground := Ground.phase }, { on := 7, ground := Ground.phase }, { on := 8, ground := Ground.phase }, { on := 9, ground := Ground.phase }, { on := 10, ground := Ground.phase }, { on := 11, ground := Ground.phase }, { on := 12, ground := Ground.phase }, { on := 13, ground := Ground.phase }, { on := 14, ground := Ground.phase }, { on := 15, ground := Ground.phase }, { on := 16, ground := Ground.phase }, { on := 17, ground := Ground.phase }, { on := 18, ground := Ground.phase }, { on := 19, ground := Ground.phase }], guard := none }) (v := .pointer (some ⟨w2.heap.size, 3, none⟩)) rfl (by kernel_rfl) (by kernel_rfl) (by kernel_rfl) (fun _ _ _ h => h) (Or.inl ⟨by rfl, fun w' hw' => by (clear hw'; go_simp)⟩) hHeld ?_
                      simp only [Act.put, List.setIfInBounds_toArray, List.set_cons_zero, List.set_cons_succ]
                      refine wpAnyH_ready (rs := [21]) (by kernel_rfl) (by simp) ?_
                      refine (AllReadyH.cons (o := { dst := none, op := Op.store 84 (Operand.tmp 45) (Operand.tmp 44), type := 0, pos := "ref.go:85", after := #[{ on := 20, ground := Ground.data }, { on := 19, ground := Ground.data }, { on := 19, ground := Ground.chain }, { on := 0, ground := Ground.phase }, { on := 1, ground := Ground.phase }, { on := 2, ground := Ground.phase }, { on := 3, ground := Ground.phase }, { on := 4, ground := Ground.phase }, { on := 5, ground := Ground.phase }, { on := 6, ground := Ground.phase }, { on := 7, ground := Ground.phase }, { on := 8, ground := Ground.phase }, { on := 9, ground := Ground.phase }, { on := 10, ground := Ground.phase }, { on := 11, ground := Ground.phase }, { on := 12, ground := Ground.phase }, { on := 13, ground := Ground.phase }, { on := 14, ground := Ground.phase }, { on := 15, ground := Ground.phase }, { on := 16, ground := Ground.phase }, { on := 17, ground := Ground.phase }, { on := 18, ground := Ground.phase }, { on := 19, ground := Ground.phase }], guard := none }) rfl (fun K hK => ?_) AllReadyH.nil)
                      go_simp
                      refine hK.out _ _ (HKP.out.setCell (p := ⟨w2.heap.size, 3, none⟩) (.inl (.inl rfl)) _) (fun hh => ?_)
                      clear hK K hHeld
                      have hHeld := hh
                      clear hh
                      try simp only [Act.put, List.setIfInBounds_toArray, List.set_cons_zero, List.set_cons_succ]
                      refine wpAnyH_done (by kernel_rfl) ?_ _
                      clear hHeld
                      go_wp2_with fail
                      go_round
                      case rel => exact ⟨k + 1, some ⟨g', 0, none⟩, cap, by first | rfl | go_num, by omega, HVI.out⟩
                      case measure => simp [intOf]; omega
        | true =>
          obtain ⟨W1, hW1⟩ : ∃ W, wr.alloc (.cells #[.int .i64 1, .int .u64 1, .slice none 0 0, .slice none 0 0] 86) = W := ⟨_, rfl⟩
          have HK1 : Hid (Kp No wr W1) := by rw [Hid, ← hW1]; exact (Kp.refl No wr).alloc _
          have HZ1 : Hid (W1.heap.size = wr.heap.size + 1) := by rw [Hid, ← hW1]; simp
          have hfar : ∀ b, b < wr.heap.size + 1 → b ≠ w2.heap.size → (∀ r, (Value.slice av k cv).ownBlock = some r → b ≠ r) → ∀ V, Kp (fun x => x = w2.heap.size ∨ (Value.slice av k cv).ownBlock = some x) W1 V → ∀ j, V.cell? ⟨b, j, none⟩ = W1.cell? ⟨b, j, none⟩ := fun b hb h1 h2 V hV j => hV.cell (p := ⟨b, j, none⟩) (by show b < _; have := HZ1.out; omega) (fun hx => by
            rcases hx with hx | hx
            · exact h1 hx
            · exact h2 b hx rfl)
          have hol : ∀ r, (Value.slice av k cv).ownBlock = some r → w2.heap.size + 1 ≤ r ∧ r < wr.heap.size := fun r hr => HS.out.2.2.2.2.2.2.1.lt r hr
          have HB6 : Hid (∀ V, Kp (fun x => x = w2.heap.size ∨ (Value.slice av k cv).ownBlock = some x) W1 V → V.cell? ⟨wr.heap.size, 0, none⟩ = some (.int .i64 1) ∧ V.cell? ⟨wr.heap.size, 1, none⟩ = some (.int .u64 1) ∧ V.cell? ⟨wr.heap.size, 2, none⟩ = some (.slice none 0 0) ∧ V.cell? ⟨wr.heap.size, 3, none⟩ = some (.slice none 0 0)) := fun V hV => by
            have e := hfar wr.heap.size (by omega) (by omega) (fun r hr => by have := (hol r hr).2; omega) V hV
            rw [e, e, e, e, ← hW1]
            exact ⟨by simp, by simp, by simp, by simp⟩
          have HST : Hid (∀ V, Kp (fun x => x = w2.heap.size ∨ (Value.slice av k cv).ownBlock = some x) W1 V → V.cell? ⟨g, o + k * 34, none⟩ = some (.string (txt nm))) := fun V hV => by
            have hg := HGW.out
            rw [hfar g (by omega) (by omega) (fun r hr => by have := (hol r hr).1; omega) V hV]
            exact (HRG.out W1 (HKW.out.trans (HK1.out.toBelow'.mono HKW.out.size))).1
          have c3 : ∀ V, Kp No W1 V → V.cell? ⟨w2.heap.size, 3, none⟩ = some (.slice av k cv) := fun V hV => ((HK1.out.andNone hV).cell (p := ⟨w2.heap.size, 3, none⟩) HS.out.2.2.2.2.2.1 (fun x => x)).trans HS.out.2.2.2.1
          obtain ⟨capn, W2, hcv, hcy, hcb⟩ := conv_txt nm HEO.out.1 HLN.out W1.drew
          have HCV := hid hcv
          have HCY := hid hcy
          have HK2 : Hid (Kp No W1 W2) := ((Kp.refl No W1).drew).andNone (Kp.below hcb)
          have HZ2' : Hid (W1.drew.heap.size = wr.heap.size + 1) := HZ1.out
          clear hcv hcy hcb hfar hol
          obtain ⟨ln, hln⟩ : ∃ x, nm.length = x := ⟨_, rfl⟩
          rw [hln] at HCV HCY
          rw [HZ2'.out] at HCV HCY
          clear hln
          have hd1' := hd1
          obtain ⟨T, hT⟩ : ∃ T, txt nm = T := ⟨_, rfl⟩
          rw [hT] at HCV HST
          clear hT
          have HW1 := hid hW1
          clear hW1
          go_wp2_with fail
          rw [HW1.out]
          clear hd1 hd1'
          refine wp_region_held_drew (S := fun V => Kp (fun x => x = w2.heap.size ∨ (Value.slice av k cv).ownBlock = some x) W1 V) (by kernel_rfl) ((Kp.refl _ _).drew) (fun hHeld => ?_)
          refine wpAnyH_take (i := 0) (oi := { dst := some 25, op := Op.fieldAddr 86 (Operand.tmp 4) 3, type := 0, pos := "ref.go:85", after := #[], guard := none }) (v := .pointer (some ⟨w2.heap.size, 3, none⟩)) rfl (by kernel_rfl) (by kernel_rfl) (by kernel_rfl) (fun _ _ _ h => h) (Or.inl ⟨by rfl, fun w' hw' => by (clear hw'; go_simp)⟩) hHeld ?_
          simp only [Act.put, List.setIfInBounds_toArray, List.set_cons_zero, List.set_cons_succ]
          refine wpAnyH_take (i := 2) (oi := { dst := some 27, op := Op.move (Operand.tmp 0), type := 25, pos := "ref.go:85", after := #[], guard := none }) (v := .slice (some ⟨g, o, none⟩) n c) rfl (by kernel_rfl) (by kernel_rfl) (by kernel_rfl) (fun _ _ _ h => h) (Or.inl ⟨by rfl, fun w' hw' => by (clear hw'; go_simp)⟩) hHeld ?_
          simp only [Act.put, List.setIfInBounds_toArray, List.set_cons_zero, List.set_cons_succ]
          refine wpAnyH_take (i := 3) (oi := { dst := some 28, op := Op.move (Operand.tmp 5), type := 3, pos := "ref.go:85", after := #[], guard := none }) (v := .int .i64 (k : Int)) rfl (by kernel_rfl) (by kernel_rfl) (by kernel_rfl) (fun _ _ _ h => h) (Or.inl ⟨by rfl, fun w' hw' => by (clear hw'; go_simp)⟩) hHeld ?_
          simp only [Act.put, List.setIfInBounds_toArray, List.set_cons_zero, List.set_cons_succ]
          refine wpAnyH_take (i := 4) (oi := { dst := some 29, op := Op.indexAddr 25 (Operand.tmp 27) (Operand.tmp 28), type := 0, pos := "ref.go:85", after := #[{ on := 2, ground := Ground.data }, { on := 3, ground := Ground.data }], guard := none }) (v := .pointer (some ⟨g, o + k * 34, none⟩)) rfl (by kernel_rfl) (by kernel_rfl) (by kernel_rfl) (fun _ _ _ h => h) (Or.inl ⟨by rfl, fun w' hw' => by (clear hw'; go_simp)⟩) hHeld ?_
          simp only [Act.put, List.setIfInBounds_toArray, List.set_cons_zero, List.set_cons_succ]
          refine wpAnyH_take (i := 5) (oi := { dst := some 30, op := Op.fieldAddr 79 (Operand.tmp 29) 0, type := 0, pos := "ref.go:85", after := #[{ on := 4, ground := Ground.data }], guard := none }) (v := .pointer (some ⟨g, o + k * 34, none⟩)) rfl (by kernel_rfl) (by kernel_rfl) (by kernel_rfl) (fun _ _ _ h => h) (Or.inl ⟨by rfl, fun w' hw' => by (clear hw'; go_simp)⟩) hHeld ?_
          simp only [Act.put, List.setIfInBounds_toArray, List.set_cons_zero, List.set_cons_succ]
          refine wpAnyH_take (i := 6) (oi := { dst := some 31, op := Op.load 9 (Operand.tmp 30), type := 9, pos := "ref.go:85", after := #[{ on := 5, ground := Ground.data }], guard := none }) (v := .string T) rfl (by kernel_rfl) (by kernel_rfl) (by kernel_rfl) (fun _ _ _ h => h) (Or.inl ⟨by rfl, fun w' hw' => by (have q := HST.out _ hw'; clear hw'; go_simp)⟩) hHeld ?_
          simp only [Act.put, List.setIfInBounds_toArray, List.set_cons_zero, List.set_cons_succ]
          refine wpAnyH_take (i := 9) (oi := { dst := some 34, op := Op.load 86 (Operand.tmp 6), type := 86, pos := "ref.go:85", after := #[], guard := none }) (v := .agg #[.int .i64 1, .int .u64 1, .slice none 0 0, .slice none 0 0]) rfl (by kernel_rfl) (by kernel_rfl) (by kernel_rfl) (fun _ _ _ h => h) (Or.inl ⟨by rfl, fun w' hw' => by (obtain ⟨q0, q1, q2, q3⟩ := HB6.out _ hw'; clear hw'; go_simp)⟩) hHeld ?_
          simp only [Act.put, List.setIfInBounds_toArray, List.set_cons_zero, List.set_cons_succ]
          refine wpAnyH_take (i := 10) (oi := { dst := some 35, op := Op.move (Operand.tmp 0), type := 25, pos := "ref.go:85", after := #[], guard := none }) (v := .slice (some ⟨g, o, none⟩) n c) rfl (by kernel_rfl) (by kernel_rfl) (by kernel_rfl) (fun _ _ _ h => h) (Or.inl ⟨by rfl, fun w' hw' => by (clear hw'; go_simp)⟩) hHeld ?_
          simp only [Act.put, List.setIfInBounds_toArray, List.set_cons_zero, List.set_cons_succ]
          refine wpAnyH_take (i := 11) (oi := { dst := some 36, op := Op.move (Operand.tmp 5), type := 3, pos := "ref.go:85", after := #[], guard := none }) (v := .int .i64 (k : Int)) rfl (by kernel_rfl) (by kernel_rfl) (by kernel_rfl) (fun _ _ _ h => h) (Or.inl ⟨by rfl, fun w' hw' => by (clear hw'; go_simp)⟩) hHeld ?_
          simp only [Act.put, List.setIfInBounds_toArray, List.set_cons_zero, List.set_cons_succ]
          refine wpAnyH_take (i := 12) (oi := { dst := some 37, op := Op.indexAddr 25 (Operand.tmp 35) (Operand.tmp 36), type := 0, pos := "ref.go:85", after := #[{ on := 10, ground := Ground.data }, { on := 11, ground := Ground.data }], guard := none }) (v := .pointer (some ⟨g, o + k * 34, none⟩)) rfl (by kernel_rfl) (by kernel_rfl) (by kernel_rfl) (fun _ _ _ h => h) (Or.inl ⟨by rfl, fun w' hw' => by (clear hw'; go_simp)⟩) hHeld ?_
          simp only [Act.put, List.setIfInBounds_toArray, List.set_cons_zero, List.set_cons_succ]
          refine wpAnyH_take (i := 13) (oi := { dst := some 38, op := Op.fieldAddr 79 (Operand.tmp 37) 2, type := 0, pos := "ref.go:85", after := #[{ on := 12, ground := Ground.data }], guard := none }) (v := .pointer (some ⟨g, o + k * 34 + 2, none⟩)) rfl (by kernel_rfl) (by kernel_rfl) (by kernel_rfl) (fun _ _ _ h => h) (Or.inl ⟨by rfl, fun w' hw' => by (clear hw'; go_simp)⟩) hHeld ?_
          simp only [Act.put, List.setIfInBounds_toArray, List.set_cons_zero, List.set_cons_succ]
          refine wpAnyH_take (i := 14) (oi := { dst := some 39, op := Op.slice 68 (Operand.tmp 38) none none none, type := 26, pos := "ref.go:85", after := #[{ on := 13, ground := Ground.data }], guard := none }) (v := .slice (some ⟨g, o + k * 34 + 2, none⟩) 32 32) rfl (by kernel_rfl) (by kernel_rfl) (by kernel_rfl) (fun _ _ _ h => h) (Or.inl ⟨by rfl, fun w' hw' => by (clear hw'; go_simp)⟩) hHeld ?_
          simp only [Act.put, List.setIfInBounds_toArray, List.set_cons_zero, List.set_cons_succ]
          refine wpAnyH_ready (rs := [1, 7]) (by kernel_rfl) (by simp) ?_
          refine (AllReadyH.cons (o := { dst := some 26, op := Op.load 84 (Operand.tmp 25), type := 84, pos := "ref.go:85", after := #[{ on := 0, ground := Ground.data }], guard := none }) rfl (fun K hK => ?_) (AllReadyH.cons (o := { dst := some 32, op := Op.convert 9 26 (Operand.tmp 31), type := 26, pos := "ref.go:85", after := #[{ on := 6, ground := Ground.data }], guard := none }) rfl (fun K hK => ?_) AllReadyH.nil))
          · have q3 := c3 W1.drew ((Kp.refl No W1).drew)
            go_simp
            refine hK.out _ _ (((Kp.refl No W1).drew).ofNo) (fun hh => ?_)
            clear hK K hHeld
            have hHeld := hh
            clear hh
            try simp only [Act.put, List.setIfInBounds_toArray, List.set_cons_zero, List.set_cons_succ]
            refine wpAnyH_ready (rs := [7]) (by kernel_rfl) (by simp) ?_
            refine (AllReadyH.cons (o := { dst := some 32, op := Op.convert 9 26 (Operand.tmp 31), type := 26, pos := "ref.go:85", after := #[{ on := 6, ground := Ground.data }], guard := none }) rfl (fun K hK => ?_) AllReadyH.nil)
            rw [if_pos (by rfl)]
            refine wp_valE (exec_conv 9 26 (.tmp 31) rfl (.string T) (.slice (some ⟨wr.heap.size + 1, 0, none⟩) ln capn) rfl HCV.out) ?_
            refine hK.out _ _ (HK2.out.ofNo) (fun hh => ?_)
            clear hK K hHeld
            have hHeld := hh
            clear hh
            try simp only [Act.put, List.setIfInBounds_toArray, List.set_cons_zero, List.set_cons_succ]
            refine wpAnyH_ready (rs := [8]) (by kernel_rfl) (by simp) ?_
            refine (AllReadyH.cons (o := { dst := some 33, op := Op.call { callee := Callee.value (Operand.func 42), args := #[Operand.tmp 32], argTypes := #[26] }, type := 86, pos := "ref.go:85", after := #[{ on := 7, ground := Ground.data }], guard := none }) rfl (fun K hK => ?_) AllReadyH.nil)
            go_simp
            refine (rbytes_any _ _ _ _).mono ?_
            rintro e' w3 ⟨rfl, kb⟩
            have HK3 : Hid (Kp No W1 w3) := HK2.out.andNone kb
            have HK23 : Hid (Kp No W2 w3) := kb
            clear kb
            go_wp2_with fail
            refine hK.out _ _ (HK3.out.ofNo) (fun hh => ?_)
            clear hK K hHeld
            have hHeld := hh
            clear hh
            try simp only [Act.put, List.setIfInBounds_toArray, List.set_cons_zero, List.set_cons_succ]
            refine wpAnyH_ready (rs := [15]) (by kernel_rfl) (by simp) ?_
            refine (AllReadyH.cons (o := { dst := some 40, op := Op.call { callee := Callee.value (Operand.func 42), args := #[Operand.tmp 39], argTypes := #[26] }, type := 86, pos := "ref.go:85", after := #[{ on := 14, ground := Ground.data }, { on := 8, ground := Ground.chain }], guard := none }) rfl (fun K hK => ?_) AllReadyH.nil)
            go_simp
            refine (rbytes_any _ _ _ _).mono ?_
            rintro e' w4 ⟨rfl, kb⟩
            have HK4 : Hid (Kp No W1 w4) := HK3.out.andNone kb
            have HK24 : Hid (Kp No W2 w4) := HK23.out.andNone kb
            have HK3I : Hid (KSlS (fun x => x < w.heap.size ∨ (W1.heap.size ≤ x ∧ x < w4.heap.size + 1)) (w4.alloc (.cells #[.int .i64 2, .int .u64 0, .slice (some ⟨wr.heap.size + 1, 0, none⟩) ln capn, .slice none 0 0, .int .i64 1, .int .u64 1, .slice none 0 0, .slice none 0 0, .int .i64 2, .int .u64 0, .slice (some ⟨g, o + k * 34 + 2, none⟩) 32 32, .slice none 0 0] 86)) (RepS (fun x => x < w.heap.size ∨ (W1.heap.size ≤ x ∧ x < w4.heap.size + 1)) (w4.alloc (.cells #[.int .i64 2, .int .u64 0, .slice (some ⟨wr.heap.size + 1, 0, none⟩) ln capn, .slice none 0 0, .int .i64 1, .int .u64 1, .slice none 0 0, .slice none 0 0, .int .i64 2, .int .u64 0, .slice (some ⟨g, o + k * 34 + 2, none⟩) 32 32, .slice none 0 0] 86)) 1) (.slice (some ⟨w4.heap.size, 0, none⟩) 3 3) [(Tr.mk 2 0 nm [] : Tr 1), Tr.mk 1 1 [] [], Tr.mk 2 0 hs []]) := by
              have hz1 := HZ1.out
              have hw4 := HK4.out.size
              have hww := HKW.out.size
              have hW2 := HK24.out.size
              refine threeInS (P := fun x => x < w.heap.size ∨ (W1.heap.size ≤ x ∧ x < w4.heap.size)) nm hs 1 _ _ (by omega) ?_ ?_ (fun x hx => by rcases hx with hx | hx <;> omega) (fun x hx => by omega) _ _ rfl
              · refine bySlS_lift HCY.out.toS (fun x hx => HK24.out.block x hx.2 (fun y => y)) (fun x hx => .inr ?_)
                have h1 := hx.1
                have h2 := hx.2
                omega
              · exact hashS ⟨HEO.out.2.1, HEO.out.2.2⟩ (.inl HGW.out) (HRG.out w4 (HKW.out.trans ((HK1.out.andNone HK4.out).toBelow'.mono HKW.out.size))).2.2
            clear kb
            go_wp2_with fail
            refine hK.out _ _ (HK4.out.ofNo) (fun hh => ?_)
            clear hK K hHeld
            have hHeld := hh
            clear hh
            try simp only [Act.put, List.setIfInBounds_toArray, List.set_cons_zero, List.set_cons_succ]
            refine wpAnyH_ready (rs := [16]) (by kernel_rfl) (by simp) ?_
            refine (AllReadyH.cons (o := { dst := some 41, op := Op.buildSlice 84 3 #[(0, Operand.tmp 33), (1, Operand.tmp 34), (2, Operand.tmp 40)], type := 84, pos := "ref.go:85", after := #[{ on := 8, ground := Ground.data }, { on := 9, ground := Ground.data }, { on := 15, ground := Ground.data }], guard := none }) rfl (fun K hK => ?_) AllReadyH.nil)
            rw [if_pos (by rfl)]
            refine wp_valE (exec_slice3 84 _ _ _ rfl (.agg #[.int .i64 2, .int .u64 0, .slice (some ⟨wr.heap.size + 1, 0, none⟩) ln capn, .slice none 0 0]) (.agg #[.int .i64 1, .int .u64 1, .slice none 0 0, .slice none 0 0]) (.agg #[.int .i64 2, .int .u64 0, .slice (some ⟨g, o + k * 34 + 2, none⟩) 32 32, .slice none 0 0]) _ rfl rfl rfl (run_threeRV _ _ _ _ _ _ _ _ _ _ _ _ _)) ?_
            refine hK.out _ _ ((HK4.out.alloc _).ofNo) (fun hh => ?_)
            clear hK K hHeld
            have hHeld := hh
            clear hh
            try simp only [Act.put, List.setIfInBounds_toArray, List.set_cons_zero, List.set_cons_succ]
            refine wpAnyH_ready (rs := [17]) (by kernel_rfl) (by simp) ?_
            refine (AllReadyH.cons (o := { dst := some 42, op := Op.call { callee := Callee.value (Operand.func 41), args := #[Operand.tmp 41], argTypes := #[84] }, type := 86, pos := "ref.go:85", after := #[{ on := 16, ground := Ground.data }, { on := 15, ground := Ground.chain }], guard := none }) rfl (fun K hK => ?_) AllReadyH.nil)
            go_simp
            refine (rlist_any _ _ _ _).mono ?_
            rintro e' w5 ⟨rfl, kl⟩
            have HK5 : Hid (Kp No W1 w5) := (HK4.out.alloc _).andNone kl
            have hr2 : RepS (fun x => x < w.heap.size ∨ (W1.heap.size ≤ x ∧ x < w5.heap.size)) w5 2 (entT (nm, true, hs)) (.slice none 0 0) (.slice (some ⟨w4.heap.size, 0, none⟩) 3 3) := by
              have hks := kl.size
              simp at hks
              have hww := HKW.out.size
              have h4 := HK4.out.size
              have hz1 := HZ1.out
              refine repS_list (kslS_lift HK3I.out (fun x hx => kl.block x (by simp; omega) (fun y => y)) (fun x hx => by omega))
            obtain ⟨g', cap, w6, hap, k3, kf, ks, hvi, hkp⟩ := HS.out.step HLK.out (Nat.le_refl _) (fun x hx => by omega) HK1.out HK5.out hr2 (by have := HZ1.out; omega) (by omega) 84
            simp only [show (entT (nm, true, hs)).hd.1 = 3 from rfl, show (entT (nm, true, hs)).hd.2.1 = 0 from rfl] at hap
            rw [HDK.out] at hvi
            have HAP := hid hap
            have HVI := hid hvi
            have HKP := hid hkp
            clear hap hvi hkp hr2 kl
            go_wp2_with fail
            refine hK.out _ _ (HK5.out.ofNo) (fun hh => ?_)
            clear hK K hHeld
            have hHeld := hh
            clear hh
            try simp only [Act.put, List.setIfInBounds_toArray, List.set_cons_zero, List.set_cons_succ]
            refine wpAnyH_ready (rs := [18]) (by kernel_rfl) (by simp) ?_
            refine (AllReadyH.cons (o := { dst := some 43, op := Op.buildSlice 84 1 #[(0, Operand.tmp 42)], type := 84, pos := "ref.go:85", after := #[{ on := 17, ground := Ground.data }], guard := none }) rfl (fun K hK => ?_) AllReadyH.nil)
            rw [if_pos (by rfl)]
            refine wp_valE (exec_sliceE 84 _ rfl (.agg #[.int .i64 3, .int .u64 0, .slice none 0 0, .slice (some ⟨w4.heap.size, 0, none⟩) 3 3]) _ rfl (run_oneRV _ _ _ _ _)) ?_
            refine hK.out _ _ ((HK5.out.alloc _).ofNo) (fun hh => ?_)
            clear hK K hHeld
            have hHeld := hh
            clear hh
            try simp only [Act.put, List.setIfInBounds_toArray, List.set_cons_zero, List.set_cons_succ]
            refine wpAnyH_ready (rs := [19]) (by kernel_rfl) (by simp) ?_
            refine (AllReadyH.cons (o := { dst := some 44, op := Op.call { callee := Callee.builtin Builtin.append, args := #[Operand.tmp 26, Operand.tmp 43], argTypes := #[84, 84] }, type := 84, pos := "ref.go:85", after := #[{ on := 1, ground := Ground.data }, { on := 18, ground := Ground.data }, { on := 17, ground := Ground.chain }], guard := none }) rfl (fun K hK => ?_) AllReadyH.nil)
            rw [if_pos (by rfl)]
            refine wp_valE (exec_appE _ _ 84 rfl (.slice av k cv) (.slice (some ⟨w5.heap.size, 0, none⟩) 1 1) _ rfl rfl HAP.out) ?_
            refine hK.out _ _ (HKP.out) (fun hh => ?_)
            clear hK K hHeld
            have hHeld := hh
            clear hh
            try simp only [Act.put, List.setIfInBounds_toArray, List.set_cons_zero, List.set_cons_succ]
            refine wpAnyH_take (i := 20) (oi := { dst := some 45, op := Op.fieldAddr 86 (Operand.tmp 4) 3, type := 0, pos := "ref.go:85", after := #[{ on := 0, ground := Ground.phase }, { on := 1, ground := Ground.phase }, { on := 2, ground := Ground.phase }, { on := 3, ground := Ground.phase }, { on := 4, ground := Ground.phase }, { on := 5, ground := Ground.phase }, { on := 6, ground := Ground.phase }, { on := 7, ground := Ground.phase }, { on := 8, ground := Ground.phase }, { on := 9, ground := Ground.phase }, { on := 10, ground := Ground.phase }, { on := 11, ground := Ground.phase }, { on := 12, ground := Ground.phase }, { on := 13, ground := Ground.phase }, { on := 14, ground := Ground.phase }, { on := 15, ground := Ground.phase }, { on := 16, ground := Ground.phase }, { on := 17, ground := Ground.phase }, { on := 18, ground := Ground.phase }, { on := 19, ground := Ground.phase }], guard := none }) (v := .pointer (some ⟨w2.heap.size, 3, none⟩)) rfl (by kernel_rfl) (by kernel_rfl) (by kernel_rfl) (fun _ _ _ h => h) (Or.inl ⟨by rfl, fun w' hw' => by (clear hw'; go_simp)⟩) hHeld ?_
            simp only [Act.put, List.setIfInBounds_toArray, List.set_cons_zero, List.set_cons_succ]
            refine wpAnyH_ready (rs := [21]) (by kernel_rfl) (by simp) ?_
            refine (AllReadyH.cons (o := { dst := none, op := Op.store 84 (Operand.tmp 45) (Operand.tmp 44), type := 0, pos := "ref.go:85", after := #[{ on := 20, ground := Ground.data }, { on := 19, ground := Ground.data }, { on := 19, ground := Ground.chain }, { on := 0, ground := Ground.phase }, { on := 1, ground := Ground.phase }, { on := 2, ground := Ground.phase }, { on := 3, ground := Ground.phase }, { on := 4, ground := Ground.phase }, { on := 5, ground := Ground.phase }, { on := 6, ground := Ground.phase }, { on := 7, ground := Ground.phase }, { on := 8, ground := Ground.phase }, { on := 9, ground := Ground.phase }, { on := 10, ground := Ground.phase }, { on := 11, ground := Ground.phase }, { on := 12, ground := Ground.phase }, { on := 13, ground := Ground.phase }, { on := 14, ground := Ground.phase }, { on := 15, ground := Ground.phase }, { on := 16, ground := Ground.phase }, { on := 17, ground := Ground.phase }, { on := 18, ground := Ground.phase }, { on := 19, ground := Ground.phase }], guard := none }) rfl (fun K hK => ?_) AllReadyH.nil)
            go_simp
            refine hK.out _ _ (HKP.out.setCell (p := ⟨w2.heap.size, 3, none⟩) (.inl (.inl rfl)) _) (fun hh => ?_)
            clear hK K hHeld
            have hHeld := hh
            clear hh
            try simp only [Act.put, List.setIfInBounds_toArray, List.set_cons_zero, List.set_cons_succ]
            refine wpAnyH_done (by kernel_rfl) ?_ _
            clear hHeld
            go_wp2_with fail
            go_round
            case rel => exact ⟨k + 1, some ⟨g', 0, none⟩, cap, by first | rfl | go_num, by omega, HVI.out⟩
            case measure => simp [intOf]; omega
          · rw [if_pos (by rfl)]
            refine wp_valE (exec_conv 9 26 (.tmp 31) rfl (.string T) (.slice (some ⟨wr.heap.size + 1, 0, none⟩) ln capn) rfl HCV.out) ?_
            refine hK.out _ _ (HK2.out.ofNo) (fun hh => ?_)
            clear hK K hHeld
            have hHeld := hh
            clear hh
            try simp only [Act.put, List.setIfInBounds_toArray, List.set_cons_zero, List.set_cons_succ]
            refine wpAnyH_ready (rs := [1, 8]) (by kernel_rfl) (by simp) ?_
            refine (AllReadyH.cons (o := { dst := some 26, op := Op.load 84 (Operand.tmp 25), type := 84, pos := "ref.go:85", after := #[{ on := 0, ground := Ground.data }], guard := none }) rfl (fun K hK => ?_) (AllReadyH.cons (o := { dst := some 33, op := Op.call { callee := Callee.value (Operand.func 42), args := #[Operand.tmp 32], argTypes := #[26] }, type := 86, pos := "ref.go:85", after := #[{ on := 7, ground := Ground.data }], guard := none }) rfl (fun K hK => ?_) AllReadyH.nil))
            · have q3 := c3 W2 (HK2.out)
              go_simp
              refine hK.out _ _ (HK2.out.ofNo) (fun hh => ?_)
              clear hK K hHeld
              have hHeld := hh
              clear hh
              try simp only [Act.put, List.setIfInBounds_toArray, List.set_cons_zero, List.set_cons_succ]
              refine wpAnyH_ready (rs := [8]) (by kernel_rfl) (by simp) ?_
              refine (AllReadyH.cons (o := { dst := some 33, op := Op.call { callee := Callee.value (Operand.func 42), args := #[Operand.tmp 32], argTypes := #[26] }, type := 86, pos := "ref.go:85", after := #[{ on := 7, ground := Ground.data }], guard := none }) rfl (fun K hK => ?_) AllReadyH.nil)
              go_simp
              refine (rbytes_any _ _ _ _).mono ?_
              rintro e' w3 ⟨rfl, kb⟩
              have HK3 : Hid (Kp No W1 w3) := HK2.out.andNone kb
              have HK23 : Hid (Kp No W2 w3) := kb
              clear kb
              go_wp2_with fail
              refine hK.out _ _ (HK3.out.ofNo) (fun hh => ?_)
              clear hK K hHeld
              have hHeld := hh
              clear hh
              try simp only [Act.put, List.setIfInBounds_toArray, List.set_cons_zero, List.set_cons_succ]
              refine wpAnyH_ready (rs := [15]) (by kernel_rfl) (by simp) ?_
              refine (AllReadyH.cons (o := { dst := some 40, op := Op.call { callee := Callee.value (Operand.func 42), args := #[Operand.tmp 39], argTypes := #[26] }, type := 86, pos := "ref.go:85", after := #[{ on := 14, ground := Ground.data }, { on := 8, ground := Ground.chain }], guard := none }) rfl (fun K hK => ?_) AllReadyH.nil)
              go_simp
              refine (rbytes_any _ _ _ _).mono ?_
              rintro e' w4 ⟨rfl, kb⟩
              have HK4 : Hid (Kp No W1 w4) := HK3.out.andNone kb
              have HK24 : Hid (Kp No W2 w4) := HK23.out.andNone kb
              have HK3I : Hid (KSlS (fun x => x < w.heap.size ∨ (W1.heap.size ≤ x ∧ x < w4.heap.size + 1)) (w4.alloc (.cells #[.int .i64 2, .int .u64 0, .slice (some ⟨wr.heap.size + 1, 0, none⟩) ln capn, .slice none 0 0, .int .i64 1, .int .u64 1, .slice none 0 0, .slice none 0 0, .int .i64 2, .int .u64 0, .slice (some ⟨g, o + k * 34 + 2, none⟩) 32 32, .slice none 0 0] 86)) (RepS (fun x => x < w.heap.size ∨ (W1.heap.size ≤ x ∧ x < w4.heap.size + 1)) (w4.alloc (.cells #[.int .i64 2, .int .u64 0, .slice (some ⟨wr.heap.size + 1, 0, none⟩) ln capn, .slice none 0 0, .int .i64 1, .int .u64 1, .slice none 0 0, .slice none 0 0, .int .i64 2, .int .u64 0, .slice (some ⟨g, o + k * 34 + 2, none⟩) 32 32, .slice none 0 0] 86)) 1) (.slice (some ⟨w4.heap.size, 0, none⟩) 3 3) [(Tr.mk 2 0 nm [] : Tr 1), Tr.mk 1 1 [] [], Tr.mk 2 0 hs []]) := by
                have hz1 := HZ1.out
                have hw4 := HK4.out.size
                have hww := HKW.out.size
                have hW2 := HK24.out.size
                refine threeInS (P := fun x => x < w.heap.size ∨ (W1.heap.size ≤ x ∧ x < w4.heap.size)) nm hs 1 _ _ (by omega) ?_ ?_ (fun x hx => by rcases hx with hx | hx <;> omega) (fun x hx => by omega) _ _ rfl
                · refine bySlS_lift HCY.out.toS (fun x hx => HK24.out.block x hx.2 (fun y => y)) (fun x hx => .inr ?_)
                  have h1 := hx.1
                  have h2 := hx.2
                  omega
                · exact hashS ⟨HEO.out.2.1, HEO.out.2.2⟩ (.inl HGW.out) (HRG.out w4 (HKW.out.trans ((HK1.out.andNone HK4.out).toBelow'.mono HKW.out.size))).2.2
              clear kb
              go_wp2_with fail
              refine hK.out _ _ (HK4.out.ofNo) (fun hh => ?_)
              clear hK K hHeld
              have hHeld := hh
              clear hh
              try simp only [Act.put, List.setIfInBounds_toArray, List.set_cons_zero, List.set_cons_succ]
              refine wpAnyH_ready (rs := [16]) (by kernel_rfl) (by simp) ?_
              refine (AllReadyH.cons (o := { dst := some 41, op := Op.buildSlice 84 3 #[(0, Operand.tmp 33), (1, Operand.tmp 34), (2, Operand.tmp 40)], type := 84, pos := "ref.go:85", after := #[{ on := 8, ground := Ground.data }, { on := 9, ground := Ground.data }, { on := 15, ground := Ground.data }], guard := none }) rfl (fun K hK => ?_) AllReadyH.nil)
              rw [if_pos (by rfl)]
              refine wp_valE (exec_slice3 84 _ _ _ rfl (.agg #[.int .i64 2, .int .u64 0, .slice (some ⟨wr.heap.size + 1, 0, none⟩) ln capn, .slice none 0 0]) (.agg #[.int .i64 1, .int .u64 1, .slice none 0 0, .slice none 0 0]) (.agg #[.int .i64 2, .int .u64 0, .slice (some ⟨g, o + k * 34 + 2, none⟩) 32 32, .slice none 0 0]) _ rfl rfl rfl (run_threeRV _ _ _ _ _ _ _ _ _ _ _ _ _)) ?_
              refine hK.out _ _ ((HK4.out.alloc _).ofNo) (fun hh => ?_)
              clear hK K hHeld
              have hHeld := hh
              clear hh
              try simp only [Act.put, List.setIfInBounds_toArray, List.set_cons_zero, List.set_cons_succ]
              refine wpAnyH_ready (rs := [17]) (by kernel_rfl) (by simp) ?_
              refine (AllReadyH.cons (o := { dst := some 42, op := Op.call { callee := Callee.value (Operand.func 41), args := #[Operand.tmp 41], argTypes := #[84] }, type := 86, pos := "ref.go:85", after := #[{ on := 16, ground := Ground.data }, { on := 15, ground := Ground.chain }], guard := none }) rfl (fun K hK => ?_) AllReadyH.nil)
              go_simp
              refine (rlist_any _ _ _ _).mono ?_
              rintro e' w5 ⟨rfl, kl⟩
              have HK5 : Hid (Kp No W1 w5) := (HK4.out.alloc _).andNone kl
              have hr2 : RepS (fun x => x < w.heap.size ∨ (W1.heap.size ≤ x ∧ x < w5.heap.size)) w5 2 (entT (nm, true, hs)) (.slice none 0 0) (.slice (some ⟨w4.heap.size, 0, none⟩) 3 3) := by
                have hks := kl.size
                simp at hks
                have hww := HKW.out.size
                have h4 := HK4.out.size
                have hz1 := HZ1.out
                refine repS_list (kslS_lift HK3I.out (fun x hx => kl.block x (by simp; omega) (fun y => y)) (fun x hx => by omega))
              obtain ⟨g', cap, w6, hap, k3, kf, ks, hvi, hkp⟩ := HS.out.step HLK.out (Nat.le_refl _) (fun x hx => by omega) HK1.out HK5.out hr2 (by have := HZ1.out; omega) (by omega) 84
              simp only [show (entT (nm, true, hs)).hd.1 = 3 from rfl, show (entT (nm, true, hs)).hd.2.1 = 0 from rfl] at hap
              rw [HDK.out] at hvi
              have HAP := hid hap
              have HVI := hid hvi
              have HKP := hid hkp
              clear hap hvi hkp hr2 kl
              go_wp2_with fail
              refine hK.out _ _ (HK5.out.ofNo) (fun hh => ?_)
              clear hK K hHeld
              have hHeld := hh
              clear hh
              try simp only [Act.put, List.setIfInBounds_toArray, List.set_cons_zero, List.set_cons_succ]
              refine wpAnyH_ready (rs := [18]) (by kernel_rfl) (by simp) ?_
              refine (AllReadyH.cons (o := { dst := some 43, op := Op.buildSlice 84 1 #[(0, Operand.tmp 42)], type := 84, pos := "ref.go:85", after := #[{ on := 17, ground := Ground.data }], guard := none }) rfl (fun K hK => ?_) AllReadyH.nil)
              rw [if_pos (by rfl)]
              refine wp_valE (exec_sliceE 84 _ rfl (.agg #[.int .i64 3, .int .u64 0, .slice none 0 0, .slice (some ⟨w4.heap.size, 0, none⟩) 3 3]) _ rfl (run_oneRV _ _ _ _ _)) ?_
              refine hK.out _ _ ((HK5.out.alloc _).ofNo) (fun hh => ?_)
              clear hK K hHeld
              have hHeld := hh
              clear hh
              try simp only [Act.put, List.setIfInBounds_toArray, List.set_cons_zero, List.set_cons_succ]
              refine wpAnyH_ready (rs := [19]) (by kernel_rfl) (by simp) ?_
              refine (AllReadyH.cons (o := { dst := some 44, op := Op.call { callee := Callee.builtin Builtin.append, args := #[Operand.tmp 26, Operand.tmp 43], argTypes := #[84, 84] }, type := 84, pos := "ref.go:85", after := #[{ on := 1, ground := Ground.data }, { on := 18, ground := Ground.data }, { on := 17, ground := Ground.chain }], guard := none }) rfl (fun K hK => ?_) AllReadyH.nil)
              rw [if_pos (by rfl)]
              refine wp_valE (exec_appE _ _ 84 rfl (.slice av k cv) (.slice (some ⟨w5.heap.size, 0, none⟩) 1 1) _ rfl rfl HAP.out) ?_
              refine hK.out _ _ (HKP.out) (fun hh => ?_)
              clear hK K hHeld
              have hHeld := hh
              clear hh
              try simp only [Act.put, List.setIfInBounds_toArray, List.set_cons_zero, List.set_cons_succ]
              refine wpAnyH_take (i := 20) (oi := { dst := some 45, op := Op.fieldAddr 86 (Operand.tmp 4) 3, type := 0, pos := "ref.go:85", after := #[{ on := 0, ground := Ground.phase }, { on := 1, ground := Ground.phase }, { on := 2, ground := Ground.phase }, { on := 3, ground := Ground.phase }, { on := 4, ground := Ground.phase }, { on := 5, ground := Ground.phase }, { on := 6, ground := Ground.phase }, { on := 7, ground := Ground.phase }, { on := 8, ground := Ground.phase }, { on := 9, ground := Ground.phase }, { on := 10, ground := Ground.phase }, { on := 11, ground := Ground.phase }, { on := 12, ground := Ground.phase }, { on := 13, ground := Ground.phase }, { on := 14, ground := Ground.phase }, { on := 15, ground := Ground.phase }, { on := 16, ground := Ground.phase }, { on := 17, ground := Ground.phase }, { on := 18, ground := Ground.phase }, { on := 19, ground := Ground.phase }], guard := none }) (v := .pointer (some ⟨w2.heap.size, 3, none⟩)) rfl (by kernel_rfl) (by kernel_rfl) (by kernel_rfl) (fun _ _ _ h => h) (Or.inl ⟨by rfl, fun w' hw' => by (clear hw'; go_simp)⟩) hHeld ?_
              simp only [Act.put, List.setIfInBounds_toArray, List.set_cons_zero, List.set_cons_succ]
              refine wpAnyH_ready (rs := [21]) (by kernel_rfl) (by simp) ?_
              refine (AllReadyH.cons (o := { dst := none, op := Op.store 84 (Operand.tmp 45) (Operand.tmp 44), type := 0, pos := "ref.go:85", after := #[{ on := 20, ground := Ground.data }, { on := 19, ground := Ground.data }, { on := 19, ground := Ground.chain }, { on := 0, ground := Ground.phase }, { on := 1, ground := Ground.phase }, { on := 2, ground := Ground.phase }, { on := 3, ground := Ground.phase }, { on := 4, ground := Ground.phase }, { on := 5, ground := Ground.phase }, { on := 6, ground := Ground.phase }, { on := 7, ground := Ground.phase }, { on := 8, ground := Ground.phase }, { on := 9, ground := Ground.phase }, { on := 10, ground := Ground.phase }, { on := 11, ground := Ground.phase }, { on := 12, ground := Ground.phase }, { on := 13, ground := Ground.phase }, { on := 14, ground := Ground.phase }, { on := 15, ground := Ground.phase }, { on := 16, ground := Ground.phase }, { on := 17, ground := Ground.phase }, { on := 18, ground := Ground.phase }, { on := 19, ground := Ground.phase }], guard := none }) rfl (fun K hK => ?_) AllReadyH.nil)
              go_simp
              refine hK.out _ _ (HKP.out.setCell (p := ⟨w2.heap.size, 3, none⟩) (.inl (.inl rfl)) _) (fun hh => ?_)
              clear hK K hHeld
              have hHeld := hh
              clear hh
              try simp only [Act.put, List.setIfInBounds_toArray, List.set_cons_zero, List.set_cons_succ]
              refine wpAnyH_done (by kernel_rfl) ?_ _
              clear hHeld
              go_wp2_with fail
              go_round
              case rel => exact ⟨k + 1, some ⟨g', 0, none⟩, cap, by first | rfl | go_num, by omega, HVI.out⟩
              case measure => simp [intOf]; omega
            · go_simp
              refine (rbytes_any _ _ _ _).mono ?_
              rintro e' w3 ⟨rfl, kb⟩
              have HK3 : Hid (Kp No W1 w3) := HK2.out.andNone kb
              have HK23 : Hid (Kp No W2 w3) := kb
              clear kb
              go_wp2_with fail
              refine hK.out _ _ (HK3.out.ofNo) (fun hh => ?_)
              clear hK K hHeld
              have hHeld := hh
              clear hh
              try simp only [Act.put, List.setIfInBounds_toArray, List.set_cons_zero, List.set_cons_succ]
              refine wpAnyH_ready (rs := [1, 15]) (by kernel_rfl) (by simp) ?_
              refine (AllReadyH.cons (o := { dst := some 26, op := Op.load 84 (Operand.tmp 25), type := 84, pos := "ref.go:85", after := #[{ on := 0, ground := Ground.data }], guard := none }) rfl (fun K hK => ?_) (AllReadyH.cons (o := { dst := some 40, op := Op.call { callee := Callee.value (Operand.func 42), args := #[Operand.tmp 39], argTypes := #[26] }, type := 86, pos := "ref.go:85", after := #[{ on := 14, ground := Ground.data }, { on := 8, ground := Ground.chain }], guard := none }) rfl (fun K hK => ?_) AllReadyH.nil))
              · have q3 := c3 w3 (HK3.out)
                go_simp
                refine hK.out _ _ (HK3.out.ofNo) (fun hh => ?_)
                clear hK K hHeld
                have hHeld := hh
                clear hh
                try simp only [Act.put, List.setIfInBounds_toArray, List.set_cons_zero, List.set_cons_succ]
                refine wpAnyH_ready (rs := [15]) (by kernel_rfl) (by simp) ?_
                refine (AllReadyH.cons (o := { dst := some 40, op := Op.call { callee := Callee.value (Operand.func 42), args := #[Operand.tmp 39], argTypes := #[26] }, type := 86, pos := "ref.go:85", after := #[{ on := 14, ground := Ground.data }, { on := 8, ground := Ground.chain }], guard := none }) rfl (fun K hK => ?_) AllReadyH.nil)
                go_simp
                refine (rbytes_any _ _ _ _).mono ?_
                rintro e' w4 ⟨rfl, kb⟩
                have HK4 : Hid (Kp No W1 w4) := HK3.out.andNone kb
                have HK24 : Hid (Kp No W2 w4) := HK23.out.andNone kb
                have HK3I : Hid (KSlS (fun x => x < w.heap.size ∨ (W1.heap.size ≤ x ∧ x < w4.heap.size + 1)) (w4.alloc (.cells #[.int .i64 2, .int .u64 0, .slice (some ⟨wr.heap.size + 1, 0, none⟩) ln capn, .slice none 0 0, .int .i64 1, .int .u64 1, .slice none 0 0, .slice none 0 0, .int .i64 2, .int .u64 0, .slice (some ⟨g, o + k * 34 + 2, none⟩) 32 32, .slice none 0 0] 86)) (RepS (fun x => x < w.heap.size ∨ (W1.heap.size ≤ x ∧ x < w4.heap.size + 1)) (w4.alloc (.cells #[.int .i64 2, .int .u64 0, .slice (some ⟨wr.heap.size + 1, 0, none⟩) ln capn, .slice none 0 0, .int .i64 1, .int .u64 1, .slice none 0 0, .slice none 0 0, .int .i64 2, .int .u64 0, .slice (some ⟨g, o + k * 34 + 2, none⟩) 32 32, .slice none 0 0] 86)) 1) (.slice (some ⟨w4.heap.size, 0, none⟩) 3 3) [(Tr.mk 2 0 nm [] : Tr 1), Tr.mk 1 1 [] [], Tr.mk 2 0 hs []]) := by
                  have hz1 := HZ1.out
                  have hw4 := HK4.out.size
                  have hww := HKW.out.size
                  have hW2 := HK24.out.size
                  refine threeInS (P := fun x => x < w.heap.size ∨ (W1.heap.size ≤ x ∧ x < w4.heap.size)) nm hs 1 _ _ (by omega) ?_ ?_ (fun x hx => by rcases hx with hx | hx <;> omega) (fun x hx => by omega) _ _ rfl
                  · refine bySlS_lift HCY.out.toS (fun x hx => HK24.out.block x hx.2 (fun y => y)) (fun x hx => .inr ?_)
                    have h1 := hx.1
                    have h2 := hx.2
                    omega
                  · exact hashS ⟨HEO.out.2.1, HEO.out.2.2⟩ (.inl HGW.out) (HRG.out w4 (HKW.out.trans ((HK1.out.andNone HK4.out).toBelow'.mono HKW.out.size))).2.2
                clear kb
                go_wp2_with fail
                refine hK.out _ _ (HK4.out.ofNo) (fun hh => ?_)
                clear hK K hHeld
                have hHeld := hh
                clear hh
                try simp only [Act.put, List.setIfInBounds_toArray, List.set_cons_zero, List.set_cons_succ]
                refine wpAnyH_ready (rs := [16]) (by kernel_rfl) (by simp) ?_
                refine (AllReadyH.cons (o := { dst := some 41, op := Op.buildSlice 84 3 #[(0, Operand.tmp 33), (1, Operand.tmp 34), (2, Operand.tmp 40)], type := 84, pos := "ref.go:85", after := #[{ on := 8, ground := Ground.data }, { on := 9, ground := Ground.data }, { on := 15, ground := Ground.data }], guard := none }) rfl (fun K hK => ?_) AllReadyH.nil)
                rw [if_pos (by rfl)]
                refine wp_valE (exec_slice3 84 _ _ _ rfl (.agg #[.int .i64 2, .int .u64 0, .slice (some ⟨wr.heap.size + 1, 0, none⟩) ln capn, .slice none 0 0]) (.agg #[.int .i64 1, .int .u64 1, .slice none 0 0, .slice none 0 0]) (.agg #[.int .i64 2, .int .u64 0, .slice (some ⟨g, o + k * 34 + 2, none⟩) 32 32, .slice none 0 0]) _ rfl rfl rfl (run_threeRV _ _ _ _ _ _ _ _ _ _ _ _ _)) ?_
                refine hK.out _ _ ((HK4.out.alloc _).ofNo) (fun hh => ?_)
                clear hK K hHeld
                have hHeld := hh
                clear hh
                try simp only [Act.put, List.setIfInBounds_toArray, List.set_cons_zero, List.set_cons_succ]
                refine wpAnyH_ready (rs := [17]) (by kernel_rfl) (by simp) ?_
                refine (AllReadyH.cons (o := { dst := some 42, op := Op.call { callee := Callee.value (Operand.func 41), args := #[Operand.tmp 41], argTypes := #[84] }, type := 86, pos := "ref.go:85", after := #[{ on := 16, ground := Ground.data }, { on := 15, ground := Ground.chain }], guard := none }) rfl (fun K hK => ?_) AllReadyH.nil)
                go_simp
                refine (rlist_any _ _ _ _).mono ?_
                rintro e' w5 ⟨rfl, kl⟩
                have HK5 : Hid (Kp No W1 w5) := (HK4.out.alloc _).andNone kl
                have hr2 : RepS (fun x => x < w.heap.size ∨ (W1.heap.size ≤ x ∧ x < w5.heap.size)) w5 2 (entT (nm, true, hs)) (.slice none 0 0) (.slice (some ⟨w4.heap.size, 0, none⟩) 3 3) := by
                  have hks := kl.size
                  simp at hks
                  have hww := HKW.out.size
                  have h4 := HK4.out.size
                  have hz1 := HZ1.out
                  refine repS_list (kslS_lift HK3I.out (fun x hx => kl.block x (by simp; omega) (fun y => y)) (fun x hx => by omega))
                obtain ⟨g', cap, w6, hap, k3, kf, ks, hvi, hkp⟩ := HS.out.step HLK.out (Nat.le_refl _) (fun x hx => by omega) HK1.out HK5.out hr2 (by have := HZ1.out; omega) (by omega) 84
                simp only [show (entT (nm, true, hs)).hd.1 = 3 from rfl, show (entT (nm, true, hs)).hd.2.1 = 0 from rfl] at hap
                rw [HDK.out] at hvi
                have HAP := hid hap
                have HVI := hid hvi
                have HKP := hid hkp
                clear hap hvi hkp hr2 kl
                go_wp2_with fail
                refine hK.out _ _ (HK5.out.ofNo) (fun hh => ?_)
                clear hK K hHeld
                have hHeld := hh
                clear hh
                try simp only [Act.put, List.setIfInBounds_toArray, List.set_cons_zero, List.set_cons_succ]
                refine wpAnyH_ready (rs := [18]) (by kernel_rfl) (by simp) ?_
                refine (AllReadyH.cons (o := { dst := some 43, op := Op.buildSlice 84 1 #[(0, Operand.tmp 42)], type := 84, pos := "ref.go:85", after := #[{ on := 17, ground := Ground.data }], guard := none }) rfl (fun K hK => ?_) AllReadyH.nil)
                rw [if_pos (by rfl)]
                refine wp_valE (exec_sliceE 84 _ rfl (.agg #[.int .i64 3, .int .u64 0, .slice none 0 0, .slice (some ⟨w4.heap.size, 0, none⟩) 3 3]) _ rfl (run_oneRV _ _ _ _ _)) ?_
                refine hK.out _ _ ((HK5.out.alloc _).ofNo) (fun hh => ?_)
                clear hK K hHeld
                have hHeld := hh
                clear hh
                try simp only [Act.put, List.setIfInBounds_toArray, List.set_cons_zero, List.set_cons_succ]
                refine wpAnyH_ready (rs := [19]) (by kernel_rfl) (by simp) ?_
                refine (AllReadyH.cons (o := { dst := some 44, op := Op.call { callee := Callee.builtin Builtin.append, args := #[Operand.tmp 26, Operand.tmp 43], argTypes := #[84, 84] }, type := 84, pos := "ref.go:85", after := #[{ on := 1, ground := Ground.data }, { on := 18, ground := Ground.data }, { on := 17, ground := Ground.chain }], guard := none }) rfl (fun K hK => ?_) AllReadyH.nil)
                rw [if_pos (by rfl)]
                refine wp_valE (exec_appE _ _ 84 rfl (.slice av k cv) (.slice (some ⟨w5.heap.size, 0, none⟩) 1 1) _ rfl rfl HAP.out) ?_
                refine hK.out _ _ (HKP.out) (fun hh => ?_)
                clear hK K hHeld
                have hHeld := hh
                clear hh
                try simp only [Act.put, List.setIfInBounds_toArray, List.set_cons_zero, List.set_cons_succ]
                refine wpAnyH_take (i := 20) (oi := { dst := some 45, op := Op.fieldAddr 86 (Operand.tmp 4) 3, type := 0, pos := "ref.go:85", after := #[{ on := 0, ground := Ground.phase }, { on := 1, ground := Ground.phase }, { on := 2, ground := Ground.phase }, { on := 3, ground := Ground.phase }, { on := 4, ground := Ground.phase }, { on := 5, ground := Ground.phase }, { on := 6, ground := Ground.phase }, { on := 7, ground := Ground.phase }, { on := 8, ground := Ground.phase }, { on := 9, ground := Ground.phase }, { on := 10, ground := Ground.phase }, { on := 11, ground := Ground.phase }, { on := 12, ground := Ground.phase }, { on := 13, ground := Ground.phase }, { on := 14, ground := Ground.phase }, { on := 15, ground := Ground.phase }, { on := 16, ground := Ground.phase }, { on := 17, ground := Ground.phase }, { on := 18, ground := Ground.phase }, { on := 19, ground := Ground.phase }], guard := none }) (v := .pointer (some ⟨w2.heap.size, 3, none⟩)) rfl (by kernel_rfl) (by kernel_rfl) (by kernel_rfl) (fun _ _ _ h => h) (Or.inl ⟨by rfl, fun w' hw' => by (clear hw'; go_simp)⟩) hHeld ?_
                simp only [Act.put, List.setIfInBounds_toArray, List.set_cons_zero, List.set_cons_succ]
                refine wpAnyH_ready (rs := [21]) (by kernel_rfl) (by simp) ?_
                refine (AllReadyH.cons (o := { dst := none, op := Op.store 84 (Operand.tmp 45) (Operand.tmp 44), type := 0, pos := "ref.go:85", after := #[{ on := 20, ground := Ground.data }, { on := 19, ground := Ground.data }, { on := 19, ground := Ground.chain }, { on := 0, ground := Ground.phase }, { on := 1, ground := Ground.phase }, { on := 2, ground := Ground.phase }, { on := 3, ground := Ground.phase }, { on := 4, ground := Ground.phase }, { on := 5, ground := Ground.phase }, { on := 6, ground := Ground.phase }, { on := 7, ground := Ground.phase }, { on := 8, ground := Ground.phase }, { on := 9, ground := Ground.phase }, { on := 10, ground := Ground.phase }, { on := 11, ground := Ground.phase }, { on := 12, ground := Ground.phase }, { on := 13, ground := Ground.phase }, { on := 14, ground := Ground.phase }, { on := 15, ground := Ground.phase }, { on := 16, ground := Ground.phase }, { on := 17, ground := Ground.phase }, { on := 18, ground := Ground.phase }, { on := 19, ground := Ground.phase }], guard := none }) rfl (fun K hK => ?_) AllReadyH.nil)
                go_simp
                refine hK.out _ _ (HKP.out.setCell (p := ⟨w2.heap.size, 3, none⟩) (.inl (.inl rfl)) _) (fun hh => ?_)
                clear hK K hHeld
                have hHeld := hh
                clear hh
                try simp only [Act.put, List.setIfInBounds_toArray, List.set_cons_zero, List.set_cons_succ]
                refine wpAnyH_done (by kernel_rfl) ?_ _
                clear hHeld
                go_wp2_with fail
                go_round
                case rel => exact ⟨k + 1, some ⟨g', 0, none⟩, cap, by first | rfl | go_num, by omega, HVI.out⟩
                case measure => simp [intOf]; omega
              · go_simp
                refine (rbytes_any _ _ _ _).mono ?_
                rintro e' w4 ⟨rfl, kb⟩
                have HK4 : Hid (Kp No W1 w4) := HK3.out.andNone kb
                have HK24 : Hid (Kp No W2 w4) := HK23.out.andNone kb
                have HK3I : Hid (KSlS (fun x => x < w.heap.size ∨ (W1.heap.size ≤ x ∧ x < w4.heap.size + 1)) (w4.alloc (.cells #[.int .i64 2, .int .u64 0, .slice (some ⟨wr.heap.size + 1, 0, none⟩) ln capn, .slice none 0 0, .int .i64 1, .int .u64 1, .slice none 0 0, .slice none 0 0, .int .i64 2, .int .u64 0, .slice (some ⟨g, o + k * 34 + 2, none⟩) 32 32, .slice none 0 0] 86)) (RepS (fun x => x < w.heap.size ∨ (W1.heap.size ≤ x ∧ x < w4.heap.size + 1)) (w4.alloc (.cells #[.int .i64 2, .int .u64 0, .slice (some ⟨wr.heap.size + 1, 0, none⟩) ln capn, .slice none 0 0, .int .i64 1, .int .u64 1, .slice none 0 0, .slice none 0 0, .int .i64 2, .int .u64 0, .slice (some ⟨g, o + k * 34 + 2, none⟩) 32 32, .slice none 0 0] 86)) 1) (.slice (some ⟨w4.heap.size, 0, none⟩) 3 3) [(Tr.mk 2 0 nm [] : Tr 1), Tr.mk 1 1 [] [], Tr.mk 2 0 hs []]) := by
                  have hz1 := HZ1.out
                  have hw4 := HK4.out.size
                  have hww := HKW.out.size
                  have hW2 := HK24.out.size
                  refine threeInS (P := fun x => x < w.heap.size ∨ (W1.heap.size ≤ x ∧ x < w4.heap.size)) nm hs 1 _ _ (by omega) ?_ ?_ (fun x hx => by rcases hx with hx | hx <;> omega) (fun x hx => by omega) _ _ rfl
                  · refine bySlS_lift HCY.out.toS (fun x hx => HK24.out.block x hx.2 (fun y => y)) (fun x hx => .inr ?_)
                    have h1 := hx.1
                    have h2 := hx.2
                    omega
                  · exact hashS ⟨HEO.out.2.1, HEO.out.2.2⟩ (.inl HGW.out) (HRG.out w4 (HKW.out.trans ((HK1.out.andNone HK4.out).toBelow'.mono HKW.out.size))).2.2
                clear kb
                go_wp2_with fail
                refine hK.out _ _ (HK4.out.ofNo) (fun hh => ?_)
                clear hK K hHeld
                have hHeld := hh
                clear hh
                try simp only [Act.put, List.setIfInBounds_toArray, List.set_cons_zero, List.set_cons_succ]
                refine wpAnyH_ready (rs := [1, 16]) (by kernel_rfl) (by simp) ?_
                refine (AllReadyH.cons (o := { dst := some 26, op := Op.load 84 (Operand.tmp 25), type := 84, pos := "ref.go:85", after := #[{ on := 0, ground := Ground.data }], guard := none }) rfl (fun K hK => ?_) (AllReadyH.cons (o := { dst := some 41, op := Op.buildSlice 84 3 #[(0, Operand.tmp 33), (1, Operand.tmp 34), (2, Operand.tmp 40)], type := 84, pos := "ref.go:85", after := #[{ on := 8, ground := Ground.data }, { on := 9, ground := Ground.data }, { on := 15, ground := Ground.data }], guard := none }) rfl (fun K hK => ?_) AllReadyH.nil))
                · have q3 := c3 w4 (HK4.out)
                  go_simp
                  refine hK.out _ _ (HK4.out.ofNo) (fun hh => ?_)
                  clear hK K hHeld
                  have hHeld := hh
                  clear hh
                  try simp only [Act.put, List.setIfInBounds_toArray, List.set_cons_zero, List.set_cons_succ]
                  refine wpAnyH_ready (rs := [16]) (by kernel_rfl) (by simp) ?_
                  refine (AllReadyH.cons (o := { dst := some 41, op := Op.buildSlice 84 3 #[(0, Operand.tmp 33), (1, Operand.tmp 34), (2, Operand.tmp 40)], type := 84, pos := "ref.go:85", after := #[{ on := 8, ground := Ground.data }, { on := 9, ground := Ground.data }, { on := 15, ground := Ground.data }], guard := none }) rfl (fun K hK => ?_) AllReadyH.nil)
                  rw [if_pos (by rfl)]
                  refine wp_valE (exec_slice3 84 _ _ _ rfl (.agg #[.int .i64 2, .int .u64 0, .slice (some ⟨wr.heap.size + 1, 0, none⟩) ln capn, .slice none 0 0]) (.agg #[.int .i64 1, .int .u64 1, .slice none 0 0, .slice none 0 0]) (.agg #[.int .i64 2, .int .u64 0, .slice (some ⟨g, o + k * 34 + 2, none⟩) 32 32, .slice none 0 0]) _ rfl rfl rfl (run_threeRV _ _ _ _ _ _ _ _ _ _ _ _ _)) ?_
                  refine hK.out _ _ ((HK4.out.alloc _).ofNo) (fun hh => ?_)
                  clear hK K hHeld
                  have hHeld := hh
                  clear hh
                  try simp only [Act.put, List.setIfInBounds_toArray, List.set_cons_zero, List.set_cons_succ]
                  refine wpAnyH_ready (rs := [17]) (by kernel_rfl) (by simp) ?_
                  refine (AllReadyH.cons (o := { dst := some 42, op := Op.call { callee := Callee.value (Operand.func 41), args := #[Operand.tmp 41], argTypes := #[84] }, type := 86, pos := "ref.go:85", after := #[{ on := 16, ground := Ground.data }, { on := 15, ground := Ground.chain }], guard := none }) rfl (fun K hK => ?_) AllReadyH.nil)
                  go_simp
                  refine (rlist_any _ _ _ _).mono ?_
                  rintro e' w5 ⟨rfl, kl⟩
                  have HK5 : Hid (Kp No W1 w5) := (HK4.out.alloc _).andNone kl
                  have hr2 : RepS (fun x => x < w.heap.size ∨ (W1.heap.size ≤ x ∧ x < w5.heap.size)) w5 2 (entT (nm, true, hs)) (.slice none 0 0) (.slice (some ⟨w4.heap.size, 0, none⟩) 3 3) := by
                    have hks := kl.size
                    simp at hks
                    have hww := HKW.out.size
                    have h4 := HK4.out.size
                    have hz1 := HZ1.out
                    refine repS_list (kslS_lift HK3I.out (fun x hx => kl.block x (by simp; omega) (fun y => y)) (fun x hx => by omega))
                  obtain ⟨g', cap, w6, hap, k3, kf, ks, hvi, hkp⟩ := HS.out.step HLK.out (Nat.le_refl _) (fun x hx => by omega) HK1.out HK5.out hr2 (by have := HZ1.out; omega) (by omega) 84
                  simp only [show (entT (nm, true, hs)).hd.1 = 3 from rfl, show (entT (nm, true, hs)).hd.2.1 = 0 from rfl] at hap
                  rw [HDK.out] at hvi
                  have HAP := hid hap
                  have HVI := hid hvi
                  have HKP := hid hkp
                  clear hap hvi hkp hr2 kl
                  go_wp2_with fail
                  refine hK.out _ _ (HK5.out.ofNo) (fun hh => ?_)
                  clear hK K hHeld
                  have hHeld := hh
                  clear hh
                  try simp only [Act.put, List.setIfInBounds_toArray, List.set_cons_zero, List.set_cons_succ]
                  refine wpAnyH_ready (rs := [18]) (by kernel_rfl) (by simp) ?_
                  refine (AllReadyH.cons (o := { dst := some 43, op := Op.buildSlice 84 1 #[(0, Operand.tmp 42)], type := 84, pos := "ref.go:85", after := #[{ on := 17, ground := Ground.data }], guard := none }) rfl (fun K hK => ?_) AllReadyH.nil)
                  rw [if_pos (by rfl)]
                  refine wp_valE (exec_sliceE 84 _ rfl (.agg #[.int .i64 3, .int .u64 0, .slice none 0 0, .slice (some ⟨w4.heap.size, 0, none⟩) 3 3]) _ rfl (run_oneRV _ _ _ _ _)) ?_
                  refine hK.out _ _ ((HK5.out.alloc _).ofNo) (fun hh => ?_)
                  clear hK K hHeld
                  have hHeld := hh
                  clear hh
                  try simp only [Act.put, List.setIfInBounds_toArray, List.set_cons_zero, List.set_cons_succ]
                  refine wpAnyH_ready (rs := [19]) (by kernel_rfl) (by simp) ?_
                  refine (AllReadyH.cons (o := { dst := some 44, op := Op.call { callee := Callee.builtin Builtin.append, args := #[Operand.tmp 26, Operand.tmp 43], argTypes := #[84, 84] }, type := 84, pos := "ref.go:85", after := #[{ on := 1, ground := Ground.data }, { on := 18, ground := Ground.data }, { on := 17, ground := Ground.chain }], guard := none }) rfl (fun K hK => ?_) AllReadyH.nil)
                  rw [if_pos (by rfl)]
                  refine wp_valE (exec_appE _ _ 84 rfl (.slice av k cv) (.slice (some ⟨w5.heap.size, 0, none⟩) 1 1) _ rfl rfl HAP.out) ?_
                  refine hK.out _ _ (HKP.out) (fun hh => ?_)
                  clear hK K hHeld
                  have hHeld := hh
                  clear hh
                  try simp only [Act.put, List.setIfInBounds_toArray, List.set_cons_zero, List.set_cons_succ]
                  refine wpAnyH_take (i := 20) (oi := { dst := some 45, op := Op.fieldAddr 86 (Operand.tmp 4) 3, type := 0, pos := "ref.go:85", after := #[{ on := 0, ground := Ground.phase }, { on := 1, ground := Ground.phase }, { on := 2, ground := Ground.phase }, { on := 3, ground := Ground.phase }, { on := 4, ground := Ground.phase }, { on := 5, ground := Ground.phase }, { on := 6, ground := Ground.phase }, { on := 7, ground := Ground.phase }, { on := 8, ground := Ground.phase }, { on := 9, ground := Ground.phase }, { on := 10, ground := Ground.phase }, { on := 11, ground := Ground.phase }, { on := 12, ground := Ground.phase }, { on := 13, ground := Ground.phase }, { on := 14, ground := Ground.phase }, { on := 15, ground := Ground.phase }, { on := 16, ground := Ground.phase }, { on := 17, ground := Ground.phase }, { on := 18, ground := Ground.phase }, { on := 19, ground := Ground.phase }], guard := none }) (v := .pointer (some ⟨w2.heap.size, 3, none⟩)) rfl (by kernel_rfl) (by kernel_rfl) (by kernel_rfl) (fun _ _ _ h => h) (Or.inl ⟨by rfl, fun w' hw' => by (clear hw'; go_simp)⟩) hHeld ?_
                  simp only [Act.put, List.setIfInBounds_toArray, List.set_cons_zero, List.set_cons_succ]
                  refine wpAnyH_ready (rs := [21]) (by kernel_rfl) (by simp) ?_
                  refine (AllReadyH.cons (o := { dst := none, op := Op.store 84 (Operand.tmp 45) (Operand.tmp 44), type := 0, pos := "ref.go:85", after := #[{ on := 20, ground := Ground.data }, { on := 19, ground := Ground.data }, { on := 19, ground := Ground.chain }, { on := 0, ground := Ground.phase }, { on := 1, ground := Ground.phase }, { on := 2, ground := Ground.phase }, { on := 3, ground := Ground.phase }, { on := 4, ground := Ground.phase }, { on := 5, ground := Ground.phase }, { on := 6, ground := Ground.phase }, { on := 7, ground := Ground.phase }, { on := 8, ground := Ground.phase }, { on := 9, ground := Ground.phase }, { on := 10, ground := Ground.phase }, { on := 11, ground := Ground.phase }, { on := 12, ground := Ground.phase }, { on := 13, ground := Ground.phase }, { on := 14, ground := Ground.phase }, { on := 15, ground := Ground.phase }, { on := 16, ground := Ground.phase }, { on := 17, ground := Ground.phase }, { on := 18, ground := Ground.phase }, { on := 19, ground := Ground.phase }], guard := none }) rfl (fun K hK => ?_) AllReadyH.nil)
                  go_simp
                  refine hK.out _ _ (HKP.out.setCell (p := ⟨w2.heap.size, 3, none⟩) (.inl (.inl rfl)) _) (fun hh => ?_)
                  clear hK K hHeld
                  have hHeld := hh
                  clear hh
                  try simp only [Act.put, List.setIfInBounds_toArray, List.set_cons_zero, List.set_cons_succ]
                  refine wpAnyH_done (by kernel_rfl) ?_ _
                  clear hHeld
                  go_wp2_with fail
                  go_round
                  case rel => exact ⟨k + 1, some ⟨g', 0, none⟩, cap, by first | rfl | go_num, by omega, HVI.out⟩
                  case measure => simp [intOf]; omega
                · rw [if_pos (by rfl)]
                  refine wp_valE (exec_slice3 84 _ _ _ rfl (.agg #[.int .i64 2, .int .u64 0, .slice (some ⟨wr.heap.size + 1, 0, none⟩) ln capn, .slice none 0 0]) (.agg #[.int .i64 1, .int .u64 1, .slice none 0 0, .slice none 0 0]) (.agg #[.int .i64 2, .int .u64 0, .slice (some ⟨g, o + k * 34 + 2, none⟩) 32 32, .slice none 0 0]) _ rfl rfl rfl (run_threeRV _ _ _ _ _ _ _ _ _ _ _ _ _)) ?_
                  refine hK.out _ _ ((HK4.out.alloc _).ofNo) (fun hh => ?_)
                  clear hK K hHeld
                  have hHeld := hh
                  clear hh
                  try simp only [Act.put, List.setIfInBounds_toArray, List.set_cons_zero, List.set_cons_succ]
                  refine wpAnyH_ready (rs := [1, 17]) (by kernel_rfl) (by simp) ?_
                  refine (AllReadyH.cons (o := { dst := some 26, op := Op.load 84 (Operand.tmp 25), type := 84, pos := "ref.go:85", after := #[{ on := 0, ground := Ground.data }], guard := none }) rfl (fun K hK => ?_) (AllReadyH.cons (o := { dst := some 42, op := Op.call { callee := Callee.value (Operand.func 41), args := #[Operand.tmp 41], argTypes := #[84] }, type := 86, pos := "ref.go:85", after := #[{ on := 16, ground := Ground.data }, { on := 15, ground := Ground.chain }], guard := none }) rfl (fun K hK => ?_) AllReadyH.nil))
                  · have q3 := c3 (w4.alloc (.cells #[.int .i64 2, .int .u64 0, .slice (some ⟨wr.heap.size + 1, 0, none⟩) ln capn, .slice none 0 0, .int .i64 1, .int .u64 1, .slice none 0 0, .slice none 0 0, .int .i64 2, .int .u64 0, .slice (some ⟨g, o + k * 34 + 2, none⟩) 32 32, .slice none 0 0] 86)) ((HK4.out.alloc _))
                    go_simp
                    refine hK.out _ _ ((HK4.out.alloc _).ofNo) (fun hh => ?_)
                    clear hK K hHeld
                    have hHeld := hh
                    clear hh
                    try simp only [Act.put, List.setIfInBounds_toArray, List.set_cons_zero, List.set_cons_succ]
                    refine wpAnyH_ready (rs := [17]) (by kernel_rfl) (by simp) ?_
                    refine (AllReadyH.cons (o := { dst := some 42, op := Op.call { callee := Callee.value (Operand.func 41), args := #[Operand.tmp 41], argTypes := #[84] }, type := 86, pos := "ref.go:85", after := #[{ on := 16, ground := Ground.data }, { on := 15, ground := Ground.chain }], guard := none }) rfl (fun K hK => ?_) AllReadyH.nil)
                    go_simp
                    refine (rlist_any _ _ _ _).mono ?_
                    rintro e' w5 ⟨rfl, kl⟩
                    have HK5 : Hid (Kp No W1 w5) := (HK4.out.alloc _).andNone kl
                    have hr2 : RepS (fun x => x < w.heap.size ∨ (W1.heap.size ≤ x ∧ x < w5.heap.size)) w5 2 (entT (nm, true, hs)) (.slice none 0 0) (.slice (some ⟨w4.heap.size, 0, none⟩) 3 3) := by
                      have hks := kl.size
                      simp at hks
                      have hww := HKW.out.size
                      have h4 := HK4.out.size
                      have hz1 := HZ1.out
                      refine repS_list (kslS_lift HK3I.out (fun x hx => kl.block x (by simp; omega) (fun y => y)) (fun x hx => by omega))
                    obtain ⟨g', cap, w6, hap, k3, kf, ks, hvi, hkp⟩ := HS.out.step HLK.out (Nat.le_refl _) (fun x hx => by omega) HK1.out HK5.out hr2 (by have := HZ1.out; omega) (by omega) 84
                    simp only [show (entT (nm, true, hs)).hd.1 = 3 from rfl, show (entT (nm, true, hs)).hd.2.1 = 0 from rfl] at hap
                    rw [HDK.out] at hvi
                    have HAP := hid hap
                    have HVI := hid hvi
                    have HKP := hid hkp
                    clear hap hvi hkp hr2 kl
                    go_wp2_with fail
                    refine hK.out _ _ (HK5.out.ofNo) (fun hh => ?_)
                    clear hK K hHeld
                    have hHeld := hh
                    clear hh
                    try simp only [Act.put, List.setIfInBounds_toArray, List.set_cons_zero, List.set_cons_succ]
                    refine wpAnyH_ready (rs := [18]) (by kernel_rfl) (by simp) ?_
                    refine (AllReadyH.cons (o := { dst := some 43, op := Op.buildSlice 84 1 #[(0, Operand.tmp 42)], type := 84, pos := "ref.go:85", after := #[{ on := 17, ground := Ground.data }], guard := none }) rfl (fun K hK => ?_) AllReadyH.nil)
                    rw [if_pos (by rfl)]
                    refine wp_valE (exec_sliceE 84 _ rfl (.agg #[.int .i64 3, .int .u64 0, .slice none 0 0, .slice (some ⟨w4.heap.size, 0, none⟩) 3 3]) _ rfl (run_oneRV _ _ _ _ _)) ?_
                    refine hK.out _ _ ((HK5.out.alloc _).ofNo) (fun hh => ?_)
                    clear hK K hHeld
                    have hHeld := hh
                    clear hh
                    try simp only [Act.put, List.setIfInBounds_toArray, List.set_cons_zero, List.set_cons_succ]
                    refine wpAnyH_ready (rs := [19]) (by kernel_rfl) (by simp) ?_
                    refine (AllReadyH.cons (o := { dst := some 44, op := Op.call { callee := Callee.builtin Builtin.append, args := #[Operand.tmp 26, Operand.tmp 43], argTypes := #[84, 84] }, type := 84, pos := "ref.go:85", after := #[{ on := 1, ground := Ground.data }, { on := 18, ground := Ground.data }, { on := 17, ground := Ground.chain }], guard := none }) rfl (fun K hK => ?_) AllReadyH.nil)
                    rw [if_pos (by rfl)]
                    refine wp_valE (exec_appE _ _ 84 rfl (.slice av k cv) (.slice (some ⟨w5.heap.size, 0, none⟩) 1 1) _ rfl rfl HAP.out) ?_
                    refine hK.out _ _ (HKP.out) (fun hh => ?_)
                    clear hK K hHeld
                    have hHeld := hh
                    clear hh
                    try simp only [Act.put, List.setIfInBounds_toArray, List.set_cons_zero, List.set_cons_succ]
                    refine wpAnyH_take (i := 20) (oi := { dst := some 45, op := Op.fieldAddr 86 (Operand.tmp 4) 3, type := 0, pos := "ref.go:85", after := #[{ on := 0, ground := Ground.phase }, { on := 1, ground := Ground.phase }, { on := 2, ground := Ground.phase }, { on := 3, ground := Ground.phase }, { on := 4, ground := Ground.phase }, { on := 5, ground := Ground.phase }, { on := 6, ground := Ground.phase }, { on := 7, ground := Ground.phase }, { on := 8, ground := Ground.phase }, { on := 9, ground := Ground.phase }, { on := 10, ground := Ground.phase }, { on := 11, ground := Ground.phase }, { on := 12, ground := Ground.phase }, { on := 13, ground := Ground.phase }, { on := 14, ground := Ground.phase }, { on := 15, ground := Ground.phase }, { on := 16, ground := Ground.phase }, { on := 17, ground := Ground.phase }, { on := 18, ground := Ground.phase }, { on := 19, ground := Ground.phase }], guard := none }) (v := .pointer (some ⟨w2.heap.size, 3, none⟩)) rfl (by kernel_rfl) (by kernel_rfl) (by kernel_rfl) (fun _ _ _ h => h) (Or.inl ⟨by rfl, fun w' hw' => by (clear hw'; go_simp)⟩) hHeld ?_
                    simp only [Act.put, List.setIfInBounds_toArray, List.set_cons_zero, List.set_cons_succ]
                    refine wpAnyH_ready (rs := [21]) (by kernel_rfl) (by simp) ?_
                    refine (AllReadyH.cons (o := { dst := none, op := Op.store 84 (Operand.tmp 45) (Operand.tmp 44), type := 0, pos := "ref.go:85", after := #[{ on := 20, ground := Ground.data }, { on := 19, ground := Ground.data }, { on := 19, ground := Ground.chain }, { on := 0, ground := Ground.phase }, { on := 1, ground := Ground.phase }, { on := 2, ground := Ground.phase }, { on := 3, ground := Ground.phase }, { on := 4, ground := Ground.phase }, { on := 5, ground := Ground.phase }, { on := 6, ground := Ground.phase }, { on := 7, ground := Ground.phase }, { on := 8, ground := Ground.phase }, { on := 9, ground := Ground.phase }, { on := 10, ground := Ground.phase }, { on := 11, ground := Ground.phase }, { on := 12, ground := Ground.phase }, { on := 13, ground := Ground.phase }, { on := 14, ground := Ground.phase }, { on := 15, ground := Ground.phase }, { on := 16, ground := Ground.phase }, { on := 17, ground := Ground.phase }, { on := 18, ground := Ground.phase }, { on := 19, ground := Ground.phase }], guard := none }) rfl (fun K hK => ?_) AllReadyH.nil)
                    go_simp
                    refine hK.out _ _ (HKP.out.setCell (p := ⟨w2.heap.size, 3, none⟩) (.inl (.inl rfl)) _) (fun hh => ?_)
                    clear hK K hHeld
                    have hHeld := hh
                    clear hh
                    try simp only [Act.put, List.setIfInBounds_toArray, List.set_cons_zero, List.set_cons_succ]
                    refine wpAnyH_done (by kernel_rfl) ?_ _
                    clear hHeld
                    go_wp2_with fail
                    go_round
                    case rel => exact ⟨k + 1, some ⟨g', 0, none⟩, cap, by first | rfl | go_num, by omega, HVI.out⟩
                    case measure => simp [intOf]; omega
                  · go_simp
                    refine (rlist_any _ _ _ _).mono ?_
                    rintro e' w5 ⟨rfl, kl⟩
                    have HK5 : Hid (Kp No W1 w5) := (HK4.out.alloc _).andNone kl
                    have hr2 : RepS (fun x => x < w.heap.size ∨ (W1.heap.size ≤ x ∧ x < w5.heap.size)) w5 2 (entT (nm, true, hs)) (.slice none 0 0) (.slice (some ⟨w4.heap.size, 0, none⟩) 3 3) := by
                      have hks := kl.size
                      simp at hks
                      have hww := HKW.out.size
                      have h4 := HK4.out.size
                      have hz1 := HZ1.out
                      refine repS_list (kslS_lift HK3I.out (fun x hx => kl.block x (by simp; omega) (fun y => y)) (fun x hx => by omega))
                    obtain ⟨g', cap, w6, hap, k3, kf, ks, hvi, hkp⟩ := HS.out.step HLK.out (Nat.le_refl _) (fun x hx => by omega) HK1.out HK5.out hr2 (by have := HZ1.out; omega) (by omega) 84
                    simp only [show (entT (nm, true, hs)).hd.1 = 3 from rfl, show (entT (nm, true, hs)).hd.2.1 = 0 from rfl] at hap
                    rw [HDK.out] at hvi
                    have HAP := hid hap
                    have HVI := hid hvi
                    have HKP := hid hkp
                    clear hap hvi hkp hr2 kl
                    go_wp2_with fail
                    refine hK.out _ _ (HK5.out.ofNo) (fun hh => ?_)
                    clear hK K hHeld
                    have hHeld := hh
                    clear hh
                    try simp only [Act.put, List.setIfInBounds_toArray, List.set_cons_zero, List.set_cons_succ]
                    refine wpAnyH_ready (rs := [1, 18]) (by kernel_rfl) (by simp) ?_
                    refine (AllReadyH.cons (o := { dst := some 26, op := Op.load 84 (Operand.tmp 25), type := 84, pos := "ref.go:85", after := #[{ on := 0, ground := Ground.data }], guard := none }) rfl (fun K hK => ?_) (AllReadyH.cons (o := { dst := some 43, op := Op.buildSlice 84 1 #[(0, Operand.tmp 42)], type := 84, pos := "ref.go:85", after := #[{ on := 17, ground := Ground.data }], guard := none }) rfl (fun K hK => ?_) AllReadyH.nil))
                    · have q3 := c3 w5 (HK5.out)
                      go_simp
                      refine hK.out _ _ (HK5.out.ofNo) (fun hh => ?_)
                      clear hK K hHeld
                      have hHeld := hh
                      clear hh
                      try simp only [Act.put, List.setIfInBounds_toArray, List.set_cons_zero, List.set_cons_succ]
                      refine wpAnyH_ready (rs := [18]) (by kernel_rfl) (by simp) ?_
                      refine (AllReadyH.cons (o := { dst := some 43, op := Op.buildSlice 84 1 #[(0, Operand.tmp 42)], type := 84, pos := "ref.go:85", after := #[{ on := 17, ground := Ground.data }], guard := none }) rfl (fun K hK => ?_) AllReadyH.nil)
                      rw [if_pos (by rfl)]
                      refine wp_valE (exec_sliceE 84 _ rfl (.agg #[.int .i64 3, .int .u64 0, .slice none 0 0, .slice (some ⟨w4.heap.size, 0, none⟩) 3 3]) _ rfl (run_oneRV _ _ _ _ _)) ?_
                      refine hK.out _ _ ((HK5.out.alloc _).ofNo) (fun hh => ?_)
                      clear hK K hHeld
                      have hHeld := hh
                      clear hh
                      try simp only [Act.put, List.setIfInBounds_toArray, List.set_cons_zero, List.set_cons_succ]
                      refine wpAnyH_ready (rs := [19]) (by kernel_rfl) (by simp) ?_
                      refine (AllReadyH.cons (o := { dst := some 44, op := Op.call { callee := Callee.builtin Builtin.append, args := #[Operand.tmp 26, Operand.tmp 43], argTypes := #[84, 84] }, type := 84, pos := "ref.go:85", after := #[{ on := 1, ground := Ground.data }, { on := 18, ground := Ground.data }, { on := 17, ground := Ground.chain }], guard := none }) rfl (fun K hK => ?_) AllReadyH.nil)
                      rw [if_pos (by rfl)]
                      refine wp_valE (exec_appE _ _ 84 rfl (.slice av k cv) (.slice (some ⟨w5.heap.size, 0, none⟩) 1 1) _ rfl rfl HAP.out) ?_
                      refine hK.out _ _ (HKP.out) (fun hh => ?_)
                      clear hK K hHeld
                      have hHeld := hh
                      clear hh
                      try simp only [Act.put, List.setIfInBounds_toArray, List.set_cons_zero, List.set_cons_succ]
                      refine wpAnyH_take (i := 20) (oi := { dst := some 45, op := Op.fieldAddr 86 (Operand.tmp 4) 3, type := 0, pos := "ref.go:85", after := #[{ on := 0, ground := Ground.phase }, { on := 1, ground := Ground.phase }, { on := 2, ground := Ground.phase }, { on := 3, ground := Ground.phase }, { on := 4, ground := Ground.phase }, { on := 5, ground := Ground.phase }, { on := 6, ground := Ground.phase }, { on := 7, ground := Ground.phase }, { on := 8, ground := Ground.phase }, { on := 9, ground := Ground.phase }, { on := 10, ground := Ground.phase }, { on := 11, ground := Ground.phase }, { on := 12, ground := Ground.phase }, { on := 13, ground := Ground.phase }, { on := 14, ground := Ground.phase }, { on := 15, ground := Ground.phase }, { on := 16, ground := Ground.phase }, { on := 17, ground := Ground.phase }, { on := 18, ground := Ground.phase }, { on := 19, ground := Ground.phase }], guard := none }) (v := .pointer (some ⟨w2.heap.size, 3, none⟩)) rfl (by kernel_rfl) (by kernel_rfl) (by kernel_rfl) (fun _ _ _ h => h) (Or.inl ⟨by rfl, fun w' hw' => by (clear hw'; go_simp)⟩) hHeld ?_
                      simp only [Act.put, List.setIfInBounds_toArray, List.set_cons_zero, List.set_cons_succ]
                      refine wpAnyH_ready (rs := [21]) (by kernel_rfl) (by simp) ?_
                      refine (AllReadyH.cons (o := { dst := none, op := Op.store 84 (Operand.tmp 45) (Operand.tmp 44), type := 0, pos := "ref.go:85", after := #[{ on := 20, ground := Ground.data }, { on := 19, ground := Ground.data }, { on := 19, ground := Ground.chain }, { on := 0, ground := Ground.phase }, { on := 1, ground := Ground.phase }, { on := 2, ground := Ground.phase }, { on := 3, ground := Ground.phase }, { on := 4, ground := Ground.phase }, { on := 5, ground := Ground.phase }, { on := 6, ground := Ground.phase }, { on := 7, ground := Ground.phase }, { on := 8, ground := Ground.phase }, { on := 9, ground := Ground.phase }, { on := 10, ground := Ground.phase }, { on := 11, ground := Ground.phase }, { on := 12, ground := Ground.phase }, { on := 13, ground := Ground.phase }, { on := 14, ground := Ground.phase }, { on := 15, ground := Ground.phase }, { on := 16, ground := Ground.phase }, { on := 17, ground := Ground.phase }, { on := 18, ground := Ground.phase }, { on := 19, ground := Ground.phase }], guard := none }) rfl (fun K hK => ?_) AllReadyH.nil)
                      go_simp
                      refine hK.out _ _ (HKP.out.setCell (p := ⟨w2.heap.size, 3, none⟩) (.inl (.inl rfl)) _) (fun hh => ?_)
                      clear hK K hHeld
                      have hHeld := hh
                      clear hh
                      try simp only [Act.put, List.setIfInBounds_toArray, List.set_cons_zero, List.set_cons_succ]
                      refine wpAnyH_done (by kernel_rfl) ?_ _
                      clear hHeld
                      go_wp2_with fail
                      go_round
                      case rel => exact ⟨k + 1, some ⟨g', 0, none⟩, cap, by first | rfl | go_num, by omega, HVI.out⟩
                      case measure => simp [intOf]; omega
                    · rw [if_pos (by rfl)]
                      refine wp_valE (exec_sliceE 84 _ rfl (.agg #[.int .i64 3, .int .u64 0, .slice none 0 0, .slice (some ⟨w4.heap.size, 0, none⟩) 3 3]) _ rfl (run_oneRV _ _ _ _ _)) ?_
                      refine hK.out _ _ ((HK5.out.alloc _).ofNo) (fun hh => ?_)
                      clear hK K hHeld
                      have hHeld := hh
                      clear hh
                      try simp only [Act.put, List.setIfInBounds_toArray, List.set_cons_zero, List.set_cons_succ]
                      refine wpAnyH_ready (rs := [1]) (by kernel_rfl) (by simp) ?_
                      refine (AllReadyH.cons (o := { dst := some 26, op := Op.load 84 (Operand.tmp 25), type := 84, pos := "ref.go:85", after := #[{ on := 0, ground := Ground.data }], guard := none }) rfl (fun K hK => ?_) AllReadyH.nil)
                      have q3 := c3 (w5.alloc (.cells #[.int .i64 3, .int .u64 0, .slice none 0 0, .slice (some ⟨w4.heap.size, 0, none⟩) 3 3] 86)) ((HK5.out.alloc _))
                      go_simp
                      refine hK.out _ _ ((HK5.out.alloc _).ofNo) (fun hh => ?_)
                      clear hK K hHeld
                      have hHeld := hh
                      clear hh
                      try simp only [Act.put, List.setIfInBounds_toArray, List.set_cons_zero, List.set_cons_succ]
                      refine wpAnyH_ready (rs := [19]) (by kernel_rfl) (by simp) ?_
                      refine (AllReadyH.cons (o := { dst := some 44, op := Op.call { callee := Callee.builtin Builtin.append, args := #[Operand.tmp 26, Operand.tmp 43], argTypes := #[84, 84] }, type := 84, pos := "ref.go:85", after := #[{ on := 1, ground := Ground.data }, { on := 18, ground := Ground.data }, { on := 17, ground := Ground.chain }], guard := none }) rfl (fun K hK => ?_) AllReadyH.nil)
                      rw [if_pos (by rfl)]
                      refine wp_valE (exec_appE _ _ 84 rfl (.slice av k cv) (.slice (some ⟨w5.heap.size, 0, none⟩) 1 1) _ rfl rfl HAP.out) ?_
                      refine hK.out _ _ (HKP.out) (fun hh => ?_)
                      clear hK K hHeld
                      have hHeld := hh
                      clear hh
                      try simp only [Act.put, List.setIfInBounds_toArray, List.set_cons_zero, List.set_cons_succ]
                      refine wpAnyH_take (i := 20) (oi := { dst := some 45, op := Op.fieldAddr 86 (Operand.tmp 4) 3, type := 0, pos := "ref.go:85", after := #[{ on := 0, ground := Ground.phase }, { on := 1, ground := Ground.phase }, { on := 2, ground := Ground.phase }, { on := 3, ground := Ground.phase }, { on := 4, ground := Ground.phase }, { on := 5, ground := Ground.phase }, { on := 6, ground := Ground.phase }, { on := 7, ground := Ground.phase }, { on := 8, ground := Ground.phase }, { on := 9, ground := Ground.phase }, { on := 10, ground := Ground.phase }, { on := 11, ground := Ground.phase }, { on := 12, ground := Ground.phase }, { on := 13, ground := Ground.phase }, { on := 14, ground := Ground.phase }, { on := 15, ground := Ground.phase }, { on := 16, ground := Ground.phase }, { on := 17, ground := Ground.phase }, { on := 18, ground := Ground.phase }, { on := 19, ground := Ground.phase }], guard := none }) (v := .pointer (some ⟨w2.heap.size, 3, none⟩)) rfl (by kernel_rfl) (by kernel_rfl) (by kernel_rfl) (fun _ _ _ h => h) (Or.inl ⟨by rfl, fun w' hw' => by (clear hw'; go_simp)⟩) hHeld ?_
                      simp only [Act.put, List.setIfInBounds_toArray, List.set_cons_zero, List.set_cons_succ]
                      refine wpAnyH_ready (rs := [21]) (by kernel_rfl) (by simp) ?_
                      refine (AllReadyH.cons (o := { dst := none, op := Op.store 84 (Operand.tmp 45) (Operand.tmp 44), type := 0, pos := "ref.go:85", after := #[{ on := 20, ground := Ground.data }, { on := 19, ground := Ground.data }, { on := 19, ground := Ground.chain }, { on := 0, ground := Ground.phase }, { on := 1, ground := Ground.phase }, { on := 2, ground := Ground.phase }, { on := 3, ground := Ground.phase }, { on := 4, ground := Ground.phase }, { on := 5, ground := Ground.phase }, { on := 6, ground := Ground.phase }, { on := 7, ground := Ground.phase }, { on := 8, ground := Ground.phase }, { on := 9, ground := Ground.phase }, { on := 10, ground := Ground.phase }, { on := 11, ground := Ground.phase }, { on := 12, ground := Ground.phase }, { on := 13, ground := Ground.phase }, { on := 14, ground := Ground.phase }, { on := 15, ground := Ground.phase }, { on := 16, ground := Ground.phase }, { on := 17, ground := Ground.phase }, { on := 18, ground := Ground.phase }, { on := 19, ground := Ground.phase }], guard := none }) rfl (fun K hK => ?_) AllReadyH.nil)
                      go_simp
                      refine hK.out _ _ (HKP.out.setCell (p := ⟨w2.heap.size, 3, none⟩) (.inl (.inl rfl)) _) (fun hh => ?_)
                      clear hK K hHeld
                      have hHeld := hh
                      clear hh
                      try simp only [Act.put, List.setIfInBounds_toArray, List.set_cons_zero, List.set_cons_succ]
                      refine wpAnyH_done (by kernel_rfl) ?_ _
                      clear hHeld
                      go_wp2_with fail
                      go_round
                      case rel => exact ⟨k + 1, some ⟨g', 0, none⟩, cap, by first | rfl | go_num, by omega, HVI.out⟩
                      case measure => simp [intOf]; omega
      · have hltI : ¬ (k : Int) < (n : Int) := by omega
        have hkn' : k = n := by omega
        subst hkn'
        have hF := HS.out
        have ek : (d.map entT).take k = d.map entT := List.take_of_length_le (by have := HN.out; simp; omega)
        rw [ek] at hF
        obtain ⟨f0, f1, f2, f3, ff, fs, fm, fb⟩ := hF
        have HKS : Hid (KSlS (fun b => b < wr.heap.size) wr (RepS (fun b => b < wr.heap.size) wr 2) (.slice av k cv) (d.map entT)) :=
          kslS_lift (fm.done (by simp; have := HN.out; omega)) (fun _ _ => rfl) (fun b hb => by rcases hb with hb | hb <;> omega)
        have HRO := hid (rObject_any wr 3 (by omega) (entsT d) (.slice none 0 0) (.slice av k cv) (repS_list HKS.out) HSZ2.out)
        rw [show (entsT d).hd.1 = 3 from rfl, show (entsT d).hd.2.1 = 0 from rfl] at HRO
        clear ek fm fb HS hlt HKS
        go_wp2_with fail
        refine HRO.out.mono ?_
        rintro e w4 ⟨hp, hb4⟩
        obtain ⟨k0, a0, n0, c0, fa, bs0, rfl, hy0, ho0⟩ := hp
        have HB4 : Hid (Below W0.heap.size W0 w4) := HBR.out.trans (hb4.mono HBR.out.size)
        have HBW4 : Hid (Below w.heap.size w w4) := HB0.out.trans (HB4.out.mono HB0.out.size)
        obtain ⟨g0, g1, gf, hg2, hgn⟩ := HR.out w4 HB4.out
        have HGN := hid hgn
        have HY0 := hid hy0
        have HO0 : Hid (((RightP d ∧ objP (entsT d)) ∧ k0 = 3 ∧ fa = 0 ∧ bs0 = Tlv.formOf 3 (entsT d)) ∨ (¬ (RightP d ∧ objP (entsT d)) ∧ k0 = 0 ∧ fa = 1 ∧ bs0 = [])) := by
          rcases ho0 with ⟨h1, h2⟩ | ⟨h1, h2⟩
          · exact .inl ⟨⟨HRP.out, h1⟩, h2⟩
          · exact .inr ⟨fun h => h1 h.2, h2⟩
        clear hb4 hgn hy0 ho0 HRO f0 f1 f2 f3 ff
        go_wp2_with fail
        obtain ⟨q0, q1⟩ := set2_read (u0 := .int .i64 k0) (u1 := .slice a0 n0 c0) g0 g1
        refine bodyPost_ret (v := .tuple #[.agg #[.int .i64 k0, .slice a0 n0 c0], .int .i64 fa]) (by simp [results, Try.results14, go_sem, q0, q1]) rfl ⟨⟨k0, a0, n0, c0, fa, bs0, rfl, bySl_ne HY0.out HGN.out (((Kp.refl (· = w.heap.size) _).setCell (p := ⟨w.heap.size, 0, none⟩) (.inl rfl) _).setCell (p := ⟨w.heap.size, 1, none⟩) (.inl rfl) _), HO0.out⟩, ?_⟩
        exact (HBW4.out.setCell (by simp) _).setCell (by simp) _
end Go.Proofs.Ytenfahecnkdhaaa.Nd
end
