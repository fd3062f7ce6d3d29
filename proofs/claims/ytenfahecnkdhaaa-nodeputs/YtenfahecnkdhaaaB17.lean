/- Of the proof: the texts NdRPutF, one behind the other. -/
import Derived.Test.YtenfahecnkdhaaaB16
import Derived.Test.YtenfahecnkdhaaaB10
import Derived.Test.YtenfahecnkdhaaaB15
section
/-
  PutFile, of the document.
-/
namespace Go.Proofs.Ytenfahecnkdhaaa.Nd
open Go.RowKit
open Tlv (Tr Agree AgreeS BInv RepS BySlS KSlS)
open Sim (hid Kp No)
set_option linter.unusedSimpArgs false

theorem repS_bytes {S : Nat → Prop} {w : World} {n : Nat} {v : Value} {bs : List Int} (h : BySlS S w v bs) : RepS S w (n + 1) (Tr.mk 2 0 bs []) v (.slice none 0 0) :=
  ⟨Int.le_refl _, by simp [Tr.mk, Tlv.Tr.hd], h, KSlS.none _ _ _⟩
theorem repS_num {S : Nat → Prop} {w : World} {n : Nat} {q : Int} (h : 0 ≤ q ∧ q ≤ 18446744073709551615) : RepS S w (n + 1) (Tr.mk 1 q [] []) (.slice none 0 0) (.slice none 0 0) :=
  ⟨h.1, h.2, BySlS.none _ _, KSlS.none _ _ _⟩
theorem repS_list {S : Nat → Prop} {w : World} {n : Nat} {v : Value} {ks : List (Tr n)} (h : KSlS S w (RepS S w n) v ks) : RepS S w (n + 1) (Tr.mk 3 0 [] ks) (.slice none 0 0) v :=
  ⟨Int.le_refl _, by simp [Tr.mk, Tlv.Tr.hd], BySlS.none _ _, h⟩
theorem kslS_lift {n : Nat} {S S' : Nat → Prop} {w w' : World} {v : Value} {ks : List (Tr n)} (h : KSlS S w (RepS S w n) v ks) (hw : AgreeS S w w') (hS : ∀ b, S b → S' b) : KSlS S' w' (RepS S' w' n) v ks :=
  h.agree (fun _ _ _ r => r.agree hw hS) hw hS
/-- Two values in a row. -/
theorem twoInS {w : World} (q : Int) (ks : List (Tr 1)) (vk : Value) (h0 : 0 ≤ q ∧ q ≤ 18446744073709551615) (bk : KSlS (fun b => b < w.heap.size) w (RepS (fun b => b < w.heap.size) w 1) vk ks) (ty : TypeId) (C : Array Value)
    (hC : C = #[.int .i64 1, .int .u64 q, .slice none 0 0, .slice none 0 0, .int .i64 3, .int .u64 0, .slice none 0 0, vk]) :
    KSlS (fun b => b < w.heap.size + 1) (w.alloc (.cells C ty)) (RepS (fun b => b < w.heap.size + 1) (w.alloc (.cells C ty)) 2)
      (.slice (some ⟨w.heap.size, 0, none⟩) 2 2) [(Tr.mk 1 q [] [] : Tr 2), Tr.mk 3 0 [] ks] := by
  subst hC
  have hA : ∀ o : Obj, AgreeS (fun b => b < w.heap.size) w (w.alloc o) := fun o b hb => Below.heap_alloc _ _ _ hb
  have hc : ∀ (C : Array Value) (j : Nat), (w.alloc (.cells C ty)).cell? ⟨w.heap.size, j, none⟩ = C[j]? := fun C j => World.cell?_alloc_at _ _ _ _ rfl
  refine ⟨_, 2, rfl, Nat.le_refl _, by decide, by simp, by simp, fun _ => ⟨w.heap.size, 0, rfl, by omega, fun j t hj => ?_⟩⟩
  match j, hj with
  | 0, hj =>
    simp only [List.getElem?_cons_zero, Option.some.injEq] at hj
    subst hj
    exact ⟨_, _, hc _ _, hc _ _, hc _ _, hc _ _, repS_num h0⟩
  | 1, hj =>
    simp only [List.getElem?_cons_succ, List.getElem?_cons_zero, Option.some.injEq] at hj
    subst hj
    exact ⟨_, _, hc _ _, hc _ _, hc _ _, hc _ _, repS_list (kslS_lift bk (hA _) (fun b hb => Nat.lt_succ_of_lt hb))⟩
theorem RV.start {n : Nat} (S : Nat → Prop) (w1 : World) (ts : List (Tr n)) : RV S w1 w1.heap.size (ts.take 0) (.slice none 0 0) (w1.alloc (.cells #[.int .i64 3, .int .u64 0, .slice none 0 0, .slice none 0 0] 86)) :=
  ⟨by simp, by simp, by simp, by simp, by simp, by simp, BInv.nil _ _ _, (Below.refl _ _).alloc (Nat.le_refl _) _⟩
theorem hashS {S : Nat → Prop} {w : World} {g o : Nat} {h : List Int} (hh : HOk h) (hg : S g) (hr : w.rangeAt g o (b8 h)) : BySlS S w (.slice (some ⟨g, o, none⟩) 32 32) h :=
  ⟨_, 32, by rw [hh.1], by rw [hh.1]; omega, by decide, by simp, by rw [hh.1]; omega, hh.2, fun _ => ⟨g, o, rfl, hg, fun i hi => hr i (.int .u8 (h.getD i 0)) (by simp [b8, List.getElem?_eq_getElem hi])⟩⟩
theorem put1_move {OK : Prop} {K : Int} {F : List Int} {w w' : World} {e : Ending} {b : Nat} (h : Put1 OK K F w e) (hb : ∀ o x, w.cell? ⟨b, o, none⟩ ≠ some (.int .u8 x)) (k : Kp (· = b) w w') : Put1 OK K F w' e := by
  obtain ⟨k0, a, n, c, f, bs, he, hy, ho⟩ := h
  exact ⟨k0, a, n, c, f, bs, he, bySl_ne hy hb k, ho⟩

set_option maxHeartbeats 8000000 in
set_option maxRecDepth 100000 in
theorem rPutFile_any (w : World) (s : Int) (v : Value) (d : List (List Int)) (hv : HV (· < w.heap.size) w v d) (hl : d.length ≤ 1000000) (hsz : fileB s d.length = true → Tlv.szT 3 (fileT s d) ≠ 0) :
    Calls Try.prog 11 #[.agg #[.int .i64 s, v]] w fun e w' => Put1 (fileB s d.length = true ∧ objP (fileT s d)) 2 (Tlv.formOf 3 (fileT s d)) w' e ∧ Below w.heap.size w w' := by
  obtain ⟨a, c, rfl, hxx⟩ := id hv
  clear hxx
  have HVV := hid hv
  have HSZ := hid hsz
  obtain ⟨n, hn⟩ : ∃ n, d.length = n := ⟨_, rfl⟩
  have HN := hid hn
  rw [hn] at hl HVV ⊢
  clear hv hsz hn
  obtain ⟨W0, hW0⟩ : ∃ W, (w.alloc (.cells #[.int .i64 s, .slice a n c] 24)).alloc (.cells #[.int .i64 0, .slice none 0 0] 29) = W := ⟨_, rfl⟩
  have HB0 : Hid (Below w.heap.size w W0) := by rw [Hid, ← hW0]; exact ((Below.refl _ _).alloc (Nat.le_refl _) _).alloc (by simp) _
  have HZ : Hid (W0.heap.size = w.heap.size + 2) := by rw [Hid, ← hW0]; simp
  have HX : Hid (∀ V, Below W0.heap.size W0 V → V.cell? ⟨w.heap.size, 0, none⟩ = some (.int .i64 s) ∧ V.cell? ⟨w.heap.size, 1, none⟩ = some (.slice a n c)) := fun V hV => by
    have hz := HZ.out
    rw [hV.cell (p := ⟨w.heap.size, 0, none⟩) (by show w.heap.size < _; omega), hV.cell (p := ⟨w.heap.size, 1, none⟩) (by show w.heap.size < _; omega), ← hW0]
    simp [go_sem]
  have HR : Hid (∀ V, Below W0.heap.size W0 V → V.cell? ⟨w.heap.size + 1, 0, none⟩ = some (.int .i64 0) ∧ V.cell? ⟨w.heap.size + 1, 1, none⟩ = some (.slice none 0 0) ∧ (∀ o, V.frozen? ⟨w.heap.size + 1, o, none⟩ = false) ∧ w.heap.size + 1 < V.heap.size ∧ ∀ o x, V.cell? ⟨w.heap.size + 1, o, none⟩ ≠ some (.int .u8 x)) := fun V hV => by
    have hs := hV.size
    have hz := HZ.out
    refine ⟨?_, ?_, fun o => ?_, by omega, fun o x => ?_⟩
    · rw [hV.cell (p := ⟨w.heap.size + 1, 0, none⟩) (by show w.heap.size + 1 < _; omega), ← hW0]; simp [go_sem]
    · rw [hV.cell (p := ⟨w.heap.size + 1, 1, none⟩) (by show w.heap.size + 1 < _; omega), ← hW0]; simp [go_sem]
    · rw [hV.frozen (p := ⟨w.heap.size + 1, o, none⟩) (by show w.heap.size + 1 < _; omega), ← hW0]; simp [go_sem]
    · rw [hV.cell (p := ⟨w.heap.size + 1, o, none⟩) (by show w.heap.size + 1 < _; omega), ← hW0, World.cell?_alloc_at _ _ _ _ (by simp)]
      match o with
      | 0 => simp
      | 1 => simp
      | o + 2 => simp
  have HRF := hid (rightFile_any W0 s a n c)
  obtain ⟨x0, x1⟩ := HX.out W0 (Below.refl _ _)
  go_enter Try.func11, Try.ntmps11
  go_wp2_with fail
  refine HRF.out.mono ?_
  rintro e w1 ⟨he, k1⟩
  have HB1 : Hid (Below W0.heap.size W0 w1) := k1.toBelow'
  have HBW : Hid (Below w.heap.size w w1) := HB0.out.trans (HB1.out.mono HB0.out.size)
  clear x0 x1 hW0 HRF k1
  cases hfb : fileB s n with
  | false =>
    rw [hfb] at he
    subst he
    have HNO : Hid (¬ (fileB s d.length = true ∧ objP (fileT s d))) := fun h => by rw [HN.out, hfb] at h; cases h.1
    clear hfb
    obtain ⟨g0, g1, gf, hg2, _⟩ := HR.out w1 HB1.out
    go_wp2_with fail
    obtain ⟨q0, q1⟩ := set2_read (u0 := .int .i64 0) (u1 := .slice none 0 0) g0 g1
    refine bodyPost_ret (v := .tuple #[.agg #[.int .i64 0, .slice none 0 0], .int .i64 1]) (by simp [results, Try.results11, go_sem, q0, q1]) rfl ⟨(by rw [HN.out] at *; exact put1_no HNO.out), ?_⟩
    exact (HBW.out.setCell (by simp) _).setCell (by simp) _
  | true =>
    rw [hfb] at he
    subst he
    have h0s : 0 ≤ s ∧ s ≤ 2000 := by
      unfold fileB at hfb
      simp only [decide_eq_true_eq] at hfb
      exact ⟨hfb.1, hfb.2.1⟩
    have HS0 := hid h0s
    have hwu : IntKind.u64.wrap s = s := by rw [IntKind.wrap_u64]; omega
    have HWU := hid hwu
    have HFB := hid hfb
    have HSZ2 : Hid (Tlv.szT 3 (fileT s d) ≠ 0) := HSZ.out (by rw [HN.out]; exact hfb)
    clear hfb h0s hwu
    go_wp2_with fail
    refine (rlist_any w1 none 0 0).mono ?_
    rintro e w2 ⟨rfl, k2⟩
    have HB2 : Hid (Below W0.heap.size W0 w2) := HB1.out.trans (k2.toBelow'.mono HB1.out.size)
    have HBW2 : Hid (Below w.heap.size w w2) := HB0.out.trans (HB2.out.mono HB0.out.size)
    have HZ2 : Hid (w.heap.size + 2 ≤ w2.heap.size) := by have := HB2.out.size; have := HZ.out; rw [Hid]; omega
    clear k2
    go_wp2_with fail
    go_loopw [5] (fun v5 wr => ∃ (k : Nat) (av : Option Addr) (cv : Nat), v5 = .int .i64 (k : Int) ∧ k ≤ n ∧ Hid (RV (fun g => g < w.heap.size) w2 w2.heap.size ((d.map hashT).take k) (.slice av k cv) wr)) (fun v5 _ => n - (intOf v5).toNat)
    case atStart => exact ⟨0, none, 0, rfl, Nat.zero_le _, RV.start _ _ _⟩
    case round =>
      obtain ⟨k, av, cv, rfl, hkn, HS⟩ := hrel
      have HBR : Hid (Below W0.heap.size W0 wr) := HB2.out.trans (HS.out.2.2.2.2.2.2.2.mono HB2.out.size)
      have HKW : Hid (Below w.heap.size w wr) := HB0.out.trans (HBR.out.mono HB0.out.size)
      obtain ⟨x0, x1⟩ := HX.out wr HBR.out
      have hzr := HZ2.out
      have hbr := HS.out.2.2.2.2.2.1
      by_cases hlt : k < n
      · have hltI : (k : Int) < (n : Int) := by omega
        have hwk : IntKind.i64.wrap ((k : Int) + 1) = ((k + 1 : Nat) : Int) := by rw [IntKind.wrap_i64]; omega
        obtain ⟨e, he⟩ : ∃ e, d[k]? = some e := ⟨_, List.getElem?_eq_getElem (by rw [HN.out]; exact hlt)⟩
        have hne : d ≠ [] := fun h => by rw [h] at he; simp at he
        obtain ⟨g, o, rfl, hg, hrow⟩ := hv_row HVV.out hne
        have HEO : Hid (HOk e) := (hrow.2 k e he).1
        have HRG : Hid (∀ V, Below w.heap.size w V → V.rangeAt g (o + k * 32) (b8 e)) := fun V hV j u hu => (hV.cell (p := ⟨g, _, none⟩) hg).trans ((hrow.2 k e he).2 j u hu)
        have HDK : Hid ((d.map hashT).take k ++ [hashT e] = (d.map hashT).take (k + 1)) := by rw [Hid, List.take_add_one, List.getElem?_map, he]; rfl
        have HLK : Hid (((d.map hashT).take k).length = k) := by have := HN.out; rw [Hid]; simp; omega
        have HGW := hid hg
        have c3 : ∀ V, Kp No wr V → V.cell? ⟨w2.heap.size, 3, none⟩ = some (.slice av k cv) := fun V hV => (hV.cell (p := ⟨w2.heap.size, 3, none⟩) HS.out.2.2.2.2.2.1 (fun x => x)).trans HS.out.2.2.2.1
        have HXS : Hid (∀ V, Kp (fun x => x = w2.heap.size ∨ (Value.slice av k cv).ownBlock = some x) wr V → V.cell? ⟨w.heap.size, 1, none⟩ = some (.slice (some ⟨g, o, none⟩) n c)) := fun V hV => by
          refine (hV.cell (p := ⟨w.heap.size, 1, none⟩) (by show w.heap.size < _; omega) (fun hx => ?_)).trans (HX.out wr HBR.out).2
          rcases hx with hx | hx
          · have hx' : w.heap.size = w2.heap.size := hx
            omega
          · have := (HS.out.2.2.2.2.2.2.1.lt w.heap.size hx).1
            omega
        clear hrow he hg hne
        go_wp2_with fail
        refine wp_region_held_drew (S := fun V => Kp (fun x => x = w2.heap.size ∨ (Value.slice av k cv).ownBlock = some x) wr V) (by kernel_rfl) ((Kp.refl _ _).drew) (fun hHeld => ?_)
        refine wpAnyH_take (i := 0) (oi := { dst := some 18, op := Op.fieldAddr 86 (Operand.tmp 4) 3, type := 0, pos := "ref.go:69", after := #[], guard := none }) (v := .pointer (some ⟨w2.heap.size, 3, none⟩)) rfl (by kernel_rfl) (by kernel_rfl) (by kernel_rfl) (fun _ _ _ h => h) (Or.inl ⟨by rfl, fun w' hw' => by (clear hw'; go_simp)⟩) hHeld ?_
        simp only [Act.put, List.setIfInBounds_toArray, List.set_cons_zero, List.set_cons_succ]
        refine wpAnyH_take (i := 2) (oi := { dst := some 20, op := Op.fieldAddr 24 (Operand.tmp 1) 1, type := 0, pos := "ref.go:69", after := #[], guard := none }) (v := .pointer (some ⟨w.heap.size, 1, none⟩)) rfl (by kernel_rfl) (by kernel_rfl) (by kernel_rfl) (fun _ _ _ h => h) (Or.inl ⟨by rfl, fun w' hw' => by (clear hw'; go_simp)⟩) hHeld ?_
        simp only [Act.put, List.setIfInBounds_toArray, List.set_cons_zero, List.set_cons_succ]
        refine wpAnyH_take (i := 3) (oi := { dst := some 21, op := Op.load 22 (Operand.tmp 20), type := 22, pos := "ref.go:69", after := #[{ on := 2, ground := Ground.data }], guard := none }) (v := .slice (some ⟨g, o, none⟩) n c) rfl (by kernel_rfl) (by kernel_rfl) (by kernel_rfl) (fun _ _ _ h => h) (Or.inl ⟨by rfl, fun w' hw' => by (have q := HXS.out _ hw'; clear hw'; go_simp)⟩) hHeld ?_
        simp only [Act.put, List.setIfInBounds_toArray, List.set_cons_zero, List.set_cons_succ]
        refine wpAnyH_take (i := 4) (oi := { dst := some 22, op := Op.move (Operand.tmp 5), type := 3, pos := "ref.go:69", after := #[], guard := none }) (v := .int .i64 (k : Int)) rfl (by kernel_rfl) (by kernel_rfl) (by kernel_rfl) (fun _ _ _ h => h) (Or.inl ⟨by rfl, fun w' hw' => by (clear hw'; go_simp)⟩) hHeld ?_
        simp only [Act.put, List.setIfInBounds_toArray, List.set_cons_zero, List.set_cons_succ]
        refine wpAnyH_take (i := 5) (oi := { dst := some 23, op := Op.indexAddr 22 (Operand.tmp 21) (Operand.tmp 22), type := 0, pos := "ref.go:69", after := #[{ on := 3, ground := Ground.data }, { on := 4, ground := Ground.data }], guard := none }) (v := .pointer (some ⟨g, o + k * 32, none⟩)) rfl (by kernel_rfl) (by kernel_rfl) (by kernel_rfl) (fun _ _ _ h => h) (Or.inl ⟨by rfl, fun w' hw' => by (clear hw'; go_simp)⟩) hHeld ?_
        simp only [Act.put, List.setIfInBounds_toArray, List.set_cons_zero, List.set_cons_succ]
        refine wpAnyH_take (i := 6) (oi := { dst := some 24, op := Op.slice 68 (Operand.tmp 23) none none none, type := 26, pos := "ref.go:69", after := #[{ on := 5, ground := Ground.data }], guard := none }) (v := .slice (some ⟨g, o + k * 32, none⟩) 32 32) rfl (by kernel_rfl) (by kernel_rfl) (by kernel_rfl) (fun _ _ _ h => h) (Or.inl ⟨by rfl, fun w' hw' => by (clear hw'; go_simp)⟩) hHeld ?_
        simp only [Act.put, List.setIfInBounds_toArray, List.set_cons_zero, List.set_cons_succ]
        refine wpAnyH_ready (rs := [1, 7]) (by kernel_rfl) (by simp) ?_
        refine (AllReadyH.cons (o := { dst := some 19, op := Op.load 84 (Operand.tmp 18), type := 84, pos := "ref.go:69", after := #[{ on := 0, ground := Ground.data }], guard := none }) rfl (fun K hK => ?_) (AllReadyH.cons (o := { dst := some 25, op := Op.call { callee := Callee.value (Operand.func 42), args := #[Operand.tmp 24], argTypes := #[26] }, type := 86, pos := "ref.go:69", after := #[{ on := 6, ground := Ground.data }], guard := none }) rfl (fun K hK => ?_) AllReadyH.nil))
        · have q3 := c3 wr.drew ((Kp.refl No wr).drew)
          go_simp
          refine hK.out _ _ (((Kp.refl No wr).drew).ofNo) (fun hh => ?_)
          clear hK K hHeld
          have hHeld := hh
          clear hh
          try simp only [Act.put, List.setIfInBounds_toArray, List.set_cons_zero, List.set_cons_succ]
          refine wpAnyH_ready (rs := [7]) (by kernel_rfl) (by simp) ?_
          refine (AllReadyH.cons (o := { dst := some 25, op := Op.call { callee := Callee.value (Operand.func 42), args := #[Operand.tmp 24], argTypes := #[26] }, type := 86, pos := "ref.go:69", after := #[{ on := 6, ground := Ground.data }], guard := none }) rfl (fun K hK => ?_) AllReadyH.nil)
          go_simp
          refine (rbytes_any _ _ _ _).mono ?_
          rintro e' w3 ⟨rfl, kb⟩
          have HK2 : Hid (Kp No wr w3) := ((Kp.refl No wr).drew).andNone kb
          have hr2 : RepS (fun x => x < w.heap.size ∨ (wr.heap.size ≤ x ∧ x < w3.heap.size)) w3 1 (hashT e) (.slice (some ⟨g, o + k * 32, none⟩) 32 32) (.slice none 0 0) := repS_bytes (hashS HEO.out (.inl HGW.out) (HRG.out w3 (HKW.out.trans (HK2.out.toBelow'.mono HKW.out.size))))
          obtain ⟨g', cap, w4, hap, k3, kf, ks, hvi, hkp⟩ := HS.out.step HLK.out (Nat.le_refl _) (fun x hx => by omega) (Kp.refl No wr) HK2.out hr2 (Nat.le_refl _) (by omega) 84
          simp only [show (hashT e).hd.1 = 2 from rfl, show (hashT e).hd.2.1 = 0 from rfl] at hap
          rw [HDK.out] at hvi
          have HAP := hid hap
          have HVI := hid hvi
          have HKP := hid hkp
          clear hap hvi hkp hr2 kb
          go_wp2_with fail
          refine hK.out _ _ (HK2.out.ofNo) (fun hh => ?_)
          clear hK K hHeld
          have hHeld := hh
          clear hh
          try simp only [Act.put, List.setIfInBounds_toArray, List.set_cons_zero, List.set_cons_succ]
          refine wpAnyH_ready (rs := [8]) (by kernel_rfl) (by simp) ?_
          refine (AllReadyH.cons (o := { dst := some 26, op := Op.buildSlice 84 1 #[(0, Operand.tmp 25)], type := 84, pos := "ref.go:69", after := #[{ on := 7, ground := Ground.data }], guard := none }) rfl (fun K hK => ?_) AllReadyH.nil)
          rw [if_pos (by rfl)]
          refine wp_valE (exec_sliceE 84 _ rfl (.agg #[.int .i64 2, .int .u64 0, .slice (some ⟨g, o + k * 32, none⟩) 32 32, .slice none 0 0]) _ rfl (run_oneRV _ _ _ _ _)) ?_
          refine hK.out _ _ ((HK2.out.alloc _).ofNo) (fun hh => ?_)
          clear hK K hHeld
          have hHeld := hh
          clear hh
          try simp only [Act.put, List.setIfInBounds_toArray, List.set_cons_zero, List.set_cons_succ]
          refine wpAnyH_ready (rs := [9]) (by kernel_rfl) (by simp) ?_
          refine (AllReadyH.cons (o := { dst := some 27, op := Op.call { callee := Callee.builtin Builtin.append, args := #[Operand.tmp 19, Operand.tmp 26], argTypes := #[84, 84] }, type := 84, pos := "ref.go:69", after := #[{ on := 1, ground := Ground.data }, { on := 8, ground := Ground.data }, { on := 7, ground := Ground.chain }], guard := none }) rfl (fun K hK => ?_) AllReadyH.nil)
          rw [if_pos (by rfl)]
          refine wp_valE (exec_appE _ _ 84 rfl (.slice av k cv) (.slice (some ⟨w3.heap.size, 0, none⟩) 1 1) _ rfl rfl HAP.out) ?_
          refine hK.out _ _ (HKP.out) (fun hh => ?_)
          clear hK K hHeld
          have hHeld := hh
          clear hh
          try simp only [Act.put, List.setIfInBounds_toArray, List.set_cons_zero, List.set_cons_succ]
          refine wpAnyH_take (i := 10) (oi := { dst := some 28, op := Op.fieldAddr 86 (Operand.tmp 4) 3, type := 0, pos := "ref.go:69", after := #[{ on := 0, ground := Ground.phase }, { on := 1, ground := Ground.phase }, { on := 2, ground := Ground.phase }, { on := 3, ground := Ground.phase }, { on := 4, ground := Ground.phase }, { on := 5, ground := Ground.phase }, { on := 6, ground := Ground.phase }, { on := 7, ground := Ground.phase }, { on := 8, ground := Ground.phase }, { on := 9, ground := Ground.phase }], guard := none }) (v := .pointer (some ⟨w2.heap.size, 3, none⟩)) rfl (by kernel_rfl) (by kernel_rfl) (by kernel_rfl) (fun _ _ _ h => h) (Or.inl ⟨by rfl, fun w' hw' => by (clear hw'; go_simp)⟩) hHeld ?_
          simp only [Act.put, List.setIfInBounds_toArray, List.set_cons_zero, List.set_cons_succ]
          refine wpAnyH_ready (rs := [11]) (by kernel_rfl) (by simp) ?_
          refine (AllReadyH.cons (o := { dst := none, op := Op.store 84 (Operand.tmp 28) (Operand.tmp 27), type := 0, pos := "ref.go:69", after := #[{ on := 10, ground := Ground.data }, { on := 9, ground := Ground.data }, { on := 9, ground := Ground.chain }, { on := 0, ground := Ground.phase }, { on := 1, ground := Ground.phase }, { on := 2, ground := Ground.phase }, { on := 3, ground := Ground.phase }, { on := 4, ground := Ground.phase }, { on := 5, ground := Ground.phase }, { on := 6, ground := Ground.phase }, { on := 7, ground := Ground.phase }, { on := 8, ground := Ground.phase }, { on := 9, ground := Ground.phase }], guard := none }) rfl (fun K hK => ?_) AllReadyH.nil)
          go_simp
          refine hK.out _ _ (HKP.out.setCell (p := ⟨w2.heap.size, 3, none⟩) (.inl (.inl rfl)) _) (fun hh => ?_)
          clear hK K hHeld
          have hHeld := hh
          clear hh
          try simp only [Act.put, List.setIfInBounds_toArray, List.set_cons_zero, List.set_cons_succ]
          refine wpAnyH_done (by kernel_rfl) ?_ _
          clear hHeld
          go_wp2_with fail
          go_round
          case rel => exact ⟨k + 1, some ⟨g', 0, none⟩, cap, by first | rfl | go_num, by omega, HVI.out⟩
          case measure => simp [intOf]; omega
        · go_simp
          refine (rbytes_any _ _ _ _).mono ?_
          rintro e' w3 ⟨rfl, kb⟩
          have HK2 : Hid (Kp No wr w3) := ((Kp.refl No wr).drew).andNone kb
          have hr2 : RepS (fun x => x < w.heap.size ∨ (wr.heap.size ≤ x ∧ x < w3.heap.size)) w3 1 (hashT e) (.slice (some ⟨g, o + k * 32, none⟩) 32 32) (.slice none 0 0) := repS_bytes (hashS HEO.out (.inl HGW.out) (HRG.out w3 (HKW.out.trans (HK2.out.toBelow'.mono HKW.out.size))))
          obtain ⟨g', cap, w4, hap, k3, kf, ks, hvi, hkp⟩ := HS.out.step HLK.out (Nat.le_refl _) (fun x hx => by omega) (Kp.refl No wr) HK2.out hr2 (Nat.le_refl _) (by omega) 84
          simp only [show (hashT e).hd.1 = 2 from rfl, show (hashT e).hd.2.1 = 0 from rfl] at hap
          rw [HDK.out] at hvi
          have HAP := hid hap
          have HVI := hid hvi
          have HKP := hid hkp
          clear hap hvi hkp hr2 kb
          go_wp2_with fail
          refine hK.out _ _ (HK2.out.ofNo) (fun hh => ?_)
          clear hK K hHeld
          have hHeld := hh
          clear hh
          try simp only [Act.put, List.setIfInBounds_toArray, List.set_cons_zero, List.set_cons_succ]
          refine wpAnyH_ready (rs := [1, 8]) (by kernel_rfl) (by simp) ?_
          refine (AllReadyH.cons (o := { dst := some 19, op := Op.load 84 (Operand.tmp 18), type := 84, pos := "ref.go:69", after := #[{ on := 0, ground := Ground.data }], guard := none }) rfl (fun K hK => ?_) (AllReadyH.cons (o := { dst := some 26, op := Op.buildSlice 84 1 #[(0, Operand.tmp 25)], type := 84, pos := "ref.go:69", after := #[{ on := 7, ground := Ground.data }], guard := none }) rfl (fun K hK => ?_) AllReadyH.nil))
          · have q3 := c3 w3 (HK2.out)
            go_simp
            refine hK.out _ _ (HK2.out.ofNo) (fun hh => ?_)
            clear hK K hHeld
            have hHeld := hh
            clear hh
            try simp only [Act.put, List.setIfInBounds_toArray, List.set_cons_zero, List.set_cons_succ]
            refine wpAnyH_ready (rs := [8]) (by kernel_rfl) (by simp) ?_
            refine (AllReadyH.cons (o := { dst := some 26, op := Op.buildSlice 84 1 #[(0, Operand.tmp 25)], type := 84, pos := "ref.go:69", after := #[{ on := 7, ground := Ground.data }], guard := none }) rfl (fun K hK => ?_) AllReadyH.nil)
            rw [if_pos (by rfl)]
            refine wp_valE (exec_sliceE 84 _ rfl (.agg #[.int .i64 2, .int .u64 0, .slice (some ⟨g, o + k * 32, none⟩) 32 32, .slice none 0 0]) _ rfl (run_oneRV _ _ _ _ _)) ?_
            refine hK.out _ _ ((HK2.out.alloc _).ofNo) (fun hh => ?_)
            clear hK K hHeld
            have hHeld := hh
            clear hh
            try simp only [Act.put, List.setIfInBounds_toArray, List.set_cons_zero, List.set_cons_succ]
            refine wpAnyH_ready (rs := [9]) (by kernel_rfl) (by simp) ?_
            refine (AllReadyH.cons (o := { dst := some 27, op := Op.call { callee := Callee.builtin Builtin.append, args := #[Operand.tmp 19, Operand.tmp 26], argTypes := #[84, 84] }, type := 84, pos := "ref.go:69", after := #[{ on := 1, ground := Ground.data }, { on := 8, ground := Ground.data }, { on := 7, ground := Ground.chain }], guard := none }) rfl (fun K hK => ?_) AllReadyH.nil)
            rw [if_pos (by rfl)]
            refine wp_valE (exec_appE _ _ 84 rfl (.slice av k cv) (.slice (some ⟨w3.heap.size, 0, none⟩) 1 1) _ rfl rfl HAP.out) ?_
            refine hK.out _ _ (HKP.out) (fun hh => ?_)
            clear hK K hHeld
            have hHeld := hh
            clear hh
            try simp only [Act.put, List.setIfInBounds_toArray, List.set_cons_zero, List.set_cons_succ]
            refine wpAnyH_take (i := 10) (oi := { dst := some 28, op := Op.fieldAddr 86 (Operand.tmp 4) 3, type := 0, pos := "ref.go:69", after := #[{ on := 0, ground := Ground.phase }, { on := 1, ground := Ground.phase }, { on := 2, ground := Ground.phase }, { on := 3, ground := Ground.phase }, { on := 4, ground := Ground.phase }, { on := 5, ground := Ground.phase }, { on := 6, ground := Ground.phase }, { on := 7, ground := Ground.phase }, { on := 8, ground := Ground.phase }, { on := 9, ground := Ground.phase }], guard := none }) (v := .pointer (some ⟨w2.heap.size, 3, none⟩)) rfl (by kernel_rfl) (by kernel_rfl) (by kernel_rfl) (fun _ _ _ h => h) (Or.inl ⟨by rfl, fun w' hw' => by (clear hw'; go_simp)⟩) hHeld ?_
            simp only [Act.put, List.setIfInBounds_toArray, List.set_cons_zero, List.set_cons_succ]
            refine wpAnyH_ready (rs := [11]) (by kernel_rfl) (by simp) ?_
            refine (AllReadyH.cons (o := { dst := none, op := Op.store 84 (Operand.tmp 28) (Operand.tmp 27), type := 0, pos := "ref.go:69", after := #[{ on := 10, ground := Ground.data }, { on := 9, ground := Ground.data }, { on := 9, ground := Ground.chain }, { on := 0, ground := Ground.phase }, { on := 1, ground := Ground.phase }, { on := 2, ground := Ground.phase }, { on := 3, ground := Ground.phase }, { on := 4, ground := Ground.phase }, { on := 5, ground := Ground.phase }, { on := 6, ground := Ground.phase }, { on := 7, ground := Ground.phase }, { on := 8, ground := Ground.phase }, { on := 9, ground := Ground.phase }], guard := none }) rfl (fun K hK => ?_) AllReadyH.nil)
            go_simp
            refine hK.out _ _ (HKP.out.setCell (p := ⟨w2.heap.size, 3, none⟩) (.inl (.inl rfl)) _) (fun hh => ?_)
            clear hK K hHeld
            have hHeld := hh
            clear hh
            try simp only [Act.put, List.setIfInBounds_toArray, List.set_cons_zero, List.set_cons_succ]
            refine wpAnyH_done (by kernel_rfl) ?_ _
            clear hHeld
            go_wp2_with fail
            go_round
            case rel => exact ⟨k + 1, some ⟨g', 0, none⟩, cap, by first | rfl | go_num, by omega, HVI.out⟩
            case measure => simp [intOf]; omega
          · rw [if_pos (by rfl)]
            refine wp_valE (exec_sliceE 84 _ rfl (.agg #[.int .i64 2, .int .u64 0, .slice (some ⟨g, o + k * 32, none⟩) 32 32, .slice none 0 0]) _ rfl (run_oneRV _ _ _ _ _)) ?_
            refine hK.out _ _ ((HK2.out.alloc _).ofNo) (fun hh => ?_)
            clear hK K hHeld
            have hHeld := hh
            clear hh
            try simp only [Act.put, List.setIfInBounds_toArray, List.set_cons_zero, List.set_cons_succ]
            refine wpAnyH_ready (rs := [1]) (by kernel_rfl) (by simp) ?_
            refine (AllReadyH.cons (o := { dst := some 19, op := Op.load 84 (Operand.tmp 18), type := 84, pos := "ref.go:69", after := #[{ on := 0, ground := Ground.data }], guard := none }) rfl (fun K hK => ?_) AllReadyH.nil)
            have q3 := c3 (w3.alloc (.cells #[.int .i64 2, .int .u64 0, .slice (some ⟨g, o + k * 32, none⟩) 32 32, .slice none 0 0] 86)) ((HK2.out.alloc _))
            go_simp
            refine hK.out _ _ ((HK2.out.alloc _).ofNo) (fun hh => ?_)
            clear hK K hHeld
            have hHeld := hh
            clear hh
            try simp only [Act.put, List.setIfInBounds_toArray, List.set_cons_zero, List.set_cons_succ]
            refine wpAnyH_ready (rs := [9]) (by kernel_rfl) (by simp) ?_
            refine (AllReadyH.cons (o := { dst := some 27, op := Op.call { callee := Callee.builtin Builtin.append, args := #[Operand.tmp 19, Operand.tmp 26], argTypes := #[84, 84] }, type := 84, pos := "ref.go:69", after := #[{ on := 1, ground := Ground.data }, { on := 8, ground := Ground.data }, { on := 7, ground := Ground.chain }], guard := none }) rfl (fun K hK => ?_) AllReadyH.nil)
            rw [if_pos (by rfl)]
            refine wp_valE (exec_appE _ _ 84 rfl (.slice av k cv) (.slice (some ⟨w3.heap.size, 0, none⟩) 1 1) _ rfl rfl HAP.out) ?_
            refine hK.out _ _ (HKP.out) (fun hh => ?_)
            clear hK K hHeld
            have hHeld := hh
            clear hh
            try simp only [Act.put, List.setIfInBounds_toArray, List.set_cons_zero, List.set_cons_succ]
            refine wpAnyH_take (i := 10) (oi := { dst := some 28, op := Op.fieldAddr 86 (Operand.tmp 4) 3, type := 0, pos := "ref.go:69", after := #[{ on := 0, ground := Ground.phase }, { on := 1, ground := Ground.phase }, { on := 2, ground := Ground.phase }, { on := 3, ground := Ground.phase }, { on := 4, ground := Ground.phase }, { on := 5, ground := Ground.phase }, { on := 6, ground := Ground.phase }, { on := 7, ground := Ground.phase }, { on := 8, ground := Ground.phase }, { on := 9, ground := Ground.phase }], guard := none }) (v := .pointer (some ⟨w2.heap.size, 3, none⟩)) rfl (by kernel_rfl) (by kernel_rfl) (by kernel_rfl) (fun _ _ _ h => h) (Or.inl ⟨by rfl, fun w' hw' => by (clear hw'; go_simp)⟩) hHeld ?_
            simp only [Act.put, List.setIfInBounds_toArray, List.set_cons_zero, List.set_cons_succ]
            refine wpAnyH_ready (rs := [11]) (by kernel_rfl) (by simp) ?_
            refine (AllReadyH.cons (o := { dst := none, op := Op.store 84 (Operand.tmp 28) (Operand.tmp 27), type := 0, pos := "ref.go:69", after := #[{ on := 10, ground := Ground.data }, { on := 9, ground := Ground.data }, { on := 9, ground := Ground.chain }, { on := 0, ground := Ground.phase }, { on := 1, ground := Ground.phase }, { on := 2, ground := Ground.phase }, { on := 3, ground := Ground.phase }, { on := 4, ground := Ground.phase }, { on := 5, ground := Ground.phase }, { on := 6, ground := Ground.phase }, { on := 7, ground := Ground.phase }, { on := 8, ground := Ground.phase }, { on := 9, ground := Ground.phase }], guard := none }) rfl (fun K hK => ?_) AllReadyH.nil)
            go_simp
            refine hK.out _ _ (HKP.out.setCell (p := ⟨w2.heap.size, 3, none⟩) (.inl (.inl rfl)) _) (fun hh => ?_)
            clear hK K hHeld
            have hHeld := hh
            clear hh
            try simp only [Act.put, List.setIfInBounds_toArray, List.set_cons_zero, List.set_cons_succ]
            refine wpAnyH_done (by kernel_rfl) ?_ _
            clear hHeld
            go_wp2_with fail
            go_round
            case rel => exact ⟨k + 1, some ⟨g', 0, none⟩, cap, by first | rfl | go_num, by omega, HVI.out⟩
            case measure => simp [intOf]; omega
      · have hltI : ¬ (k : Int) < (n : Int) := by omega
        have hkn' : k = n := by omega
        subst hkn'
        have hF := HS.out
        have ek : (d.map hashT).take k = d.map hashT := List.take_of_length_le (by have := HN.out; simp; omega)
        rw [ek] at hF
        obtain ⟨f0, f1, f2, f3, ff, fs, fm, fb⟩ := hF
        have HKS : Hid (KSlS (fun b => b < wr.heap.size) wr (RepS (fun b => b < wr.heap.size) wr 1) (.slice av k cv) (d.map hashT)) :=
          kslS_lift (fm.done (by simp; have := HN.out; omega)) (fun _ _ => rfl) (fun b hb => by rcases hb with hb | hb <;> omega)
        have HTW := hid (twoInS s (d.map hashT) _ (by have := HS0.out; omega) HKS.out 86 _ rfl)
        have HWU2 := HWU.out
        clear ek fm fb HS hlt
        go_wp2_with fail
        refine (rlist_any _ _ _ _).mono ?_
        rintro e w3 ⟨rfl, k3⟩
        have HB3 : Hid (Below wr.heap.size wr w3) := ((Below.refl _ wr).alloc (Nat.le_refl _) _).trans (k3.toBelow'.mono (by simp))
        have HRO := hid (rObject_any w3 2 (by omega) (fileT s d) (.slice none 0 0) (.slice (some ⟨wr.heap.size, 0, none⟩) 2 2) (repS_list (kslS_lift HTW.out (fun b hb => k3.block b (by simpa using hb) (fun x => x)) (fun b hb => by have := k3.size; simp at this; omega))) HSZ2.out)
        rw [show (fileT s d).hd.1 = 3 from rfl, show (fileT s d).hd.2.1 = 0 from rfl] at HRO
        clear f0 f1 f2 f3 ff k3 HTW HKS x0 x1
        go_wp2_with fail
        refine HRO.out.mono ?_
        rintro e w4 ⟨hp, hb4⟩
        obtain ⟨k0, a0, n0, c0, fa, bs0, rfl, hy0, ho0⟩ := hp
        have HB4 : Hid (Below W0.heap.size W0 w4) := (HBR.out.trans (HB3.out.mono HBR.out.size)).trans (hb4.mono (Nat.le_trans HBR.out.size HB3.out.size))
        have HBW4 : Hid (Below w.heap.size w w4) := HB0.out.trans (HB4.out.mono HB0.out.size)
        obtain ⟨g0, g1, gf, hg2, hgn⟩ := HR.out w4 HB4.out
        have HGN := hid hgn
        have HY0 := hid hy0
        have HO0 : Hid (((fileB s d.length = true ∧ objP (fileT s d)) ∧ k0 = 2 ∧ fa = 0 ∧ bs0 = Tlv.formOf 3 (fileT s d)) ∨ (¬ (fileB s d.length = true ∧ objP (fileT s d)) ∧ k0 = 0 ∧ fa = 1 ∧ bs0 = [])) := by
          rcases ho0 with ⟨h1, h2⟩ | ⟨h1, h2⟩
          · exact .inl ⟨⟨by rw [HN.out]; exact HFB.out, h1⟩, h2⟩
          · exact .inr ⟨fun h => h1 h.2, h2⟩
        clear hb4 hgn hy0 ho0 HRO
        go_wp2_with fail
        obtain ⟨q0, q1⟩ := set2_read (u0 := .int .i64 k0) (u1 := .slice a0 n0 c0) g0 g1
        refine bodyPost_ret (v := .tuple #[.agg #[.int .i64 k0, .slice a0 n0 c0], .int .i64 fa]) (by simp [results, Try.results11, go_sem, q0, q1]) rfl ⟨(by rw [HN.out] at HO0; exact ⟨k0, a0, n0, c0, fa, bs0, rfl, bySl_ne HY0.out HGN.out (((Kp.refl (· = w.heap.size + 1) _).setCell (p := ⟨w.heap.size + 1, 0, none⟩) (.inl rfl) _).setCell (p := ⟨w.heap.size + 1, 1, none⟩) (.inl rfl) _), HO0.out⟩), ?_⟩
        exact (HBW4.out.setCell (by simp) _).setCell (by simp) _
end Go.Proofs.Ytenfahecnkdhaaa.Nd
end
