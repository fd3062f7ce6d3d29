/-
  ShaTexts, walked.
-/
import Derived.Test.YtbmdnjmdehmahaaTrip
import Derived.Test.YtbmdnjmdehmahaaEq
import Derived.Deep.RegionHeld3
namespace Go.Proofs.Ytbmdnjmdehmahaa
open Go.RowKit

/-- A hash in a block of its own. -/
def HRow (w : World) (g : Nat) (cs : List Value) : Prop := w.heap[g]? = some (.cells cs.toArray 30)
theorem HRow.below {w w' : World} {g : Nat} {cs : List Value} (h : HRow w g cs) (hb : Below w.heap.size w w') : HRow w' g cs :=
  (hb.block g (Array.getElem?_eq_some_iff.1 h).1).trans h
theorem HRow.range {w : World} {g : Nat} {cs : List Value} (h : HRow w g cs) : w.rangeAt g 0 cs := fun j v hv => by
  rw [Nat.zero_add, cell_of_row w g j _ 30 (0, 0) h]
  simpa using hv
theorem HRow.new (w : World) (cs : List Value) : HRow (w.alloc (.cells cs.toArray 30)) w.heap.size cs := heap_alloc_new _ _

/-- What lies in the law's memory. -/
structure Laid (w W : World) (g7 g9 g11 : Nat) (ca cb xs : List Value) : Prop where
  a : HRow W w.heap.size ca
  b : HRow W (w.heap.size + 1) cb
  x : HRow W g7 xs
  y : HRow W g9 xs
  z : HRow W g11 ca
  bel : Below w.heap.size w W
theorem Laid.below {w W W' : World} {g7 g9 g11 : Nat} {ca cb xs : List Value} (h : Laid w W g7 g9 g11 ca cb xs) (hb : Below W.heap.size W W') : Laid w W' g7 g9 g11 ca cb xs :=
  ⟨h.a.below hb, h.b.below hb, h.x.below hb, h.y.below hb, h.z.below hb, h.bel.trans (hb.mono h.bel.size)⟩
theorem Laid.limbs {w W : World} {g7 g9 g11 : Nat} {ca cb xs : List Value} (h : Laid w W g7 g9 g11 ca cb xs) : W.rangeAt w.heap.size 0 ca ∧ W.rangeAt (w.heap.size + 1) 0 cb ∧ W.rangeAt g7 0 xs ∧ W.rangeAt g9 0 xs ∧ W.rangeAt g11 0 ca ∧ Hid (Laid w W g7 g9 g11 ca cb xs) :=
  ⟨h.a.range, h.b.range, h.x.range, h.y.range, h.z.range, h⟩
theorem bytes_same (T : ByteArray) : (T == T) = true := by
  cases T with
  | mk d =>
    show (d == d) = true
    simp

set_option maxHeartbeats 4000000 in
set_option maxRecDepth 100000 in
theorem texts_walk (ca cb xs : List Value) (s T : ByteArray) (F R : Int) (p q : Bool) (w : World) (hs : s.size ≤ 200)
    (HR : Hid (R = if q then 1 else if p then -1 else 0)) (LA : Hid (ca.length = 32)) (LB : Hid (cb.length = 32)) (LX : Hid (xs.length = 32)) (OX : Hid (∀ v ∈ xs, v.oneCell' = true)) (OA : Hid (∀ v ∈ ca, v.oneCell' = true))
    (EA : ∀ w, (Op.equalIn 10000 30 (.agg ca.toArray) (.agg ca.toArray)).run Try.prog w = .ok true w) (EX : ∀ w, (Op.equalIn 10000 30 (.agg xs.toArray) (.agg xs.toArray)).run Try.prog w = .ok true w)
    (C18 : Hid (∀ W, Calls Try.prog 18 #[.string s] W fun e w' => e = .returned (.tuple #[.agg xs.toArray, .int .i64 F]) ∧ Below W.heap.size W w'))
    (C19 : Hid (∀ W, Calls Try.prog 19 #[.string s] W fun e w' => e = .returned (.tuple #[.agg xs.toArray, .int .i64 F]) ∧ Below W.heap.size W w'))
    (D18 : Hid (∀ W, Calls Try.prog 18 #[.string T] W fun e w' => e = .returned (.tuple #[.agg ca.toArray, .int .i64 0]) ∧ Below W.heap.size W w'))
    (C20 : Hid (∀ W, Calls Try.prog 20 #[.agg ca.toArray] W fun e w' => e = .returned (.string T) ∧ Below W.heap.size W w'))
    (C22 : Hid (∀ W, Calls Try.prog 22 #[.agg ca.toArray] W fun e w' => e = .returned (.string T) ∧ Below W.heap.size W w'))
    (C21 : Hid (∀ W, Calls Try.prog 21 #[.agg ca.toArray, .agg cb.toArray] W fun e w' => e = .returned (.bool p) ∧ Below W.heap.size W w'))
    (D21 : Hid (∀ W, Calls Try.prog 21 #[.agg cb.toArray, .agg ca.toArray] W fun e w' => e = .returned (.bool q) ∧ Below W.heap.size W w'))
    (C23 : Hid (∀ W, Calls Try.prog 23 #[.agg ca.toArray, .agg cb.toArray] W fun e w' => e = .returned (.int .i64 R) ∧ Below W.heap.size W w'))
    (C7 : Hid (∀ W, Calls Try.prog 7 #[] W fun e w' => e = .returned (.bool true) ∧ Below W.heap.size W w')) :
    Calls Try.prog 5 #[.agg ca.toArray, .agg cb.toArray, .string s] w fun e w' => e = .returned (.bool true) ∧ Below w.heap.size w w' := by
  have HEA := hid EA
  have HEX := hid EX
  clear EA EX
  have IA : Hid ((Try.prog.info? 30).map (·.size) = some ca.toArray.size) := by rw [Hid, List.size_toArray, LA.out]; exact Try.info30
  have IX : Hid ((Try.prog.info? 30).map (·.size) = some xs.toArray.size) := by rw [Hid, List.size_toArray, LX.out]; exact Try.info30
  have IXz : Hid (32 = xs.toArray.size) := by rw [Hid, List.size_toArray, LX.out]
  have IAz : Hid (32 = ca.toArray.size) := by rw [Hid, List.size_toArray, LA.out]
  have UX : Hid (xs.toArray.all (·.oneCell') = true) := all_oneCell_toArray OX.out
  have UA : Hid (ca.toArray.all (·.oneCell') = true) := all_oneCell_toArray OA.out
  have IAl : Hid ((Try.prog.info? 30).map (·.size) = some ca.length) := by rw [Hid, LA.out]; exact Try.info30
  have IBl : Hid ((Try.prog.info? 30).map (·.size) = some cb.length) := by rw [Hid, LB.out]; exact Try.info30
  have IXl : Hid ((Try.prog.info? 30).map (·.size) = some xs.length) := by rw [Hid, LX.out]; exact Try.info30
  clear LA LB LX OX OA
  go_enter Try.func5, Try.ntmps5
  go_wp2_with fail
  obtain ⟨W1, hW1⟩ : ∃ W1, (w.alloc (.cells ca.toArray 30)).alloc (.cells cb.toArray 30) = W1 := ⟨_, rfl⟩
  have HW : Hid (HRow W1 w.heap.size ca ∧ HRow W1 (w.heap.size + 1) cb ∧ Below w.heap.size w W1) := by
    rw [Hid, ← hW1]
    exact ⟨heap_alloc2_old _ _ _, heap_alloc2_new _ _ _, ((Below.refl _ _).alloc (Nat.le_refl _) _).alloc (by simp) _⟩
  rw [hW1]
  clear hW1
  refine (C18.out W1).mono ?_
  rintro e w2 ⟨rfl, hb2⟩
  have HW2 : Hid (HRow w2 w.heap.size ca ∧ HRow w2 (w.heap.size + 1) cb ∧ Below w.heap.size w w2) := ⟨HW.out.1.below hb2, HW.out.2.1.below hb2, HW.out.2.2.trans (hb2.mono HW.out.2.2.size)⟩
  clear hb2 HW
  go_wp2_with (refine wpList_store_row (by rfl) 30 _ _ (by rfl) w2.heap.size xs.toArray (by rfl) (by rfl) 30 ?old ?hg IX.out ?hs UX.out ?_; (case hg => exact heap_alloc_new _ _); (case hs => exact IXz.out); rw [World.setRow_alloc_new])
  obtain ⟨W3, hW3⟩ : ∃ W3, w2.alloc (.cells xs.toArray 30) = W3 := ⟨_, rfl⟩
  have HW3 : Hid (HRow W3 w.heap.size ca ∧ HRow W3 (w.heap.size + 1) cb ∧ HRow W3 w2.heap.size xs ∧ Below w.heap.size w W3) := by
    have hb : Below w2.heap.size w2 W3 := by rw [← hW3]; exact (Below.refl _ _).alloc (Nat.le_refl _) _
    exact ⟨HW2.out.1.below hb, HW2.out.2.1.below hb, by rw [← hW3]; exact HRow.new _ _, HW2.out.2.2.trans (hb.mono HW2.out.2.2.size)⟩
  rw [hW3]
  clear hW3 HW2
  obtain ⟨g7, hg7⟩ : ∃ g, w2.heap.size = g := ⟨_, rfl⟩
  rw [hg7] at HW3 ⊢
  clear hg7
  refine (C19.out W3).mono ?_
  rintro e w4 ⟨rfl, hb4⟩
  have HW4 : Hid (HRow w4 w.heap.size ca ∧ HRow w4 (w.heap.size + 1) cb ∧ HRow w4 g7 xs ∧ Below w.heap.size w w4) := ⟨HW3.out.1.below hb4, HW3.out.2.1.below hb4, HW3.out.2.2.1.below hb4, HW3.out.2.2.2.trans (hb4.mono HW3.out.2.2.2.size)⟩
  clear hb4 HW3
  go_upto_region 5 with (refine wpList_store_row (by rfl) 30 _ _ (by rfl) w4.heap.size xs.toArray (by rfl) (by rfl) 30 ?old ?hg IX.out ?hs UX.out ?_; (case hg => exact heap_alloc_new _ _); (case hs => exact IXz.out); rw [World.setRow_alloc_new])
  obtain ⟨W5, hW5⟩ : ∃ W5, w4.alloc (.cells xs.toArray 30) = W5 := ⟨_, rfl⟩
  have HW5 : Hid (HRow W5 w.heap.size ca ∧ HRow W5 (w.heap.size + 1) cb ∧ HRow W5 g7 xs ∧ HRow W5 w4.heap.size xs ∧ Below w.heap.size w W5) := by
    have hb : Below w4.heap.size w4 W5 := by rw [← hW5]; exact (Below.refl _ _).alloc (Nat.le_refl _) _
    exact ⟨HW4.out.1.below hb, HW4.out.2.1.below hb, HW4.out.2.2.1.below hb, by rw [← hW5]; exact HRow.new _ _, HW4.out.2.2.2.trans (hb.mono HW4.out.2.2.2.size)⟩
  rw [hW5]
  clear hW5 HW4
  obtain ⟨g9, hg9⟩ : ∃ g, w4.heap.size = g := ⟨_, rfl⟩
  rw [hg9] at HW5 ⊢
  clear hg9
  go_wp2_with (refine wpList_load_mid (by rfl) 30 _ (by rfl) w.heap.size 0 (by rfl) ca _ ?hc Try.underlying30 rfl IAl.out ?_; (case hc => exact HW5.out.1.range))
  refine (C20.out W5).mono ?_
  rintro e w6 ⟨rfl, hb6⟩
  go_wp2_with fail
  refine (D18.out w6).mono ?_
  rintro e w7 ⟨rfl, hb7⟩
  have HW7 : Hid (HRow w7 w.heap.size ca ∧ HRow w7 (w.heap.size + 1) cb ∧ HRow w7 g7 xs ∧ HRow w7 g9 xs ∧ Below w.heap.size w w7) := by
    have hb : Below W5.heap.size W5 w7 := hb6.trans (hb7.mono hb6.size)
    exact ⟨HW5.out.1.below hb, HW5.out.2.1.below hb, HW5.out.2.2.1.below hb, HW5.out.2.2.2.1.below hb, HW5.out.2.2.2.2.trans (hb.mono HW5.out.2.2.2.2.size)⟩
  clear hb6 hb7 HW5
  go_upto_region 7 with (refine wpList_store_row (by rfl) 30 _ _ (by rfl) w7.heap.size ca.toArray (by rfl) (by rfl) 30 ?old ?hg IA.out ?hs UA.out ?_; (case hg => exact heap_alloc_new _ _); (case hs => exact IAz.out); rw [World.setRow_alloc_new])
  obtain ⟨W8, hW8⟩ : ∃ W8, w7.alloc (.cells ca.toArray 30) = W8 := ⟨_, rfl⟩
  obtain ⟨g11, hg11⟩ : ∃ g, w7.heap.size = g := ⟨_, rfl⟩
  have HL8 : Hid (Laid w W8 g7 g9 g11 ca cb xs) := by
    have hb : Below w7.heap.size w7 W8 := by rw [← hW8]; exact (Below.refl _ _).alloc (Nat.le_refl _) _
    exact ⟨HW7.out.1.below hb, HW7.out.2.1.below hb, HW7.out.2.2.1.below hb, HW7.out.2.2.2.1.below hb, by rw [← hW8, ← hg11]; exact HRow.new _ _, HW7.out.2.2.2.2.trans (hb.mono HW7.out.2.2.2.2.size)⟩
  rw [hW8, hg11]
  clear hW8 hg11 HW7
  go_wp2_with (first | (refine wpList_load_mid (by rfl) 30 _ (by rfl) w.heap.size 0 (by rfl) ca _ ?hc Try.underlying30 rfl IAl.out ?_; (case hc => exact HL8.out.a.range)) | (refine wpList_load_mid (by rfl) 30 _ (by rfl) (w.heap.size + 1) 0 (by rfl) cb _ ?hc Try.underlying30 rfl IBl.out ?_; (case hc => exact HL8.out.b.range)))
  refine (C21.out W8).mono ?_
  rintro e w9 ⟨rfl, hb9⟩
  have HL9 : Hid (Laid w w9 g7 g9 g11 ca cb xs) := HL8.out.below hb9
  clear hb9 HL8
  cases p
  all_goals
    go_wp2_with (first | (refine wpList_load_mid (by rfl) 30 _ (by rfl) w.heap.size 0 (by rfl) ca _ ?hc Try.underlying30 rfl IAl.out ?_; (case hc => exact HL9.out.a.range)) | (refine wpList_load_mid (by rfl) 30 _ (by rfl) (w.heap.size + 1) 0 (by rfl) cb _ ?hc Try.underlying30 rfl IBl.out ?_; (case hc => exact HL9.out.b.range)))
    refine (D21.out w9).mono ?_
    rintro e w10 ⟨rfl, hb10⟩
    have HL10 : Hid (Laid w w10 g7 g9 g11 ca cb xs) := HL9.out.below hb10
    clear hb10 HL9
    cases q
    all_goals
      have hR := HR.out
      simp only [if_true, if_false, Bool.false_eq_true] at hR
      subst hR
      go_upto_region 11 with fail
      as_aux_lemma =>
        have hTT := bytes_same T
        have hFF : (F == F) = true := by simp
        have hEA := HEA.out
        have hEX := HEX.out
        have u30 := Try.underlying30
        have iA := IAl.out
        have iB := IBl.out
        have iX := IXl.out
        have K20 : Hid (∀ W, Laid w W g7 g9 g11 ca cb xs → Calls Try.prog 20 #[.agg ca.toArray] W fun e w' => e = .returned (.string T) ∧ Laid w w' g7 g9 g11 ca cb xs) := fun W h => (C20.out W).mono fun e w' k => ⟨k.1, h.below k.2⟩
        have K22 : Hid (∀ W, Laid w W g7 g9 g11 ca cb xs → Calls Try.prog 22 #[.agg ca.toArray] W fun e w' => e = .returned (.string T) ∧ Laid w w' g7 g9 g11 ca cb xs) := fun W h => (C22.out W).mono fun e w' k => ⟨k.1, h.below k.2⟩
        have K23 : Hid (∀ W, Laid w W g7 g9 g11 ca cb xs → Calls Try.prog 23 #[.agg ca.toArray, .agg cb.toArray] W fun e w' => e = .returned (.int .i64 _) ∧ Laid w w' g7 g9 g11 ca cb xs) := fun W h => (C23.out W).mono fun e w' k => ⟨k.1, h.below k.2⟩
        have K7 : Hid (∀ W, Laid w W g7 g9 g11 ca cb xs → Calls Try.prog 7 #[] W fun e w' => e = .returned (.bool true) ∧ Laid w w' g7 g9 g11 ca cb xs) := fun W h => (C7.out W).mono fun e w' k => ⟨k.1, h.below k.2⟩
        have HL11 : Hid (Laid w w10.drew g7 g9 g11 ca cb xs) := HL10.out.below (Below.refl _ _).drew
        clear HR IA IX IXz IAz UX UA IAl IBl IXl C18 C19 D18 C20 C22 C21 D21 C23 C7 HEA HEX
        refine wp_region_held_drew (S := fun w' => Laid w w' g7 g9 g11 ca cb xs) (by kernel_rfl) HL11.out (fun hHeld => ?_)
        refine wpAnyH_take (i := 0) (oi := { dst := some 40, op := Op.load 30 (Operand.tmp 3), type := 30, pos := "law.go:84", after := #[], guard := none }) (v := .agg ca.toArray) rfl (by kernel_rfl) (by kernel_rfl) (by kernel_rfl) (fun _ _ _ h => h) (yieldsIf_load_mid (by rfl) _ _ rfl w.heap.size 0 rfl ca _ (fun _ h => h.a.range) u30 rfl iA) hHeld ?_
        simp only [Act.put, List.setIfInBounds_toArray, List.set_cons_zero, List.set_cons_succ]
        refine wpAnyH_take (i := 2) (oi := { dst := some 42, op := Op.load 30 (Operand.tmp 3), type := 30, pos := "law.go:84", after := #[], guard := none }) (v := .agg ca.toArray) rfl (by kernel_rfl) (by kernel_rfl) (by kernel_rfl) (fun _ _ _ h => h) (yieldsIf_load_mid (by rfl) _ _ rfl w.heap.size 0 rfl ca _ (fun _ h => h.a.range) u30 rfl iA) hHeld ?_
        simp only [Act.put, List.setIfInBounds_toArray, List.set_cons_zero, List.set_cons_succ]
        refine wpAnyH_ready (rs := [1]) (by kernel_rfl) (by simp) ?_
        refine AllReadyH.cons (o := { dst := some 41, op := Op.call { callee := Callee.value (Operand.func 20), args := #[Operand.tmp 40], argTypes := #[30] }, type := 9, pos := "law.go:84", after := #[{ on := 0, ground := Ground.data }], guard := none }) rfl (fun K hK => ?_) AllReadyH.nil
        go_simp
        refine (K20.out _ hHeld).mono ?_
        rintro e w11 ⟨rfl, hl⟩
        go_wp2_with fail
        refine hK.out _ _ hl (fun hh => ?_)
        clear hK K hl hHeld
        have hHeld := hh
        clear hh
        try simp only [Act.put, List.setIfInBounds_toArray, List.set_cons_zero, List.set_cons_succ]
        refine wpAnyH_ready (rs := [3]) (by kernel_rfl) (by simp) ?_
        refine AllReadyH.cons (o := { dst := some 43, op := Op.call { callee := Callee.value (Operand.func 22), args := #[Operand.tmp 42], argTypes := #[30] }, type := 9, pos := "law.go:84", after := #[{ on := 2, ground := Ground.data }, { on := 1, ground := Ground.chain }], guard := none }) rfl (fun K hK => ?_) AllReadyH.nil
        go_simp
        refine (K22.out _ hHeld).mono ?_
        rintro e w12 ⟨rfl, hl⟩
        go_wp2_with fail
        refine hK.out _ _ hl (fun hh => ?_)
        clear hK K hl hHeld
        have hHeld := hh
        clear hh
        try simp only [Act.put, List.setIfInBounds_toArray, List.set_cons_zero, List.set_cons_succ]
        refine wpAnyH_take (i := 4) (oi := { dst := some 44, op := Op.binOp BinOp.eql 9 (Operand.tmp 41) (Operand.tmp 43) 9, type := 4, pos := "law.go:84", after := #[{ on := 1, ground := Ground.data }, { on := 3, ground := Ground.data }], guard := none }) (v := .bool true) rfl (by kernel_rfl) (by kernel_rfl) (by kernel_rfl) (fun _ _ _ h => h) (Or.inl ⟨by rfl, fun w' _ => by go_simp⟩) hHeld ?_
        simp only [Act.put, List.setIfInBounds_toArray, List.set_cons_zero, List.set_cons_succ]
        refine wpAnyH_take (i := 5) (oi := { dst := some 45, op := Op.move (Operand.tmp 44), type := 4, pos := "law.go:84", after := #[{ on := 4, ground := Ground.data }, { on := 3, ground := Ground.chain }], guard := none }) (v := .bool true) rfl (by kernel_rfl) (by kernel_rfl) (by kernel_rfl) (fun _ _ _ h => h) (Or.inl ⟨by rfl, fun w' _ => by go_simp⟩) hHeld ?_
        simp only [Act.put, List.setIfInBounds_toArray, List.set_cons_zero, List.set_cons_succ]
        refine wpAnyH_take (i := 6) (oi := { dst := some 46, op := Op.load 30 (Operand.tmp 7), type := 30, pos := "law.go:84", after := #[{ on := 5, ground := Ground.guard }], guard := some (5, true) }) (v := .agg xs.toArray) rfl (by kernel_rfl) (by kernel_rfl) (by kernel_rfl) (fun _ _ _ h => h) (yieldsIf_load_mid (by rfl) _ _ rfl g7 0 rfl xs _ (fun _ h => h.x.range) u30 rfl iX) hHeld ?_
        simp only [Act.put, List.setIfInBounds_toArray, List.set_cons_zero, List.set_cons_succ]
        refine wpAnyH_take (i := 7) (oi := { dst := some 47, op := Op.load 30 (Operand.tmp 9), type := 30, pos := "law.go:84", after := #[{ on := 5, ground := Ground.guard }], guard := some (5, true) }) (v := .agg xs.toArray) rfl (by kernel_rfl) (by kernel_rfl) (by kernel_rfl) (fun _ _ _ h => h) (yieldsIf_load_mid (by rfl) _ _ rfl g9 0 rfl xs _ (fun _ h => h.y.range) u30 rfl iX) hHeld ?_
        simp only [Act.put, List.setIfInBounds_toArray, List.set_cons_zero, List.set_cons_succ]
        refine wpAnyH_take (i := 8) (oi := { dst := some 48, op := Op.binOp BinOp.eql 30 (Operand.tmp 46) (Operand.tmp 47) 30, type := 4, pos := "law.go:84", after := #[{ on := 6, ground := Ground.data }, { on := 7, ground := Ground.data }, { on := 5, ground := Ground.guard }], guard := some (5, true) }) (v := .bool true) rfl (by kernel_rfl) (by kernel_rfl) (by kernel_rfl) (fun _ _ _ h => h) (Or.inl ⟨by rfl, fun w' _ => by go_simp⟩) hHeld ?_
        simp only [Act.put, List.setIfInBounds_toArray, List.set_cons_zero, List.set_cons_succ]
        refine wpAnyH_take (i := 9) (oi := { dst := some 49, op := Op.pick (Operand.tmp 45) (Operand.tmp 48) (Operand.const (Value.bool false)), type := 4, pos := "law.go:84", after := #[{ on := 5, ground := Ground.data }, { on := 8, ground := Ground.data }], guard := none }) (v := .bool true) rfl (by kernel_rfl) (by kernel_rfl) (by kernel_rfl) (fun _ _ _ h => h) (Or.inl ⟨by rfl, fun w' _ => by go_simp⟩) hHeld ?_
        simp only [Act.put, List.setIfInBounds_toArray, List.set_cons_zero, List.set_cons_succ]
        refine wpAnyH_take (i := 10) (oi := { dst := some 50, op := Op.move (Operand.tmp 49), type := 4, pos := "law.go:84", after := #[{ on := 9, ground := Ground.data }, { on := 5, ground := Ground.chain }], guard := none }) (v := .bool true) rfl (by kernel_rfl) (by kernel_rfl) (by kernel_rfl) (fun _ _ _ h => h) (Or.inl ⟨by rfl, fun w' _ => by go_simp⟩) hHeld ?_
        simp only [Act.put, List.setIfInBounds_toArray, List.set_cons_zero, List.set_cons_succ]
        refine wpAnyH_take (i := 11) (oi := { dst := some 51, op := Op.move (Operand.tmp 8), type := 42, pos := "law.go:84", after := #[{ on := 10, ground := Ground.guard }], guard := some (10, true) }) (v := .int .i64 F) rfl (by kernel_rfl) (by kernel_rfl) (by kernel_rfl) (fun _ _ _ h => h) (Or.inl ⟨by rfl, fun w' _ => by go_simp⟩) hHeld ?_
        simp only [Act.put, List.setIfInBounds_toArray, List.set_cons_zero, List.set_cons_succ]
        refine wpAnyH_take (i := 12) (oi := { dst := some 52, op := Op.move (Operand.tmp 10), type := 42, pos := "law.go:84", after := #[{ on := 10, ground := Ground.guard }], guard := some (10, true) }) (v := .int .i64 F) rfl (by kernel_rfl) (by kernel_rfl) (by kernel_rfl) (fun _ _ _ h => h) (Or.inl ⟨by rfl, fun w' _ => by go_simp⟩) hHeld ?_
        simp only [Act.put, List.setIfInBounds_toArray, List.set_cons_zero, List.set_cons_succ]
        refine wpAnyH_take (i := 13) (oi := { dst := some 53, op := Op.binOp BinOp.eql 42 (Operand.tmp 51) (Operand.tmp 52) 42, type := 4, pos := "law.go:84", after := #[{ on := 11, ground := Ground.data }, { on := 12, ground := Ground.data }, { on := 10, ground := Ground.guard }], guard := some (10, true) }) (v := .bool true) rfl (by kernel_rfl) (by kernel_rfl) (by kernel_rfl) (fun _ _ _ h => h) (Or.inl ⟨by rfl, fun w' _ => by go_simp⟩) hHeld ?_
        simp only [Act.put, List.setIfInBounds_toArray, List.set_cons_zero, List.set_cons_succ]
        refine wpAnyH_take (i := 14) (oi := { dst := some 54, op := Op.pick (Operand.tmp 50) (Operand.tmp 53) (Operand.const (Value.bool false)), type := 4, pos := "law.go:84", after := #[{ on := 10, ground := Ground.data }, { on := 13, ground := Ground.data }], guard := none }) (v := .bool true) rfl (by kernel_rfl) (by kernel_rfl) (by kernel_rfl) (fun _ _ _ h => h) (Or.inl ⟨by rfl, fun w' _ => by go_simp⟩) hHeld ?_
        simp only [Act.put, List.setIfInBounds_toArray, List.set_cons_zero, List.set_cons_succ]
        refine wpAnyH_take (i := 15) (oi := { dst := some 55, op := Op.move (Operand.tmp 54), type := 4, pos := "law.go:84", after := #[{ on := 14, ground := Ground.data }, { on := 10, ground := Ground.chain }], guard := none }) (v := .bool true) rfl (by kernel_rfl) (by kernel_rfl) (by kernel_rfl) (fun _ _ _ h => h) (Or.inl ⟨by rfl, fun w' _ => by go_simp⟩) hHeld ?_
        simp only [Act.put, List.setIfInBounds_toArray, List.set_cons_zero, List.set_cons_succ]
        refine wpAnyH_take (i := 16) (oi := { dst := some 56, op := Op.load 30 (Operand.tmp 11), type := 30, pos := "law.go:84", after := #[{ on := 15, ground := Ground.guard }], guard := some (15, true) }) (v := .agg ca.toArray) rfl (by kernel_rfl) (by kernel_rfl) (by kernel_rfl) (fun _ _ _ h => h) (yieldsIf_load_mid (by rfl) _ _ rfl g11 0 rfl ca _ (fun _ h => h.z.range) u30 rfl iA) hHeld ?_
        simp only [Act.put, List.setIfInBounds_toArray, List.set_cons_zero, List.set_cons_succ]
        refine wpAnyH_take (i := 17) (oi := { dst := some 57, op := Op.load 30 (Operand.tmp 3), type := 30, pos := "law.go:84", after := #[{ on := 15, ground := Ground.guard }], guard := some (15, true) }) (v := .agg ca.toArray) rfl (by kernel_rfl) (by kernel_rfl) (by kernel_rfl) (fun _ _ _ h => h) (yieldsIf_load_mid (by rfl) _ _ rfl w.heap.size 0 rfl ca _ (fun _ h => h.a.range) u30 rfl iA) hHeld ?_
        simp only [Act.put, List.setIfInBounds_toArray, List.set_cons_zero, List.set_cons_succ]
        refine wpAnyH_take (i := 18) (oi := { dst := some 58, op := Op.binOp BinOp.eql 30 (Operand.tmp 56) (Operand.tmp 57) 30, type := 4, pos := "law.go:84", after := #[{ on := 16, ground := Ground.data }, { on := 17, ground := Ground.data }, { on := 15, ground := Ground.guard }], guard := some (15, true) }) (v := .bool true) rfl (by kernel_rfl) (by kernel_rfl) (by kernel_rfl) (fun _ _ _ h => h) (Or.inl ⟨by rfl, fun w' _ => by go_simp⟩) hHeld ?_
        simp only [Act.put, List.setIfInBounds_toArray, List.set_cons_zero, List.set_cons_succ]
        refine wpAnyH_take (i := 19) (oi := { dst := some 59, op := Op.pick (Operand.tmp 55) (Operand.tmp 58) (Operand.const (Value.bool false)), type := 4, pos := "law.go:84", after := #[{ on := 15, ground := Ground.data }, { on := 18, ground := Ground.data }], guard := none }) (v := .bool true) rfl (by kernel_rfl) (by kernel_rfl) (by kernel_rfl) (fun _ _ _ h => h) (Or.inl ⟨by rfl, fun w' _ => by go_simp⟩) hHeld ?_
        simp only [Act.put, List.setIfInBounds_toArray, List.set_cons_zero, List.set_cons_succ]
        refine wpAnyH_take (i := 20) (oi := { dst := some 60, op := Op.move (Operand.tmp 59), type := 4, pos := "law.go:84", after := #[{ on := 19, ground := Ground.data }, { on := 15, ground := Ground.chain }], guard := none }) (v := .bool true) rfl (by kernel_rfl) (by kernel_rfl) (by kernel_rfl) (fun _ _ _ h => h) (Or.inl ⟨by rfl, fun w' _ => by go_simp⟩) hHeld ?_
        simp only [Act.put, List.setIfInBounds_toArray, List.set_cons_zero, List.set_cons_succ]
        refine wpAnyH_take (i := 21) (oi := { dst := some 61, op := Op.move (Operand.tmp 12), type := 42, pos := "law.go:84", after := #[{ on := 20, ground := Ground.guard }], guard := some (20, true) }) (v := .int .i64 0) rfl (by kernel_rfl) (by kernel_rfl) (by kernel_rfl) (fun _ _ _ h => h) (Or.inl ⟨by rfl, fun w' _ => by go_simp⟩) hHeld ?_
        simp only [Act.put, List.setIfInBounds_toArray, List.set_cons_zero, List.set_cons_succ]
        refine wpAnyH_take (i := 22) (oi := { dst := some 62, op := Op.binOp BinOp.eql 42 (Operand.tmp 61) (Operand.const (Value.int IntKind.i64 0)) 42, type := 4, pos := "law.go:84", after := #[{ on := 21, ground := Ground.data }, { on := 20, ground := Ground.guard }], guard := some (20, true) }) (v := .bool true) rfl (by kernel_rfl) (by kernel_rfl) (by kernel_rfl) (fun _ _ _ h => h) (Or.inl ⟨by rfl, fun w' _ => by go_simp⟩) hHeld ?_
        simp only [Act.put, List.setIfInBounds_toArray, List.set_cons_zero, List.set_cons_succ]
        refine wpAnyH_take (i := 23) (oi := { dst := some 63, op := Op.pick (Operand.tmp 60) (Operand.tmp 62) (Operand.const (Value.bool false)), type := 4, pos := "law.go:84", after := #[{ on := 20, ground := Ground.data }, { on := 22, ground := Ground.data }], guard := none }) (v := .bool true) rfl (by kernel_rfl) (by kernel_rfl) (by kernel_rfl) (fun _ _ _ h => h) (Or.inl ⟨by rfl, fun w' _ => by go_simp⟩) hHeld ?_
        simp only [Act.put, List.setIfInBounds_toArray, List.set_cons_zero, List.set_cons_succ]
        refine wpAnyH_take (i := 24) (oi := { dst := some 64, op := Op.move (Operand.tmp 63), type := 4, pos := "law.go:84", after := #[{ on := 23, ground := Ground.data }, { on := 20, ground := Ground.chain }], guard := none }) (v := .bool true) rfl (by kernel_rfl) (by kernel_rfl) (by kernel_rfl) (fun _ _ _ h => h) (Or.inl ⟨by rfl, fun w' _ => by go_simp⟩) hHeld ?_
        simp only [Act.put, List.setIfInBounds_toArray, List.set_cons_zero, List.set_cons_succ]
        refine wpAnyH_take (i := 25) (oi := { dst := some 65, op := Op.load 30 (Operand.tmp 3), type := 30, pos := "law.go:84", after := #[{ on := 24, ground := Ground.guard }], guard := some (24, true) }) (v := .agg ca.toArray) rfl (by kernel_rfl) (by kernel_rfl) (by kernel_rfl) (fun _ _ _ h => h) (yieldsIf_load_mid (by rfl) _ _ rfl w.heap.size 0 rfl ca _ (fun _ h => h.a.range) u30 rfl iA) hHeld ?_
        simp only [Act.put, List.setIfInBounds_toArray, List.set_cons_zero, List.set_cons_succ]
        refine wpAnyH_take (i := 26) (oi := { dst := some 66, op := Op.load 30 (Operand.tmp 4), type := 30, pos := "law.go:84", after := #[{ on := 24, ground := Ground.guard }], guard := some (24, true) }) (v := .agg cb.toArray) rfl (by kernel_rfl) (by kernel_rfl) (by kernel_rfl) (fun _ _ _ h => h) (yieldsIf_load_mid (by rfl) _ _ rfl (w.heap.size + 1) 0 rfl cb _ (fun _ h => h.b.range) u30 rfl iB) hHeld ?_
        simp only [Act.put, List.setIfInBounds_toArray, List.set_cons_zero, List.set_cons_succ]
        refine wpAnyH_take (i := 28) (oi := { dst := some 68, op := Op.move (Operand.tmp 13), type := 3, pos := "law.go:84", after := #[{ on := 24, ground := Ground.guard }], guard := some (24, true) }) (v := _) rfl (by kernel_rfl) (by kernel_rfl) (by kernel_rfl) (fun _ _ _ h => h) (Or.inl ⟨by rfl, fun w' _ => rfl⟩) hHeld ?_
        simp only [Act.put, List.setIfInBounds_toArray, List.set_cons_zero, List.set_cons_succ]
        refine wpAnyH_ready (rs := [27]) (by kernel_rfl) (by simp) ?_
        refine AllReadyH.cons (o := { dst := some 67, op := Op.call { callee := Callee.value (Operand.func 23), args := #[Operand.tmp 65, Operand.tmp 66], argTypes := #[30, 30] }, type := 3, pos := "law.go:84", after := #[{ on := 25, ground := Ground.data }, { on := 26, ground := Ground.data }, { on := 24, ground := Ground.chain }, { on := 24, ground := Ground.guard }], guard := some (24, true) }) rfl (fun K hK => ?_) AllReadyH.nil
        go_simp
        refine (K23.out _ hHeld).mono ?_
        rintro e w13 ⟨rfl, hl⟩
        go_wp2_with fail
        refine hK.out _ _ hl (fun hh => ?_)
        clear hK K hl hHeld
        have hHeld := hh
        clear hh
        try simp only [Act.put, List.setIfInBounds_toArray, List.set_cons_zero, List.set_cons_succ]
        refine wpAnyH_take (i := 29) (oi := { dst := some 69, op := Op.binOp BinOp.eql 3 (Operand.tmp 67) (Operand.tmp 68) 3, type := 4, pos := "law.go:84", after := #[{ on := 27, ground := Ground.data }, { on := 28, ground := Ground.data }, { on := 24, ground := Ground.guard }], guard := some (24, true) }) (v := .bool true) rfl (by kernel_rfl) (by kernel_rfl) (by kernel_rfl) (fun _ _ _ h => h) (Or.inl ⟨by rfl, fun w' _ => by go_simp⟩) hHeld ?_
        simp only [Act.put, List.setIfInBounds_toArray, List.set_cons_zero, List.set_cons_succ]
        refine wpAnyH_take (i := 30) (oi := { dst := some 70, op := Op.pick (Operand.tmp 64) (Operand.tmp 69) (Operand.const (Value.bool false)), type := 4, pos := "law.go:84", after := #[{ on := 24, ground := Ground.data }, { on := 29, ground := Ground.data }], guard := none }) (v := .bool true) rfl (by kernel_rfl) (by kernel_rfl) (by kernel_rfl) (fun _ _ _ h => h) (Or.inl ⟨by rfl, fun w' _ => by go_simp⟩) hHeld ?_
        simp only [Act.put, List.setIfInBounds_toArray, List.set_cons_zero, List.set_cons_succ]
        refine wpAnyH_take (i := 31) (oi := { dst := some 71, op := Op.move (Operand.tmp 70), type := 4, pos := "law.go:84", after := #[{ on := 30, ground := Ground.data }, { on := 27, ground := Ground.chain }], guard := none }) (v := .bool true) rfl (by kernel_rfl) (by kernel_rfl) (by kernel_rfl) (fun _ _ _ h => h) (Or.inl ⟨by rfl, fun w' _ => by go_simp⟩) hHeld ?_
        simp only [Act.put, List.setIfInBounds_toArray, List.set_cons_zero, List.set_cons_succ]
        refine wpAnyH_ready (rs := [32]) (by kernel_rfl) (by simp) ?_
        refine AllReadyH.cons (o := { dst := some 72, op := Op.call { callee := Callee.value (Operand.func 7), args := #[], argTypes := #[] }, type := 4, pos := "law.go:84", after := #[{ on := 31, ground := Ground.chain }, { on := 31, ground := Ground.guard }], guard := some (31, true) }) rfl (fun K hK => ?_) AllReadyH.nil
        go_simp
        refine (K7.out _ hHeld).mono ?_
        rintro e w14 ⟨rfl, hl⟩
        go_wp2_with fail
        refine hK.out _ _ hl (fun hh => ?_)
        clear hK K hl hHeld
        have hHeld := hh
        clear hh
        try simp only [Act.put, List.setIfInBounds_toArray, List.set_cons_zero, List.set_cons_succ]
        refine wpAnyH_take (i := 33) (oi := { dst := some 73, op := Op.pick (Operand.tmp 71) (Operand.tmp 72) (Operand.const (Value.bool false)), type := 4, pos := "law.go:84", after := #[{ on := 31, ground := Ground.data }, { on := 32, ground := Ground.data }], guard := none }) (v := .bool true) rfl (by kernel_rfl) (by kernel_rfl) (by kernel_rfl) (fun _ _ _ h => h) (Or.inl ⟨by rfl, fun w' _ => by go_simp⟩) hHeld ?_
        simp only [Act.put, List.setIfInBounds_toArray, List.set_cons_zero, List.set_cons_succ]
        refine wpAnyH_take (i := 34) (oi := { dst := some 6, op := Op.assign (Operand.tmp 73), type := 4, pos := "law.go:84", after := #[{ on := 33, ground := Ground.data }, { on := 32, ground := Ground.chain }, { on := 0, ground := Ground.phase }, { on := 1, ground := Ground.phase }, { on := 2, ground := Ground.phase }, { on := 3, ground := Ground.phase }, { on := 4, ground := Ground.phase }, { on := 5, ground := Ground.phase }, { on := 6, ground := Ground.phase }, { on := 7, ground := Ground.phase }, { on := 8, ground := Ground.phase }, { on := 9, ground := Ground.phase }, { on := 10, ground := Ground.phase }, { on := 11, ground := Ground.phase }, { on := 12, ground := Ground.phase }, { on := 13, ground := Ground.phase }, { on := 14, ground := Ground.phase }, { on := 15, ground := Ground.phase }, { on := 16, ground := Ground.phase }, { on := 17, ground := Ground.phase }, { on := 18, ground := Ground.phase }, { on := 19, ground := Ground.phase }, { on := 20, ground := Ground.phase }, { on := 21, ground := Ground.phase }, { on := 22, ground := Ground.phase }, { on := 23, ground := Ground.phase }, { on := 24, ground := Ground.phase }, { on := 25, ground := Ground.phase }, { on := 26, ground := Ground.phase }, { on := 27, ground := Ground.phase }, { on := 28, ground := Ground.phase }, { on := 29, ground := Ground.phase }, { on := 30, ground := Ground.phase }, { on := 31, ground := Ground.phase }, { on := 32, ground := Ground.phase }, { on := 33, ground := Ground.phase }], guard := none }) (v := .bool true) rfl (by kernel_rfl) (by kernel_rfl) (by kernel_rfl) (fun _ _ _ h => h) (Or.inl ⟨by rfl, fun w' _ => by go_simp⟩) hHeld ?_
        simp only [Act.put, List.setIfInBounds_toArray, List.set_cons_zero, List.set_cons_succ]
        refine wpAnyH_done (by kernel_rfl) ?_ _
        go_wp2_with fail
        go_ret
        exact ⟨rfl, hHeld.bel⟩
end Go.Proofs.Ytbmdnjmdehmahaa
