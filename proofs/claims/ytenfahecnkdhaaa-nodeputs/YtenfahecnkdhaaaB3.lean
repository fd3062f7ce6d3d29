/- Of the proof: the texts NdIns, one behind the other. -/
import Derived.Test.YtenfahecnkdhaaaB1
import Derived.Test.YtenfahecnkdhaaaB2
import Derived.BigRegion
section
/-
  A range of entries is sorted by inserting.
-/
namespace Go.Proofs.Ytenfahecnkdhaaa.Nd
open Go.RowKit
open Stb (Stab Srt Mrg)
open Sim (hid Kp No)

abbrev ky (e : Ent) : List Int := e.1
theorem swap2_comm (d : List Ent) {i j : Nat} (h : i ≠ j) : swap2 d i j = swap2 d j i := by rw [swap2, swap2, List.set_comm _ _ h]
theorem swap2_back (A C : List Ent) (x y : Ent) : swap2 (A ++ x :: y :: C) (A.length + 1) A.length = A ++ y :: x :: C := by
  rw [swap2_comm _ (by omega)]
  exact swap2_blocks A [] C x y
/-- The value of the comparing, as it is handed on. -/
def cmpV : Value := .func (.func 56) #[] #[]

/-- In the midst of an inserting: y is on its way down. -/
structure InsSt (L R X : List Ent) (a i j b : Nat) (D : List Ent) (S1 S2 Y : List Ent) (y : Ent) : Prop where
  la : L.length = a
  lj : L.length + S1.length = j
  li : L.length + S1.length + S2.length = i
  lb : L.length + S1.length + S2.length + 1 + Y.length = b
  d : D = L ++ (S1 ++ (y :: (S2 ++ (Y ++ R))))
  srt : Srt ky lexB (S1 ++ S2)
  low : ∀ z ∈ S2, lexB y.1 z.1 = true
  st : Stab ky X (S1 ++ S2 ++ y :: Y)
/-- Between two: the first are sorted. -/
structure OutSt (L R X : List Ent) (a i b : Nat) (D : List Ent) (S Y : List Ent) : Prop where
  la : L.length = a
  li : L.length + S.length = i
  lb : L.length + S.length + Y.length = b
  d : D = L ++ (S ++ (Y ++ R))
  srt : Srt ky lexB S
  st : Stab ky X (S ++ Y)
section
variable {L R X D S1 S2 S Y : List Ent} {a i j b : Nat} {y : Ent}
theorem OutSt.begin (h : OutSt L R X a i b D S (y :: Y)) : InsSt L R X a i i b D S [] Y y where
  la := h.la
  lj := h.li
  li := h.li
  lb := by have := h.lb; simp at this ⊢; omega
  d := by rw [h.d]; simp
  srt := by simpa using h.srt
  low := fun z hz => by cases hz
  st := by simpa using h.st
theorem InsSt.done (h : InsSt L R X a i j b D S1 S2 Y y) (hs : ∀ z ∈ S1, lexB y.1 z.1 = false) : OutSt L R X a (i + 1) b D (S1 ++ y :: S2) Y := by
  have m := Mrg.one_last (key := ky) lexOrd hs h.low h.srt
  refine ⟨h.la, by have := h.li; simp; omega, by have := h.lb; simp; omega, by rw [h.d]; simp, m.2, ?_⟩
  refine h.st.trans ?_
  have := m.1.append (Stab.refl (key := ky) Y)
  simpa [List.append_assoc] using this
theorem InsSt.step {s : Ent} (h : InsSt L R X a i j b D (S1 ++ [s]) S2 Y y) (hl : lexB y.1 s.1 = true) : InsSt L R X a i (j - 1) b (swap2 D j (j - 1)) S1 (s :: S2) Y y := by
  have hj := h.lj
  have hi := h.li
  have hb := h.lb
  simp only [List.length_append, List.length_singleton] at hj hi hb
  refine ⟨h.la, by omega, by simp; omega, by simp; omega, ?_, by simpa using h.srt, fun z hz => ?_, by simpa using h.st⟩
  · rw [h.d]
    have e := swap2_back (L ++ S1) (S2 ++ (Y ++ R)) s y
    rw [show (L ++ S1).length = j - 1 by simp; omega, show j - 1 + 1 = j by omega] at e
    have e2 : L ++ ((S1 ++ [s]) ++ y :: (S2 ++ (Y ++ R))) = (L ++ S1) ++ s :: y :: (S2 ++ (Y ++ R)) := by simp
    rw [e2, e]
    simp
  · rcases List.mem_cons.1 hz with rfl | hz
    · exact hl
    · exact h.low z hz
theorem InsSt.get (h : InsSt L R X a i j b D S1 S2 Y y) : D[j]? = some y := by
  rw [h.d, ← h.lj, List.getElem?_append_right (by omega), List.getElem?_append_right (by omega)]
  simp
theorem InsSt.getp {s : Ent} (h : InsSt L R X a i j b D (S1 ++ [s]) S2 Y y) : D[j - 1]? = some s := by
  have hj := h.lj
  simp only [List.length_append, List.length_singleton] at hj
  rw [h.d, show j - 1 = L.length + S1.length by omega, List.getElem?_append_right (by omega), show L.length + S1.length - L.length = S1.length by omega, List.getElem?_append_left (by simp), List.getElem?_append_right (by omega)]
  simp
theorem InsSt.len (h : InsSt L R X a i j b D S1 S2 Y y) : D.length = b + R.length := by
  have hb := h.lb
  rw [h.d]
  simp
  omega
end

set_option maxHeartbeats 4000000 in
set_option maxRecDepth 100000 in
theorem ins_any (w : World) (g o : Nat) (L X R : List Ent) (N cap : Nat) (h : EOwn w g o (L ++ (X ++ R))) (hN : (L ++ (X ++ R)).length = N) (hl : N ≤ 1000000) :
    Calls Try.prog 85 #[.slice (some ⟨g, o, none⟩) N cap, .int .i64 (L.length : Int), .int .i64 ((L.length + X.length : Nat) : Int), cmpV] w fun e w' => e = .returned (.tuple #[]) ∧ ∃ X', Stab ky X X' ∧ Srt ky lexB X' ∧ At w g o (L ++ (X' ++ R)) w' := by
  have H0 := hid (At.start h)
  have hlen : L.length + X.length + R.length = N := by rw [← hN]; simp; omega
  obtain ⟨a, ha⟩ : ∃ a, L.length = a := ⟨_, rfl⟩
  obtain ⟨b, hb⟩ : ∃ b, L.length + X.length = b := ⟨_, rfl⟩
  have HLB := hid (And.intro ha hb)
  rw [hb, ha]
  have hab : a ≤ b ∧ b ≤ N := by omega
  clear ha hb h hN
  unfold cmpV
  have hlr : b + R.length = N := by have := HLB.out.2; omega
  have HLR := hid hlr
  clear hlr
  cases X with
  | nil =>
    have hba : a = b := by have := HLB.out; simp at this; omega
    subst hba
    have h1 : ¬ (a : Int) + 1 < (a : Int) := by omega
    have hw1 : IntKind.i64.wrap ((a : Int) + 1) = ((a : Int) + 1) := by rw [IntKind.wrap_i64]; omega
    go_enter Try.func85, Try.ntmps85
    go_wp2_with fail
    go_loopw [8] (fun x wr => x = .int .i64 ((a : Int) + 1) ∧ wr = w) (fun _ _ => 0)
    case atStart => exact ⟨rfl, rfl⟩
    case round =>
      obtain ⟨rfl, rfl⟩ := hrel
      go_wp2_with fail
      go_end0
      exact ⟨rfl, [], Stab.refl _, List.Pairwise.nil, H0.out⟩
  | cons x0 X =>
    have hlt0 : a < b := by have := HLB.out; simp at this; omega
    clear hlen
    obtain ⟨i0, hi0⟩ : ∃ i0, a + 1 = i0 := ⟨_, rfl⟩
    have hw1 : IntKind.i64.wrap ((a : Int) + 1) = (i0 : Int) := by rw [IntKind.wrap_i64]; omega
    have HO0 : Hid (OutSt L R (x0 :: X) a i0 b (L ++ ((x0 :: X) ++ R)) [x0] X) := ⟨HLB.out.1, by have := HLB.out; simp at this ⊢; omega, by have := HLB.out; simp at this ⊢; omega, by simp, List.pairwise_singleton _ _, Stab.refl _⟩
    have hi1 : i0 ≤ b := by omega
    have hi2 : a < i0 := by omega
    clear hi0
    go_enter Try.func85, Try.ntmps85
    go_wp2_with fail
    go_loopw [8] (fun x wr => ∃ (i : Nat), x = .int .i64 (i : Int) ∧ i ≤ b ∧ a < i ∧ Hid (∃ D S Y, OutSt L R (x0 :: X) a i b D S Y ∧ At w g o D wr)) (fun x _ => b - (intOf x).toNat)
    case atStart => exact ⟨i0, rfl, hi1, hi2, _, _, _, HO0.out, H0.out⟩
    case round =>
      obtain ⟨i, rfl, hib, hia, HS⟩ := hrel
      by_cases hlt : i < b
      · have hltI : (i : Int) < (b : Int) := by omega
        have hwi : IntKind.i64.wrap ((i : Int) + 1) = ((i + 1 : Nat) : Int) := by rw [IntKind.wrap_i64]; omega
        have HJ0 : Hid (∃ D S1 S2 Y y, InsSt L R (x0 :: X) a i i b D S1 S2 Y y ∧ At w g o D wr) := by
          obtain ⟨D, S, Y, hO, hA⟩ := HS.out
          cases Y with
          | nil => have := hO.li; have := hO.lb; simp at this; omega
          | cons y Y => exact ⟨D, S, [], Y, y, hO.begin, hA⟩
        go_wp2_with fail
        go_loopw [9] (fun x wq => ∃ (j : Nat), x = .int .i64 (j : Int) ∧ a ≤ j ∧ j ≤ i ∧ Hid (∃ D S1 S2 Y y, InsSt L R (x0 :: X) a i j b D S1 S2 Y y ∧ At w g o D wq)) (fun x _ => (intOf x).toNat)
        case atStart => exact ⟨i, rfl, by omega, Nat.le_refl _, HJ0.out⟩
        case round =>
          obtain ⟨j, rfl, hja, hji, HJ⟩ := hrel
          by_cases hgt : a < j
          · have hgtI : (a : Int) < (j : Int) := by omega
            obtain ⟨D, S1, S2, Y, y, hI, hA⟩ := HJ.out
            obtain ⟨T, s, rfl⟩ : ∃ T s, S1 = T ++ [s] := by
              have hne : S1 ≠ [] := by intro e; have h1 := hI.lj; have h2 := hI.la; rw [e] at h1; simp at h1; omega
              exact ⟨S1.dropLast, S1.getLast hne, (List.dropLast_concat_getLast hne).symm⟩
            have hgy := hI.get
            have hgs := hI.getp
            obtain ⟨oy, ry⟩ := hA.range hgy
            obtain ⟨os, rs⟩ := hA.range hgs
            have hDl := hI.len
            have hlr := HLR.out
            have hjN : (j : Int) < (N : Int) := by omega
            obtain ⟨j1, hj1⟩ : ∃ j1, j - 1 = j1 := ⟨_, rfl⟩
            have hwj : IntKind.i64.wrap ((j : Int) - 1) = (j1 : Int) := by rw [IntKind.wrap_i64]; omega
            have hj1N : (j1 : Int) < (N : Int) := by omega
            have HCMP := hid (fun V => compare_any y s V oy os)
            have HCV : Hid (cmpE y.1 s.1 < 0 ↔ lexB y.1 s.1 = true) := cmpE_neg y.1 s.1
            have HST : Hid (lexB y.1 s.1 = true → InsSt L R (x0 :: X) a i j1 b (swap2 D j j1) T (s :: S2) Y y) := fun hl => by rw [← hj1]; exact hI.step hl
            have HDN : Hid (lexB y.1 s.1 = false → OutSt L R (x0 :: X) a (i + 1) b D ((T ++ [s]) ++ y :: S2) Y) := fun hl => hI.done (fun z hz => by
              have hsr := hI.srt
              rcases List.mem_append.1 hz with hz | hz
              · have h1 := (Stb.Srt.append.1 (Stb.Srt.append.1 hsr).1).2.2 z hz s (by simp)
                exact lexOrd.le_le h1 hl
              · rw [List.mem_singleton.1 hz]; exact hl)
            have HAA := hid hA
            rw [hj1] at hgs rs
            have HSW := hid (fun (V : World) (h : At w g o D V) => swap2_at h hgy hgs)
            have Hx : Hid (∀ V, Kp No wr V → V.rangeAt g (o + j * 34) (entC y)) := fun V hV => ((hA.kept hV).range hgy).2
            have Hy : Hid (∀ V, Kp No wr V → V.rangeAt g (o + j1 * 34) (entC s)) := fun V hV => ((hA.kept hV).range hgs).2
            have HIx := hid (inf oy)
            have HIy := hid (inf os)
            have HAx := hid (infA oy)
            have HAy := hid (infA os)
            have HOx := hid (all_oneCell_toArray (entC_one y))
            have HOy := hid (all_oneCell_toArray (entC_one s))
            have hj0 : (1 : Int) ≤ (j : Int) := by omega
            have HJM : Hid (j1 < j ∧ a ≤ j1 ∧ j1 ≤ i) := by rw [Hid]; omega
            obtain ⟨cx, hcx⟩ : ∃ cx, entC y = cx := ⟨_, rfl⟩
            obtain ⟨cy, hcy⟩ : ∃ cy, entC s = cy := ⟨_, rfl⟩
            rw [hcx, hcy] at HCMP
            rw [hcx] at Hx HIx HAx HOx
            rw [hcy] at Hy HIy HAy HOy
            have HCX := hid hcx
            have HCY := hid hcy
            clear hcx hcy
            clear hI hA hgy hgs oy os ry rs hDl hlr hj1
            obtain ⟨z, hzz⟩ : ∃ z, cmpE y.1 s.1 = z := ⟨_, rfl⟩
            rw [hzz] at HCMP HCV
            clear hzz
            go_wp2_with fail
            by_cases hz : z < 0
            · have hls := HCV.out.1 hz
              refine wp_region_held_drew (S := fun V => Kp No wr V) (by kernel_rfl) ((Kp.refl _ _).drew) (fun hHeld => ?_)
              refine wpAnyH_take (i := 0) (oi := { dst := some 18, op := Op.move (Operand.tmp 9), type := 3, pos := "zsortanyfunc.go:12", after := #[], guard := none }) (v := .int .i64 (j : Int)) rfl (by kernel_rfl) (by kernel_rfl) (by kernel_rfl) (fun _ _ _ h => h) (Or.inl ⟨by rfl, fun w' hw' => by (clear hw'; go_simp)⟩) hHeld ?_
              simp only [Act.put, List.setIfInBounds_toArray, List.set_cons_zero, List.set_cons_succ]
              refine wpAnyH_take (i := 1) (oi := { dst := some 19, op := Op.move (Operand.tmp 1), type := 3, pos := "zsortanyfunc.go:12", after := #[], guard := none }) (v := .int .i64 (a : Int)) rfl (by kernel_rfl) (by kernel_rfl) (by kernel_rfl) (fun _ _ _ h => h) (Or.inl ⟨by rfl, fun w' hw' => by (clear hw'; go_simp)⟩) hHeld ?_
              simp only [Act.put, List.setIfInBounds_toArray, List.set_cons_zero, List.set_cons_succ]
              refine wpAnyH_take (i := 2) (oi := { dst := some 20, op := Op.binOp BinOp.gtr 3 (Operand.tmp 18) (Operand.tmp 19) 3, type := 4, pos := "zsortanyfunc.go:12", after := #[{ on := 0, ground := Ground.data }, { on := 1, ground := Ground.data }], guard := none }) (v := .bool true) rfl (by kernel_rfl) (by kernel_rfl) (by kernel_rfl) (fun _ _ _ h => h) (Or.inl ⟨by rfl, fun w' hw' => by (clear hw'; go_simp)⟩) hHeld ?_
              simp only [Act.put, List.setIfInBounds_toArray, List.set_cons_zero, List.set_cons_succ]
              refine wpAnyH_take (i := 3) (oi := { dst := some 21, op := Op.move (Operand.tmp 20), type := 4, pos := "zsortanyfunc.go:12", after := #[{ on := 2, ground := Ground.data }], guard := none }) (v := .bool true) rfl (by kernel_rfl) (by kernel_rfl) (by kernel_rfl) (fun _ _ _ h => h) (Or.inl ⟨by rfl, fun w' hw' => by (clear hw'; go_simp)⟩) hHeld ?_
              simp only [Act.put, List.setIfInBounds_toArray, List.set_cons_zero, List.set_cons_succ]
              refine wpAnyH_take (i := 4) (oi := { dst := some 22, op := Op.move (Operand.tmp 3), type := 107, pos := "zsortanyfunc.go:12", after := #[{ on := 3, ground := Ground.guard }], guard := some (3, true) }) (v := .func (.func 56) #[] #[]) rfl (by kernel_rfl) (by kernel_rfl) (by kernel_rfl) (fun _ _ _ h => h) (Or.inl ⟨by rfl, fun w' hw' => by (clear hw'; go_simp)⟩) hHeld ?_
              simp only [Act.put, List.setIfInBounds_toArray, List.set_cons_zero, List.set_cons_succ]
              refine wpAnyH_take (i := 5) (oi := { dst := some 23, op := Op.move (Operand.tmp 0), type := 40, pos := "zsortanyfunc.go:12", after := #[{ on := 3, ground := Ground.guard }], guard := some (3, true) }) (v := .slice (some ⟨g, o, none⟩) N cap) rfl (by kernel_rfl) (by kernel_rfl) (by kernel_rfl) (fun _ _ _ h => h) (Or.inl ⟨by rfl, fun w' hw' => by (clear hw'; go_simp)⟩) hHeld ?_
              simp only [Act.put, List.setIfInBounds_toArray, List.set_cons_zero, List.set_cons_succ]
              refine wpAnyH_take (i := 6) (oi := { dst := some 24, op := Op.move (Operand.tmp 9), type := 3, pos := "zsortanyfunc.go:12", after := #[{ on := 3, ground := Ground.guard }], guard := some (3, true) }) (v := .int .i64 (j : Int)) rfl (by kernel_rfl) (by kernel_rfl) (by kernel_rfl) (fun _ _ _ h => h) (Or.inl ⟨by rfl, fun w' hw' => by (clear hw'; go_simp)⟩) hHeld ?_
              simp only [Act.put, List.setIfInBounds_toArray, List.set_cons_zero, List.set_cons_succ]
              refine wpAnyH_take (i := 7) (oi := { dst := some 25, op := Op.indexAddr 40 (Operand.tmp 23) (Operand.tmp 24), type := 0, pos := "zsortanyfunc.go:12", after := #[{ on := 5, ground := Ground.data }, { on := 6, ground := Ground.data }, { on := 3, ground := Ground.guard }], guard := some (3, true) }) (v := .pointer (some ⟨g, o + j * 34, none⟩)) rfl (by kernel_rfl) (by kernel_rfl) (by kernel_rfl) (fun _ _ _ h => h) (Or.inl ⟨by rfl, fun w' hw' => by (clear hw'; go_simp)⟩) hHeld ?_
              simp only [Act.put, List.setIfInBounds_toArray, List.set_cons_zero, List.set_cons_succ]
              refine wpAnyH_take (i := 8) (oi := { dst := some 26, op := Op.load 70 (Operand.tmp 25), type := 70, pos := "zsortanyfunc.go:12", after := #[{ on := 7, ground := Ground.data }, { on := 3, ground := Ground.guard }], guard := some (3, true) }) (v := .agg cx.toArray) rfl (by kernel_rfl) (by kernel_rfl) (by kernel_rfl) (fun _ _ _ h => h) (yieldsIf_load_mid (by rfl) _ _ rfl g (o + j * 34) rfl cx _ (Hx.out) Try.underlying70 rfl HIx.out) hHeld ?_
              simp only [Act.put, List.setIfInBounds_toArray, List.set_cons_zero, List.set_cons_succ]
              refine wpAnyH_take (i := 9) (oi := { dst := some 27, op := Op.move (Operand.tmp 0), type := 40, pos := "zsortanyfunc.go:12", after := #[{ on := 3, ground := Ground.guard }], guard := some (3, true) }) (v := .slice (some ⟨g, o, none⟩) N cap) rfl (by kernel_rfl) (by kernel_rfl) (by kernel_rfl) (fun _ _ _ h => h) (Or.inl ⟨by rfl, fun w' hw' => by (clear hw'; go_simp)⟩) hHeld ?_
              simp only [Act.put, List.setIfInBounds_toArray, List.set_cons_zero, List.set_cons_succ]
              refine wpAnyH_take (i := 10) (oi := { dst := some 28, op := Op.move (Operand.tmp 9), type := 3, pos := "zsortanyfunc.go:12", after := #[{ on := 3, ground := Ground.guard }], guard := some (3, true) }) (v := .int .i64 (j : Int)) rfl (by kernel_rfl) (by kernel_rfl) (by kernel_rfl) (fun _ _ _ h => h) (Or.inl ⟨by rfl, fun w' hw' => by (clear hw'; go_simp)⟩) hHeld ?_
              simp only [Act.put, List.setIfInBounds_toArray, List.set_cons_zero, List.set_cons_succ]
              refine wpAnyH_take (i := 11) (oi := { dst := some 29, op := Op.binOp BinOp.sub 3 (Operand.tmp 28) (Operand.const (Value.int IntKind.i64 1)) 3, type := 3, pos := "zsortanyfunc.go:12", after := #[{ on := 10, ground := Ground.data }, { on := 3, ground := Ground.guard }], guard := some (3, true) }) (v := .int .i64 (j1 : Int)) rfl (by kernel_rfl) (by kernel_rfl) (by kernel_rfl) (fun _ _ _ h => h) (Or.inl ⟨by rfl, fun w' hw' => by (clear hw'; go_simp)⟩) hHeld ?_
              simp only [Act.put, List.setIfInBounds_toArray, List.set_cons_zero, List.set_cons_succ]
              refine wpAnyH_take (i := 12) (oi := { dst := some 30, op := Op.indexAddr 40 (Operand.tmp 27) (Operand.tmp 29), type := 0, pos := "zsortanyfunc.go:12", after := #[{ on := 9, ground := Ground.data }, { on := 11, ground := Ground.data }, { on := 3, ground := Ground.guard }], guard := some (3, true) }) (v := .pointer (some ⟨g, o + j1 * 34, none⟩)) rfl (by kernel_rfl) (by kernel_rfl) (by kernel_rfl) (fun _ _ _ h => h) (Or.inl ⟨by rfl, fun w' hw' => by (clear hw'; go_simp)⟩) hHeld ?_
              simp only [Act.put, List.setIfInBounds_toArray, List.set_cons_zero, List.set_cons_succ]
              refine wpAnyH_take (i := 13) (oi := { dst := some 31, op := Op.load 70 (Operand.tmp 30), type := 70, pos := "zsortanyfunc.go:12", after := #[{ on := 12, ground := Ground.data }, { on := 3, ground := Ground.guard }], guard := some (3, true) }) (v := .agg cy.toArray) rfl (by kernel_rfl) (by kernel_rfl) (by kernel_rfl) (fun _ _ _ h => h) (yieldsIf_load_mid (by rfl) _ _ rfl g (o + j1 * 34) rfl cy _ (Hy.out) Try.underlying70 rfl HIy.out) hHeld ?_
              simp only [Act.put, List.setIfInBounds_toArray, List.set_cons_zero, List.set_cons_succ]
              refine wpAnyH_ready (rs := [14]) (by kernel_rfl) (by simp) ?_
              refine AllReadyH.cons (o := { dst := some 32, op := Op.call { callee := Callee.value (Operand.tmp 22), args := #[Operand.tmp 26, Operand.tmp 31], argTypes := #[70, 70] }, type := 3, pos := "zsortanyfunc.go:12", after := #[{ on := 4, ground := Ground.data }, { on := 8, ground := Ground.data }, { on := 13, ground := Ground.data }, { on := 3, ground := Ground.chain }, { on := 3, ground := Ground.guard }], guard := some (3, true) }) rfl (fun K hK => ?_) AllReadyH.nil
              go_simp
              refine (HCMP.out _).mono ?_
              rintro e w3 ⟨rfl, h3⟩
              have HK3 : Hid (Kp No wr w3) := (Kp.refl No wr).drew.andNone (Kp.below h3)
              clear h3
              go_wp2_with fail
              refine hK.out _ _ (HK3.out) (fun hh => ?_)
              clear hK K hHeld
              have hHeld := hh
              clear hh
              try simp only [Act.put, List.setIfInBounds_toArray, List.set_cons_zero, List.set_cons_succ]
              refine wpAnyH_take (i := 15) (oi := { dst := some 33, op := Op.binOp BinOp.lss 3 (Operand.tmp 32) (Operand.const (Value.int IntKind.i64 0)) 3, type := 4, pos := "zsortanyfunc.go:12", after := #[{ on := 14, ground := Ground.data }, { on := 3, ground := Ground.guard }], guard := some (3, true) }) (v := .bool true) rfl (by kernel_rfl) (by kernel_rfl) (by kernel_rfl) (fun _ _ _ h => h) (Or.inl ⟨by rfl, fun w' hw' => by (clear hw'; go_simp)⟩) hHeld ?_
              simp only [Act.put, List.setIfInBounds_toArray, List.set_cons_zero, List.set_cons_succ]
              refine wpAnyH_take (i := 16) (oi := { dst := some 34, op := Op.pick (Operand.tmp 21) (Operand.tmp 33) (Operand.const (Value.bool false)), type := 4, pos := "zsortanyfunc.go:12", after := #[{ on := 3, ground := Ground.data }, { on := 15, ground := Ground.data }], guard := none }) (v := .bool true) rfl (by kernel_rfl) (by kernel_rfl) (by kernel_rfl) (fun _ _ _ h => h) (Or.inl ⟨by rfl, fun w' hw' => by (clear hw'; go_simp)⟩) hHeld ?_
              simp only [Act.put, List.setIfInBounds_toArray, List.set_cons_zero, List.set_cons_succ]
              refine wpAnyH_done (by kernel_rfl) ?_ _
              obtain ⟨_, _, hrx, hry, ht1, ht2, hfin⟩ := HSW.out w3 (HAA.out.kept HK3.out)
              rw [HCX.out] at hrx ht2 hfin
              rw [HCY.out] at hry ht1 ht2 hfin
              have Hx6 := hid hrx
              have Hy6 := hid hry
              have HT1 := hid ht1
              have HT2 := hid ht2
              have HFIN := hid hfin
              have HST2 := hid (HST.out hls)
              clear hHeld hrx hry ht1 ht2 hfin HSW HST HDN HCV HCMP HAA HK3 Hx Hy hls hz
              go_wp2_with fail
              refine wp_region_held_drew (S := fun _ => True) (by kernel_rfl) trivial (fun hHeld => ?_)
              refine wpAnyH_take (i := 0) (oi := { dst := some 37, op := Op.move (Operand.tmp 0), type := 40, pos := "zsortanyfunc.go:13", after := #[], guard := none }) (v := .slice (some ⟨g, o, none⟩) N cap) rfl (by kernel_rfl) (by kernel_rfl) (by kernel_rfl) (fun _ _ _ h => h) (Or.inl ⟨by rfl, fun w' hw' => by (clear hw'; go_simp)⟩) hHeld ?_
              simp only [Act.put, List.setIfInBounds_toArray, List.set_cons_zero, List.set_cons_succ]
              refine wpAnyH_take (i := 1) (oi := { dst := some 38, op := Op.move (Operand.tmp 9), type := 3, pos := "zsortanyfunc.go:13", after := #[], guard := none }) (v := .int .i64 (j : Int)) rfl (by kernel_rfl) (by kernel_rfl) (by kernel_rfl) (fun _ _ _ h => h) (Or.inl ⟨by rfl, fun w' hw' => by (clear hw'; go_simp)⟩) hHeld ?_
              simp only [Act.put, List.setIfInBounds_toArray, List.set_cons_zero, List.set_cons_succ]
              refine wpAnyH_take (i := 2) (oi := { dst := some 39, op := Op.move (Operand.tmp 0), type := 40, pos := "zsortanyfunc.go:13", after := #[{ on := 15, ground := Ground.gcOnly Departure.lateStores }], guard := none }) (v := .slice (some ⟨g, o, none⟩) N cap) rfl (by kernel_rfl) (by kernel_rfl) (by kernel_rfl) (fun _ _ _ h => h) (Or.inl ⟨by rfl, fun w' hw' => by (clear hw'; go_simp)⟩) hHeld ?_
              simp only [Act.put, List.setIfInBounds_toArray, List.set_cons_zero, List.set_cons_succ]
              refine wpAnyH_take (i := 3) (oi := { dst := some 40, op := Op.move (Operand.tmp 9), type := 3, pos := "zsortanyfunc.go:13", after := #[{ on := 15, ground := Ground.gcOnly Departure.lateStores }], guard := none }) (v := .int .i64 (j : Int)) rfl (by kernel_rfl) (by kernel_rfl) (by kernel_rfl) (fun _ _ _ h => h) (Or.inl ⟨by rfl, fun w' hw' => by (clear hw'; go_simp)⟩) hHeld ?_
              simp only [Act.put, List.setIfInBounds_toArray, List.set_cons_zero, List.set_cons_succ]
              refine wpAnyH_take (i := 4) (oi := { dst := some 41, op := Op.binOp BinOp.sub 3 (Operand.tmp 40) (Operand.const (Value.int IntKind.i64 1)) 3, type := 3, pos := "zsortanyfunc.go:13", after := #[{ on := 3, ground := Ground.data }, { on := 15, ground := Ground.gcOnly Departure.lateStores }], guard := none }) (v := .int .i64 (j1 : Int)) rfl (by kernel_rfl) (by kernel_rfl) (by kernel_rfl) (fun _ _ _ h => h) (Or.inl ⟨by rfl, fun w' hw' => by (clear hw'; go_simp)⟩) hHeld ?_
              simp only [Act.put, List.setIfInBounds_toArray, List.set_cons_zero, List.set_cons_succ]
              refine wpAnyH_take (i := 5) (oi := { dst := some 42, op := Op.move (Operand.tmp 0), type := 40, pos := "zsortanyfunc.go:13", after := #[], guard := none }) (v := .slice (some ⟨g, o, none⟩) N cap) rfl (by kernel_rfl) (by kernel_rfl) (by kernel_rfl) (fun _ _ _ h => h) (Or.inl ⟨by rfl, fun w' hw' => by (clear hw'; go_simp)⟩) hHeld ?_
              simp only [Act.put, List.setIfInBounds_toArray, List.set_cons_zero, List.set_cons_succ]
              refine wpAnyH_take (i := 6) (oi := { dst := some 43, op := Op.move (Operand.tmp 9), type := 3, pos := "zsortanyfunc.go:13", after := #[], guard := none }) (v := .int .i64 (j : Int)) rfl (by kernel_rfl) (by kernel_rfl) (by kernel_rfl) (fun _ _ _ h => h) (Or.inl ⟨by rfl, fun w' hw' => by (clear hw'; go_simp)⟩) hHeld ?_
              simp only [Act.put, List.setIfInBounds_toArray, List.set_cons_zero, List.set_cons_succ]
              refine wpAnyH_take (i := 7) (oi := { dst := some 44, op := Op.binOp BinOp.sub 3 (Operand.tmp 43) (Operand.const (Value.int IntKind.i64 1)) 3, type := 3, pos := "zsortanyfunc.go:13", after := #[{ on := 6, ground := Ground.data }], guard := none }) (v := .int .i64 (j1 : Int)) rfl (by kernel_rfl) (by kernel_rfl) (by kernel_rfl) (fun _ _ _ h => h) (Or.inl ⟨by rfl, fun w' hw' => by (clear hw'; go_simp)⟩) hHeld ?_
              simp only [Act.put, List.setIfInBounds_toArray, List.set_cons_zero, List.set_cons_succ]
              refine wpAnyH_take (i := 8) (oi := { dst := some 45, op := Op.indexAddr 40 (Operand.tmp 42) (Operand.tmp 44), type := 0, pos := "zsortanyfunc.go:13", after := #[{ on := 5, ground := Ground.data }, { on := 7, ground := Ground.data }], guard := none }) (v := .pointer (some ⟨g, o + j1 * 34, none⟩)) rfl (by kernel_rfl) (by kernel_rfl) (by kernel_rfl) (fun _ _ _ h => h) (Or.inl ⟨by rfl, fun w' hw' => by (clear hw'; go_simp)⟩) hHeld ?_
              simp only [Act.put, List.setIfInBounds_toArray, List.set_cons_zero, List.set_cons_succ]
              refine wpAnyH_take (i := 10) (oi := { dst := some 47, op := Op.move (Operand.tmp 0), type := 40, pos := "zsortanyfunc.go:13", after := #[], guard := none }) (v := .slice (some ⟨g, o, none⟩) N cap) rfl (by kernel_rfl) (by kernel_rfl) (by kernel_rfl) (fun _ _ _ h => h) (Or.inl ⟨by rfl, fun w' hw' => by (clear hw'; go_simp)⟩) hHeld ?_
              simp only [Act.put, List.setIfInBounds_toArray, List.set_cons_zero, List.set_cons_succ]
              refine wpAnyH_take (i := 11) (oi := { dst := some 48, op := Op.move (Operand.tmp 9), type := 3, pos := "zsortanyfunc.go:13", after := #[], guard := none }) (v := .int .i64 (j : Int)) rfl (by kernel_rfl) (by kernel_rfl) (by kernel_rfl) (fun _ _ _ h => h) (Or.inl ⟨by rfl, fun w' hw' => by (clear hw'; go_simp)⟩) hHeld ?_
              simp only [Act.put, List.setIfInBounds_toArray, List.set_cons_zero, List.set_cons_succ]
              refine wpAnyH_take (i := 12) (oi := { dst := some 49, op := Op.indexAddr 40 (Operand.tmp 47) (Operand.tmp 48), type := 0, pos := "zsortanyfunc.go:13", after := #[{ on := 10, ground := Ground.data }, { on := 11, ground := Ground.data }], guard := none }) (v := .pointer (some ⟨g, o + j * 34, none⟩)) rfl (by kernel_rfl) (by kernel_rfl) (by kernel_rfl) (fun _ _ _ h => h) (Or.inl ⟨by rfl, fun w' hw' => by (clear hw'; go_simp)⟩) hHeld ?_
              simp only [Act.put, List.setIfInBounds_toArray, List.set_cons_zero, List.set_cons_succ]
              refine wpAnyH_ready (rs := [9, 13]) (by kernel_rfl) (by simp) ?_
              refine AllReadyH.cons (o := { dst := some 46, op := Op.load 70 (Operand.tmp 45), type := 70, pos := "zsortanyfunc.go:13", after := #[{ on := 8, ground := Ground.data }], guard := none }) rfl (fun K hK => ?_) (AllReadyH.cons (o := { dst := some 50, op := Op.load 70 (Operand.tmp 49), type := 70, pos := "zsortanyfunc.go:13", after := #[{ on := 12, ground := Ground.data }], guard := none }) rfl (fun K hK => ?_) AllReadyH.nil)
              · rw [if_pos (by rfl)]
                refine wp_load_mid 70 _ (by rfl) g (o + j1 * 34) (by rfl) cy _ (Hy6.out _ ((Kp.refl No _).drew)) Try.underlying70 rfl HIy.out ?_
                refine hK.out _ _ trivial (fun hh => ?_)
                clear hK K hHeld
                have hHeld := hh
                clear hh
                try simp only [Act.put, List.setIfInBounds_toArray, List.set_cons_zero, List.set_cons_succ]
                refine wpAnyH_ready (rs := [13]) (by kernel_rfl) (by simp) ?_
                refine AllReadyH.cons (o := { dst := some 50, op := Op.load 70 (Operand.tmp 49), type := 70, pos := "zsortanyfunc.go:13", after := #[{ on := 12, ground := Ground.data }], guard := none }) rfl (fun K hK => ?_) AllReadyH.nil
                rw [if_pos (by rfl)]
                refine wp_load_mid 70 _ (by rfl) g (o + j * 34) (by rfl) cx _ (Hx6.out _ ((Kp.refl No _).drew)) Try.underlying70 rfl HIx.out ?_
                refine hK.out _ _ trivial (fun hh => ?_)
                clear hK K hHeld
                have hHeld := hh
                clear hh
                try simp only [Act.put, List.setIfInBounds_toArray, List.set_cons_zero, List.set_cons_succ]
                refine wpAnyH_take (i := 14) (oi := { dst := some 51, op := Op.indexAddr 40 (Operand.tmp 37) (Operand.tmp 38), type := 0, pos := "zsortanyfunc.go:13", after := #[{ on := 0, ground := Ground.data }, { on := 1, ground := Ground.data }, { on := 0, ground := Ground.phase }, { on := 1, ground := Ground.phase }, { on := 2, ground := Ground.textOnly Departure.lateStores }, { on := 3, ground := Ground.textOnly Departure.lateStores }, { on := 4, ground := Ground.textOnly Departure.lateStores }, { on := 5, ground := Ground.phase }, { on := 6, ground := Ground.phase }, { on := 7, ground := Ground.phase }, { on := 8, ground := Ground.phase }, { on := 9, ground := Ground.phase }, { on := 10, ground := Ground.textOnly Departure.lateStores }, { on := 11, ground := Ground.textOnly Departure.lateStores }, { on := 12, ground := Ground.textOnly Departure.lateStoresUnsure }, { on := 13, ground := Ground.phase }], guard := none }) (v := .pointer (some ⟨g, o + j * 34, none⟩)) rfl (by kernel_rfl) (by kernel_rfl) (by kernel_rfl) (fun _ _ _ h => h) (Or.inl ⟨by rfl, fun w' hw' => by (clear hw'; go_simp)⟩) hHeld ?_
                simp only [Act.put, List.setIfInBounds_toArray, List.set_cons_zero, List.set_cons_succ]
                refine wpAnyH_ready (rs := [15]) (by kernel_rfl) (by simp) ?_
                refine AllReadyH.cons (o := { dst := none, op := Op.store 70 (Operand.tmp 51) (Operand.tmp 46), type := 0, pos := "zsortanyfunc.go:13", after := #[{ on := 14, ground := Ground.data }, { on := 9, ground := Ground.data }, { on := 0, ground := Ground.phase }, { on := 1, ground := Ground.phase }, { on := 2, ground := Ground.textOnly Departure.lateStores }, { on := 3, ground := Ground.textOnly Departure.lateStores }, { on := 4, ground := Ground.textOnly Departure.lateStores }, { on := 5, ground := Ground.phase }, { on := 6, ground := Ground.phase }, { on := 7, ground := Ground.phase }, { on := 8, ground := Ground.phase }, { on := 9, ground := Ground.phase }, { on := 10, ground := Ground.textOnly Departure.lateStores }, { on := 11, ground := Ground.textOnly Departure.lateStores }, { on := 12, ground := Ground.textOnly Departure.lateStoresUnsure }, { on := 13, ground := Ground.phase }], guard := none }) rfl (fun K hK => ?_) AllReadyH.nil
                rw [if_pos (by rfl)]
                refine wp_store_mid 70 _ _ (by rfl) g (o + j * 34) cy.toArray (by rfl) (by rfl) HT1.out HAy.out HOy.out ?_
                refine hK.out _ _ trivial (fun hh => ?_)
                clear hK K hHeld
                have hHeld := hh
                clear hh
                simp only [Act.put]
                refine wpAnyH_take (i := 16) (oi := { dst := some 52, op := Op.indexAddr 40 (Operand.tmp 39) (Operand.tmp 41), type := 0, pos := "zsortanyfunc.go:13", after := #[{ on := 2, ground := Ground.data }, { on := 4, ground := Ground.data }, { on := 0, ground := Ground.phase }, { on := 1, ground := Ground.phase }, { on := 2, ground := Ground.phase }, { on := 3, ground := Ground.phase }, { on := 4, ground := Ground.phase }, { on := 5, ground := Ground.phase }, { on := 6, ground := Ground.phase }, { on := 7, ground := Ground.phase }, { on := 8, ground := Ground.phase }, { on := 9, ground := Ground.phase }, { on := 10, ground := Ground.phase }, { on := 11, ground := Ground.phase }, { on := 12, ground := Ground.phase }, { on := 13, ground := Ground.phase }, { on := 14, ground := Ground.phase }, { on := 15, ground := Ground.phase }], guard := none }) (v := .pointer (some ⟨g, o + j1 * 34, none⟩)) rfl (by kernel_rfl) (by kernel_rfl) (by kernel_rfl) (fun _ _ _ h => h) (Or.inl ⟨by rfl, fun w' hw' => by (clear hw'; go_simp)⟩) hHeld ?_
                simp only [Act.put, List.setIfInBounds_toArray, List.set_cons_zero, List.set_cons_succ]
                refine wpAnyH_ready (rs := [17]) (by kernel_rfl) (by simp) ?_
                refine AllReadyH.cons (o := { dst := none, op := Op.store 70 (Operand.tmp 52) (Operand.tmp 50), type := 0, pos := "zsortanyfunc.go:13", after := #[{ on := 16, ground := Ground.data }, { on := 13, ground := Ground.data }, { on := 15, ground := Ground.chain }, { on := 0, ground := Ground.phase }, { on := 1, ground := Ground.phase }, { on := 2, ground := Ground.phase }, { on := 3, ground := Ground.phase }, { on := 4, ground := Ground.phase }, { on := 5, ground := Ground.phase }, { on := 6, ground := Ground.phase }, { on := 7, ground := Ground.phase }, { on := 8, ground := Ground.phase }, { on := 9, ground := Ground.phase }, { on := 10, ground := Ground.phase }, { on := 11, ground := Ground.phase }, { on := 12, ground := Ground.phase }, { on := 13, ground := Ground.phase }, { on := 14, ground := Ground.phase }, { on := 15, ground := Ground.phase }], guard := none }) rfl (fun K hK => ?_) AllReadyH.nil
                rw [if_pos (by rfl)]
                refine wp_store_mid 70 _ _ (by rfl) g (o + j1 * 34) cx.toArray (by rfl) (by rfl) HT2.out HAx.out HOx.out ?_
                refine hK.out _ _ trivial (fun hh => ?_)
                clear hK K hHeld
                have hHeld := hh
                clear hh
                simp only [Act.put]
                refine wpAnyH_done (by kernel_rfl) ?_ _
                go_wp2_with fail
                go_round
                case rel => exact ⟨j1, rfl, HJM.out.2.1, HJM.out.2.2, _, _, _, _, _, HST2.out, HFIN.out⟩
                case measure => simp [intOf]; have := HJM.out; omega
              · rw [if_pos (by rfl)]
                refine wp_load_mid 70 _ (by rfl) g (o + j * 34) (by rfl) cx _ (Hx6.out _ ((Kp.refl No _).drew)) Try.underlying70 rfl HIx.out ?_
                refine hK.out _ _ trivial (fun hh => ?_)
                clear hK K hHeld
                have hHeld := hh
                clear hh
                try simp only [Act.put, List.setIfInBounds_toArray, List.set_cons_zero, List.set_cons_succ]
                refine wpAnyH_ready (rs := [9]) (by kernel_rfl) (by simp) ?_
                refine AllReadyH.cons (o := { dst := some 46, op := Op.load 70 (Operand.tmp 45), type := 70, pos := "zsortanyfunc.go:13", after := #[{ on := 8, ground := Ground.data }], guard := none }) rfl (fun K hK => ?_) AllReadyH.nil
                rw [if_pos (by rfl)]
                refine wp_load_mid 70 _ (by rfl) g (o + j1 * 34) (by rfl) cy _ (Hy6.out _ ((Kp.refl No _).drew)) Try.underlying70 rfl HIy.out ?_
                refine hK.out _ _ trivial (fun hh => ?_)
                clear hK K hHeld
                have hHeld := hh
                clear hh
                try simp only [Act.put, List.setIfInBounds_toArray, List.set_cons_zero, List.set_cons_succ]
                refine wpAnyH_take (i := 14) (oi := { dst := some 51, op := Op.indexAddr 40 (Operand.tmp 37) (Operand.tmp 38), type := 0, pos := "zsortanyfunc.go:13", after := #[{ on := 0, ground := Ground.data }, { on := 1, ground := Ground.data }, { on := 0, ground := Ground.phase }, { on := 1, ground := Ground.phase }, { on := 2, ground := Ground.textOnly Departure.lateStores }, { on := 3, ground := Ground.textOnly Departure.lateStores }, { on := 4, ground := Ground.textOnly Departure.lateStores }, { on := 5, ground := Ground.phase }, { on := 6, ground := Ground.phase }, { on := 7, ground := Ground.phase }, { on := 8, ground := Ground.phase }, { on := 9, ground := Ground.phase }, { on := 10, ground := Ground.textOnly Departure.lateStores }, { on := 11, ground := Ground.textOnly Departure.lateStores }, { on := 12, ground := Ground.textOnly Departure.lateStoresUnsure }, { on := 13, ground := Ground.phase }], guard := none }) (v := .pointer (some ⟨g, o + j * 34, none⟩)) rfl (by kernel_rfl) (by kernel_rfl) (by kernel_rfl) (fun _ _ _ h => h) (Or.inl ⟨by rfl, fun w' hw' => by (clear hw'; go_simp)⟩) hHeld ?_
                simp only [Act.put, List.setIfInBounds_toArray, List.set_cons_zero, List.set_cons_succ]
                refine wpAnyH_ready (rs := [15]) (by kernel_rfl) (by simp) ?_
                refine AllReadyH.cons (o := { dst := none, op := Op.store 70 (Operand.tmp 51) (Operand.tmp 46), type := 0, pos := "zsortanyfunc.go:13", after := #[{ on := 14, ground := Ground.data }, { on := 9, ground := Ground.data }, { on := 0, ground := Ground.phase }, { on := 1, ground := Ground.phase }, { on := 2, ground := Ground.textOnly Departure.lateStores }, { on := 3, ground := Ground.textOnly Departure.lateStores }, { on := 4, ground := Ground.textOnly Departure.lateStores }, { on := 5, ground := Ground.phase }, { on := 6, ground := Ground.phase }, { on := 7, ground := Ground.phase }, { on := 8, ground := Ground.phase }, { on := 9, ground := Ground.phase }, { on := 10, ground := Ground.textOnly Departure.lateStores }, { on := 11, ground := Ground.textOnly Departure.lateStores }, { on := 12, ground := Ground.textOnly Departure.lateStoresUnsure }, { on := 13, ground := Ground.phase }], guard := none }) rfl (fun K hK => ?_) AllReadyH.nil
                rw [if_pos (by rfl)]
                refine wp_store_mid 70 _ _ (by rfl) g (o + j * 34) cy.toArray (by rfl) (by rfl) HT1.out HAy.out HOy.out ?_
                refine hK.out _ _ trivial (fun hh => ?_)
                clear hK K hHeld
                have hHeld := hh
                clear hh
                simp only [Act.put]
                refine wpAnyH_take (i := 16) (oi := { dst := some 52, op := Op.indexAddr 40 (Operand.tmp 39) (Operand.tmp 41), type := 0, pos := "zsortanyfunc.go:13", after := #[{ on := 2, ground := Ground.data }, { on := 4, ground := Ground.data }, { on := 0, ground := Ground.phase }, { on := 1, ground := Ground.phase }, { on := 2, ground := Ground.phase }, { on := 3, ground := Ground.phase }, { on := 4, ground := Ground.phase }, { on := 5, ground := Ground.phase }, { on := 6, ground := Ground.phase }, { on := 7, ground := Ground.phase }, { on := 8, ground := Ground.phase }, { on := 9, ground := Ground.phase }, { on := 10, ground := Ground.phase }, { on := 11, ground := Ground.phase }, { on := 12, ground := Ground.phase }, { on := 13, ground := Ground.phase }, { on := 14, ground := Ground.phase }, { on := 15, ground := Ground.phase }], guard := none }) (v := .pointer (some ⟨g, o + j1 * 34, none⟩)) rfl (by kernel_rfl) (by kernel_rfl) (by kernel_rfl) (fun _ _ _ h => h) (Or.inl ⟨by rfl, fun w' hw' => by (clear hw'; go_simp)⟩) hHeld ?_
                simp only [Act.put, List.setIfInBounds_toArray, List.set_cons_zero, List.set_cons_succ]
                refine wpAnyH_ready (rs := [17]) (by kernel_rfl) (by simp) ?_
                refine AllReadyH.cons (o := { dst := none, op := Op.store 70 (Operand.tmp 52) (Operand.tmp 50), type := 0, pos := "zsortanyfunc.go:13", after := #[{ on := 16, ground := Ground.data }, { on := 13, ground := Ground.data }, { on := 15, ground := Ground.chain }, { on := 0, ground := Ground.phase }, { on := 1, ground := Ground.phase }, { on := 2, ground := Ground.phase }, { on := 3, ground := Ground.phase }, { on := 4, ground := Ground.phase }, { on := 5, ground := Ground.phase }, { on := 6, ground := Ground.phase }, { on := 7, ground := Ground.phase }, { on := 8, ground := Ground.phase }, { on := 9, ground := Ground.phase }, { on := 10, ground := Ground.phase }, { on := 11, ground := Ground.phase }, { on := 12, ground := Ground.phase }, { on := 13, ground := Ground.phase }, { on := 14, ground := Ground.phase }, { on := 15, ground := Ground.phase }], guard := none }) rfl (fun K hK => ?_) AllReadyH.nil
                rw [if_pos (by rfl)]
                refine wp_store_mid 70 _ _ (by rfl) g (o + j1 * 34) cx.toArray (by rfl) (by rfl) HT2.out HAx.out HOx.out ?_
                refine hK.out _ _ trivial (fun hh => ?_)
                clear hK K hHeld
                have hHeld := hh
                clear hh
                simp only [Act.put]
                refine wpAnyH_done (by kernel_rfl) ?_ _
                go_wp2_with fail
                go_round
                case rel => exact ⟨j1, rfl, HJM.out.2.1, HJM.out.2.2, _, _, _, _, _, HST2.out, HFIN.out⟩
                case measure => simp [intOf]; have := HJM.out; omega
            · have hls : lexB y.1 s.1 = false := by
                cases hb : lexB y.1 s.1 with
                | false => rfl
                | true => exact absurd (HCV.out.2 hb) hz
              have HO1 := hid (HDN.out hls)
              clear hls HCV HST HDN HSW
              refine wp_region_held_drew (S := fun V => Kp No wr V) (by kernel_rfl) ((Kp.refl _ _).drew) (fun hHeld => ?_)
              refine wpAnyH_take (i := 0) (oi := { dst := some 18, op := Op.move (Operand.tmp 9), type := 3, pos := "zsortanyfunc.go:12", after := #[], guard := none }) (v := .int .i64 (j : Int)) rfl (by kernel_rfl) (by kernel_rfl) (by kernel_rfl) (fun _ _ _ h => h) (Or.inl ⟨by rfl, fun w' hw' => by (clear hw'; go_simp)⟩) hHeld ?_
              simp only [Act.put, List.setIfInBounds_toArray, List.set_cons_zero, List.set_cons_succ]
              refine wpAnyH_take (i := 1) (oi := { dst := some 19, op := Op.move (Operand.tmp 1), type := 3, pos := "zsortanyfunc.go:12", after := #[], guard := none }) (v := .int .i64 (a : Int)) rfl (by kernel_rfl) (by kernel_rfl) (by kernel_rfl) (fun _ _ _ h => h) (Or.inl ⟨by rfl, fun w' hw' => by (clear hw'; go_simp)⟩) hHeld ?_
              simp only [Act.put, List.setIfInBounds_toArray, List.set_cons_zero, List.set_cons_succ]
              refine wpAnyH_take (i := 2) (oi := { dst := some 20, op := Op.binOp BinOp.gtr 3 (Operand.tmp 18) (Operand.tmp 19) 3, type := 4, pos := "zsortanyfunc.go:12", after := #[{ on := 0, ground := Ground.data }, { on := 1, ground := Ground.data }], guard := none }) (v := .bool true) rfl (by kernel_rfl) (by kernel_rfl) (by kernel_rfl) (fun _ _ _ h => h) (Or.inl ⟨by rfl, fun w' hw' => by (clear hw'; go_simp)⟩) hHeld ?_
              simp only [Act.put, List.setIfInBounds_toArray, List.set_cons_zero, List.set_cons_succ]
              refine wpAnyH_take (i := 3) (oi := { dst := some 21, op := Op.move (Operand.tmp 20), type := 4, pos := "zsortanyfunc.go:12", after := #[{ on := 2, ground := Ground.data }], guard := none }) (v := .bool true) rfl (by kernel_rfl) (by kernel_rfl) (by kernel_rfl) (fun _ _ _ h => h) (Or.inl ⟨by rfl, fun w' hw' => by (clear hw'; go_simp)⟩) hHeld ?_
              simp only [Act.put, List.setIfInBounds_toArray, List.set_cons_zero, List.set_cons_succ]
              refine wpAnyH_take (i := 4) (oi := { dst := some 22, op := Op.move (Operand.tmp 3), type := 107, pos := "zsortanyfunc.go:12", after := #[{ on := 3, ground := Ground.guard }], guard := some (3, true) }) (v := .func (.func 56) #[] #[]) rfl (by kernel_rfl) (by kernel_rfl) (by kernel_rfl) (fun _ _ _ h => h) (Or.inl ⟨by rfl, fun w' hw' => by (clear hw'; go_simp)⟩) hHeld ?_
              simp only [Act.put, List.setIfInBounds_toArray, List.set_cons_zero, List.set_cons_succ]
              refine wpAnyH_take (i := 5) (oi := { dst := some 23, op := Op.move (Operand.tmp 0), type := 40, pos := "zsortanyfunc.go:12", after := #[{ on := 3, ground := Ground.guard }], guard := some (3, true) }) (v := .slice (some ⟨g, o, none⟩) N cap) rfl (by kernel_rfl) (by kernel_rfl) (by kernel_rfl) (fun _ _ _ h => h) (Or.inl ⟨by rfl, fun w' hw' => by (clear hw'; go_simp)⟩) hHeld ?_
              simp only [Act.put, List.setIfInBounds_toArray, List.set_cons_zero, List.set_cons_succ]
              refine wpAnyH_take (i := 6) (oi := { dst := some 24, op := Op.move (Operand.tmp 9), type := 3, pos := "zsortanyfunc.go:12", after := #[{ on := 3, ground := Ground.guard }], guard := some (3, true) }) (v := .int .i64 (j : Int)) rfl (by kernel_rfl) (by kernel_rfl) (by kernel_rfl) (fun _ _ _ h => h) (Or.inl ⟨by rfl, fun w' hw' => by (clear hw'; go_simp)⟩) hHeld ?_
              simp only [Act.put, List.setIfInBounds_toArray, List.set_cons_zero, List.set_cons_succ]
              refine wpAnyH_take (i := 7) (oi := { dst := some 25, op := Op.indexAddr 40 (Operand.tmp 23) (Operand.tmp 24), type := 0, pos := "zsortanyfunc.go:12", after := #[{ on := 5, ground := Ground.data }, { on := 6, ground := Ground.data }, { on := 3, ground := Ground.guard }], guard := some (3, true) }) (v := .pointer (some ⟨g, o + j * 34, none⟩)) rfl (by kernel_rfl) (by kernel_rfl) (by kernel_rfl) (fun _ _ _ h => h) (Or.inl ⟨by rfl, fun w' hw' => by (clear hw'; go_simp)⟩) hHeld ?_
              simp only [Act.put, List.setIfInBounds_toArray, List.set_cons_zero, List.set_cons_succ]
              refine wpAnyH_take (i := 8) (oi := { dst := some 26, op := Op.load 70 (Operand.tmp 25), type := 70, pos := "zsortanyfunc.go:12", after := #[{ on := 7, ground := Ground.data }, { on := 3, ground := Ground.guard }], guard := some (3, true) }) (v := .agg cx.toArray) rfl (by kernel_rfl) (by kernel_rfl) (by kernel_rfl) (fun _ _ _ h => h) (yieldsIf_load_mid (by rfl) _ _ rfl g (o + j * 34) rfl cx _ (Hx.out) Try.underlying70 rfl HIx.out) hHeld ?_
              simp only [Act.put, List.setIfInBounds_toArray, List.set_cons_zero, List.set_cons_succ]
              refine wpAnyH_take (i := 9) (oi := { dst := some 27, op := Op.move (Operand.tmp 0), type := 40, pos := "zsortanyfunc.go:12", after := #[{ on := 3, ground := Ground.guard }], guard := some (3, true) }) (v := .slice (some ⟨g, o, none⟩) N cap) rfl (by kernel_rfl) (by kernel_rfl) (by kernel_rfl) (fun _ _ _ h => h) (Or.inl ⟨by rfl, fun w' hw' => by (clear hw'; go_simp)⟩) hHeld ?_
              simp only [Act.put, List.setIfInBounds_toArray, List.set_cons_zero, List.set_cons_succ]
              refine wpAnyH_take (i := 10) (oi := { dst := some 28, op := Op.move (Operand.tmp 9), type := 3, pos := "zsortanyfunc.go:12", after := #[{ on := 3, ground := Ground.guard }], guard := some (3, true) }) (v := .int .i64 (j : Int)) rfl (by kernel_rfl) (by kernel_rfl) (by kernel_rfl) (fun _ _ _ h => h) (Or.inl ⟨by rfl, fun w' hw' => by (clear hw'; go_simp)⟩) hHeld ?_
              simp only [Act.put, List.setIfInBounds_toArray, List.set_cons_zero, List.set_cons_succ]
              refine wpAnyH_take (i := 11) (oi := { dst := some 29, op := Op.binOp BinOp.sub 3 (Operand.tmp 28) (Operand.const (Value.int IntKind.i64 1)) 3, type := 3, pos := "zsortanyfunc.go:12", after := #[{ on := 10, ground := Ground.data }, { on := 3, ground := Ground.guard }], guard := some (3, true) }) (v := .int .i64 (j1 : Int)) rfl (by kernel_rfl) (by kernel_rfl) (by kernel_rfl) (fun _ _ _ h => h) (Or.inl ⟨by rfl, fun w' hw' => by (clear hw'; go_simp)⟩) hHeld ?_
              simp only [Act.put, List.setIfInBounds_toArray, List.set_cons_zero, List.set_cons_succ]
              refine wpAnyH_take (i := 12) (oi := { dst := some 30, op := Op.indexAddr 40 (Operand.tmp 27) (Operand.tmp 29), type := 0, pos := "zsortanyfunc.go:12", after := #[{ on := 9, ground := Ground.data }, { on := 11, ground := Ground.data }, { on := 3, ground := Ground.guard }], guard := some (3, true) }) (v := .pointer (some ⟨g, o + j1 * 34, none⟩)) rfl (by kernel_rfl) (by kernel_rfl) (by kernel_rfl) (fun _ _ _ h => h) (Or.inl ⟨by rfl, fun w' hw' => by (clear hw'; go_simp)⟩) hHeld ?_
              simp only [Act.put, List.setIfInBounds_toArray, List.set_cons_zero, List.set_cons_succ]
              refine wpAnyH_take (i := 13) (oi := { dst := some 31, op := Op.load 70 (Operand.tmp 30), type := 70, pos := "zsortanyfunc.go:12", after := #[{ on := 12, ground := Ground.data }, { on := 3, ground := Ground.guard }], guard := some (3, true) }) (v := .agg cy.toArray) rfl (by kernel_rfl) (by kernel_rfl) (by kernel_rfl) (fun _ _ _ h => h) (yieldsIf_load_mid (by rfl) _ _ rfl g (o + j1 * 34) rfl cy _ (Hy.out) Try.underlying70 rfl HIy.out) hHeld ?_
              simp only [Act.put, List.setIfInBounds_toArray, List.set_cons_zero, List.set_cons_succ]
              refine wpAnyH_ready (rs := [14]) (by kernel_rfl) (by simp) ?_
              refine AllReadyH.cons (o := { dst := some 32, op := Op.call { callee := Callee.value (Operand.tmp 22), args := #[Operand.tmp 26, Operand.tmp 31], argTypes := #[70, 70] }, type := 3, pos := "zsortanyfunc.go:12", after := #[{ on := 4, ground := Ground.data }, { on := 8, ground := Ground.data }, { on := 13, ground := Ground.data }, { on := 3, ground := Ground.chain }, { on := 3, ground := Ground.guard }], guard := some (3, true) }) rfl (fun K hK => ?_) AllReadyH.nil
              go_simp
              refine (HCMP.out _).mono ?_
              rintro e w3 ⟨rfl, h3⟩
              have HK3 : Hid (Kp No wr w3) := (Kp.refl No wr).drew.andNone (Kp.below h3)
              clear h3
              go_wp2_with fail
              refine hK.out _ _ (HK3.out) (fun hh => ?_)
              clear hK K hHeld
              have hHeld := hh
              clear hh
              try simp only [Act.put, List.setIfInBounds_toArray, List.set_cons_zero, List.set_cons_succ]
              refine wpAnyH_take (i := 15) (oi := { dst := some 33, op := Op.binOp BinOp.lss 3 (Operand.tmp 32) (Operand.const (Value.int IntKind.i64 0)) 3, type := 4, pos := "zsortanyfunc.go:12", after := #[{ on := 14, ground := Ground.data }, { on := 3, ground := Ground.guard }], guard := some (3, true) }) (v := .bool false) rfl (by kernel_rfl) (by kernel_rfl) (by kernel_rfl) (fun _ _ _ h => h) (Or.inl ⟨by rfl, fun w' hw' => by (clear hw'; go_simp)⟩) hHeld ?_
              simp only [Act.put, List.setIfInBounds_toArray, List.set_cons_zero, List.set_cons_succ]
              refine wpAnyH_take (i := 16) (oi := { dst := some 34, op := Op.pick (Operand.tmp 21) (Operand.tmp 33) (Operand.const (Value.bool false)), type := 4, pos := "zsortanyfunc.go:12", after := #[{ on := 3, ground := Ground.data }, { on := 15, ground := Ground.data }], guard := none }) (v := .bool false) rfl (by kernel_rfl) (by kernel_rfl) (by kernel_rfl) (fun _ _ _ h => h) (Or.inl ⟨by rfl, fun w' hw' => by (clear hw'; go_simp)⟩) hHeld ?_
              simp only [Act.put, List.setIfInBounds_toArray, List.set_cons_zero, List.set_cons_succ]
              refine wpAnyH_done (by kernel_rfl) ?_ _
              have HA3 := hid (HAA.out.kept HK3.out)
              clear hHeld HK3 HCMP Hx Hy HIx HIy HAx HAy HOx HOy HAA
              go_wp2_with fail
              go_round
              case rel => exact ⟨i + 1, by go_num, by omega, by omega, _, _, _, HO1.out, HA3.out⟩
              case measure => simp [intOf]; omega
          · have hgtI : ¬ (a : Int) < (j : Int) := by omega
            have HD : Hid (∃ D S Y, OutSt L R (x0 :: X) a (i + 1) b D S Y ∧ ∀ V, Kp No wr V → At w g o D V) := by
              obtain ⟨D, S1, S2, Y, y, hI, hA⟩ := HJ.out
              have hS1 : S1 = [] := by
                have h1 := hI.lj
                have h2 := hI.la
                exact List.length_eq_zero_iff.1 (by omega)
              exact ⟨D, _, _, hI.done (fun z hz => by rw [hS1] at hz; cases hz), fun V hV => hA.kept hV⟩
            go_wp2_with fail
            go_region
            all_goals
              go_wp2_with fail
              go_round
              case rel =>
                obtain ⟨D, S, Y, h1, h2⟩ := HD.out
                exact ⟨i + 1, by go_num, by omega, by omega, D, S, Y, h1, h2 _ ((Kp.refl _ _).drew)⟩
              case measure => simp [intOf]; omega
      · have hltI : ¬ (i : Int) < (b : Int) := by omega
        go_wp2_with fail
        go_end0
        obtain ⟨D, S, Y, hO, hA⟩ := HS.out
        have hY : Y = [] := by
          have h1 := hO.li
          have h2 := hO.lb
          exact List.length_eq_zero_iff.1 (by omega)
        subst hY
        have hd := hO.d
        rw [List.nil_append] at hd
        rw [hd] at hA
        exact ⟨rfl, S, by simpa using hO.st, hO.srt, hA⟩
end Go.Proofs.Ytenfahecnkdhaaa.Nd
end
