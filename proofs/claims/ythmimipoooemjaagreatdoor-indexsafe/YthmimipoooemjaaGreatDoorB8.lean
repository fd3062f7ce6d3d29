/- Of the proof: the texts SgIns, SgSymA, one behind the other. -/
import Derived.Test.YthmimipoooemjaaGreatDoorAbb
import Derived.Test.YthmimipoooemjaaGreatDoorB7
import Derived.BigRegion
section
/-
  A range of entries is sorted by inserting.
-/
namespace Go.Proofs.YthmimipoooemjaaGreatDoor.Sg
open Go.RowKit
open Stb (Stab Srt Mrg)
open Sim (hid Kp No)

abbrev ky (e : Ent) : List Int := e.1
theorem swap2_comm (d : List Ent) {i j : Nat} (h : i ≠ j) : swap2 d i j = swap2 d j i := by rw [swap2, swap2, List.set_comm _ _ h]
theorem swap2_back (A C : List Ent) (x y : Ent) : swap2 (A ++ x :: y :: C) (A.length + 1) A.length = A ++ y :: x :: C := by
  rw [swap2_comm _ (by omega)]
  exact swap2_blocks A [] C x y
/-- The value of the comparing, as it is handed on. -/
def cmpV : Value := .func (.func 133) #[] #[]

/-- In the midst of an inserting: y is on its way down. -/
structure InsSt (L R X : List Ent) (a i j b : Nat) (D : List Ent) (S1 S2 Y : List Ent) (y : Ent) : Prop where
  la : L.length = a
  lj : L.length + S1.length = j
  li : L.length + S1.length + S2.length = i
  lb : L.length + S1.length + S2.length + 1 + Y.length = b
  d : D = L ++ (S1 ++ (y :: (S2 ++ (Y ++ R))))
  srt : Srt ky lexB (S1 ++ S2)
  low : ∀ z ∈ S2, lexB y.1 z.1 = true
  st : Stab ky X (S1 ++ S2 ++ y :: Y)
/-- Between two: the first are sorted. -/
structure OutSt (L R X : List Ent) (a i b : Nat) (D : List Ent) (S Y : List Ent) : Prop where
  la : L.length = a
  li : L.length + S.length = i
  lb : L.length + S.length + Y.length = b
  d : D = L ++ (S ++ (Y ++ R))
  srt : Srt ky lexB S
  st : Stab ky X (S ++ Y)
section
variable {L R X D S1 S2 S Y : List Ent} {a i j b : Nat} {y : Ent}
theorem OutSt.begin (h : OutSt L R X a i b D S (y :: Y)) : InsSt L R X a i i b D S [] Y y where
  la := h.la
  lj := h.li
  li := h.li
  lb := by have := h.lb; simp at this ⊢; omega
  d := by rw [h.d]; simp
  srt := by simpa using h.srt
  low := fun z hz => by cases hz
  st := by simpa using h.st
theorem InsSt.done (h : InsSt L R X a i j b D S1 S2 Y y) (hs : ∀ z ∈ S1, lexB y.1 z.1 = false) : OutSt L R X a (i + 1) b D (S1 ++ y :: S2) Y := by
  have m := Mrg.one_last (key := ky) lexOrd hs h.low h.srt
  refine ⟨h.la, by have := h.li; simp; omega, by have := h.lb; simp; omega, by rw [h.d]; simp, m.2, ?_⟩
  refine h.st.trans ?_
  have := m.1.append (Stab.refl (key := ky) Y)
  simpa [List.append_assoc] using this
theorem InsSt.step {s : Ent} (h : InsSt L R X a i j b D (S1 ++ [s]) S2 Y y) (hl : lexB y.1 s.1 = true) : InsSt L R X a i (j - 1) b (swap2 D j (j - 1)) S1 (s :: S2) Y y := by
  have hj := h.lj
  have hi := h.li
  have hb := h.lb
  simp only [List.length_append, List.length_singleton] at hj hi hb
  refine ⟨h.la, by omega, by simp; omega, by simp; omega, ?_, by simpa using h.srt, fun z hz => ?_, by simpa using h.st⟩
  · rw [h.d]
    have e := swap2_back (L ++ S1) (S2 ++ (Y ++ R)) s y
    rw [show (L ++ S1).length = j - 1 by simp; omega, show j - 1 + 1 = j by omega] at e
    have e2 : L ++ ((S1 ++ [s]) ++ y :: (S2 ++ (Y ++ R))) = (L ++ S1) ++ s :: y :: (S2 ++ (Y ++ R)) := by simp
    rw [e2, e]
    simp
  · rcases List.mem_cons.1 hz with rfl | hz
    · exact hl
    · exact h.low z hz
theorem InsSt.get (h : InsSt L R X a i j b D S1 S2 Y y) : D[j]? = some y := by
  rw [h.d, ← h.lj, List.getElem?_append_right (by omega), List.getElem?_append_right (by omega)]
  simp
theorem InsSt.getp {s : Ent} (h : InsSt L R X a i j b D (S1 ++ [s]) S2 Y y) : D[j - 1]? = some s := by
  have hj := h.lj
  simp only [List.length_append, List.length_singleton] at hj
  rw [h.d, show j - 1 = L.length + S1.length by omega, List.getElem?_append_right (by omega), show L.length + S1.length - L.length = S1.length by omega, List.getElem?_append_left (by simp), List.getElem?_append_right (by omega)]
  simp
theorem InsSt.len (h : InsSt L R X a i j b D S1 S2 Y y) : D.length = b + R.length := by
  have hb := h.lb
  rw [h.d]
  simp
  omega
end

set_option maxHeartbeats 4000000 in
set_option maxRecDepth 100000 in
theorem ins_any (w : World) (g o : Nat) (L X R : List Ent) (N cap : Nat) (h : EOwn w g o (L ++ (X ++ R))) (hN : (L ++ (X ++ R)).length = N) (hl : N ≤ 1000000) :
    Calls Tryz.prog 213 #[.slice (some ⟨g, o, none⟩) N cap, .int .i64 (L.length : Int), .int .i64 ((L.length + X.length : Nat) : Int), cmpV] w fun e w' => e = .returned (.tuple #[]) ∧ ∃ X', Stab ky X X' ∧ Srt ky lexB X' ∧ At w g o (L ++ (X' ++ R)) w' := by
  have H0 := hid (At.start h)
  have hlen : L.length + X.length + R.length = N := by rw [← hN]; simp; omega
  obtain ⟨a, ha⟩ : ∃ a, L.length = a := ⟨_, rfl⟩
  obtain ⟨b, hb⟩ : ∃ b, L.length + X.length = b := ⟨_, rfl⟩
  have HLB := hid (And.intro ha hb)
  rw [hb, ha]
  have hab : a ≤ b ∧ b ≤ N := by omega
  clear ha hb h hN
  unfold cmpV
  have hlr : b + R.length = N := by have := HLB.out.2; omega
  have HLR := hid hlr
  clear hlr
  cases X with
  | nil =>
    have hba : a = b := by have := HLB.out; simp at this; omega
    subst hba
    have h1 : ¬ (a : Int) + 1 < (a : Int) := by omega
    have hw1 : IntKind.i64.wrap ((a : Int) + 1) = ((a : Int) + 1) := by rw [IntKind.wrap_i64]; omega
    go_enter Tryz.func213, Tryz.ntmps213
    go_wp2_with fail
    go_loopw [8] (fun x wr => x = .int .i64 ((a : Int) + 1) ∧ wr = w) (fun _ _ => 0)
    case atStart => exact ⟨rfl, rfl⟩
    case round =>
      obtain ⟨rfl, rfl⟩ := hrel
      go_wp2_with fail
      go_end0
      exact ⟨rfl, [], Stab.refl _, List.Pairwise.nil, H0.out⟩
  | cons x0 X =>
    have hlt0 : a < b := by have := HLB.out; simp at this; omega
    clear hlen
    obtain ⟨i0, hi0⟩ : ∃ i0, a + 1 = i0 := ⟨_, rfl⟩
    have hw1 : IntKind.i64.wrap ((a : Int) + 1) = (i0 : Int) := by rw [IntKind.wrap_i64]; omega
    have HO0 : Hid (OutSt L R (x0 :: X) a i0 b (L ++ ((x0 :: X) ++ R)) [x0] X) := ⟨HLB.out.1, by have := HLB.out; simp at this ⊢; omega, by have := HLB.out; simp at this ⊢; omega, by simp, List.pairwise_singleton _ _, Stab.refl _⟩
    have hi1 : i0 ≤ b := by omega
    have hi2 : a < i0 := by omega
    clear hi0
    go_enter Tryz.func213, Tryz.ntmps213
    go_wp2_with fail
    go_loopw [8] (fun x wr => ∃ (i : Nat), x = .int .i64 (i : Int) ∧ i ≤ b ∧ a < i ∧ Hid (∃ D S Y, OutSt L R (x0 :: X) a i b D S Y ∧ At w g o D wr)) (fun x _ => b - (intOf x).toNat)
    case atStart => exact ⟨i0, rfl, hi1, hi2, _, _, _, HO0.out, H0.out⟩
    case round =>
      obtain ⟨i, rfl, hib, hia, HS⟩ := hrel
      by_cases hlt : i < b
      · have hltI : (i : Int) < (b : Int) := by omega
        have hwi : IntKind.i64.wrap ((i : Int) + 1) = ((i + 1 : Nat) : Int) := by rw [IntKind.wrap_i64]; omega
        have HJ0 : Hid (∃ D S1 S2 Y y, InsSt L R (x0 :: X) a i i b D S1 S2 Y y ∧ At w g o D wr) := by
          obtain ⟨D, S, Y, hO, hA⟩ := HS.out
          cases Y with
          | nil => have := hO.li; have := hO.lb; simp at this; omega
          | cons y Y => exact ⟨D, S, [], Y, y, hO.begin, hA⟩
        go_wp2_with fail
        go_loopw [9] (fun x wq => ∃ (j : Nat), x = .int .i64 (j : Int) ∧ a ≤ j ∧ j ≤ i ∧ Hid (∃ D S1 S2 Y y, InsSt L R (x0 :: X) a i j b D S1 S2 Y y ∧ At w g o D wq)) (fun x _ => (intOf x).toNat)
        case atStart => exact ⟨i, rfl, by omega, Nat.le_refl _, HJ0.out⟩
        case round =>
          obtain ⟨j, rfl, hja, hji, HJ⟩ := hrel
          by_cases hgt : a < j
          · have hgtI : (a : Int) < (j : Int) := by omega
            obtain ⟨D, S1, S2, Y, y, hI, hA⟩ := HJ.out
            obtain ⟨T, s, rfl⟩ : ∃ T s, S1 = T ++ [s] := by
              have hne : S1 ≠ [] := by intro e; have h1 := hI.lj; have h2 := hI.la; rw [e] at h1; simp at h1; omega
              exact ⟨S1.dropLast, S1.getLast hne, (List.dropLast_concat_getLast hne).symm⟩
            have hgy := hI.get
            have hgs := hI.getp
            obtain ⟨oy, ry⟩ := hA.range hgy
            obtain ⟨os, rs⟩ := hA.range hgs
            have hDl := hI.len
            have hlr := HLR.out
            have hjN : (j : Int) < (N : Int) := by omega
            obtain ⟨j1, hj1⟩ : ∃ j1, j - 1 = j1 := ⟨_, rfl⟩
            have hwj : IntKind.i64.wrap ((j : Int) - 1) = (j1 : Int) := by rw [IntKind.wrap_i64]; omega
            have hj1N : (j1 : Int) < (N : Int) := by omega
            have HCMP := hid (fun V => compare_any y s V oy os)
            have HCV : Hid (cmpE y.1 s.1 < 0 ↔ lexB y.1 s.1 = true) := cmpE_neg y.1 s.1
            have HST : Hid (lexB y.1 s.1 = true → InsSt L R (x0 :: X) a i j1 b (swap2 D j j1) T (s :: S2) Y y) := fun hl => by rw [← hj1]; exact hI.step hl
            have HDN : Hid (lexB y.1 s.1 = false → OutSt L R (x0 :: X) a (i + 1) b D ((T ++ [s]) ++ y :: S2) Y) := fun hl => hI.done (fun z hz => by
              have hsr := hI.srt
              rcases List.mem_append.1 hz with hz | hz
              · have h1 := (Stb.Srt.append.1 (Stb.Srt.append.1 hsr).1).2.2 z hz s (by simp)
                exact lexOrd.le_le h1 hl
              · rw [List.mem_singleton.1 hz]; exact hl)
            have HAA := hid hA
            rw [hj1] at hgs rs
            have HSW := hid (fun (V : World) (h : At w g o D V) => swap2_at h hgy hgs)
            have Hx : Hid (∀ V, Kp No wr V → V.rangeAt g (o + j * 35) (entC y)) := fun V hV => ((hA.kept hV).range hgy).2
            have Hy : Hid (∀ V, Kp No wr V → V.rangeAt g (o + j1 * 35) (entC s)) := fun V hV => ((hA.kept hV).range hgs).2
            have HIx := hid (inf oy)
            have HIy := hid (inf os)
            have HAx := hid (infA oy)
            have HAy := hid (infA os)
            have HOx := hid (all_oneCell_toArray (entC_one y))
            have HOy := hid (all_oneCell_toArray (entC_one s))
            have hj0 : (1 : Int) ≤ (j : Int) := by omega
            have HJM : Hid (j1 < j ∧ a ≤ j1 ∧ j1 ≤ i) := by rw [Hid]; omega
            obtain ⟨cx, hcx⟩ : ∃ cx, entC y = cx := ⟨_, rfl⟩
            obtain ⟨cy, hcy⟩ : ∃ cy, entC s = cy := ⟨_, rfl⟩
            rw [hcx, hcy] at HCMP
            rw [hcx] at Hx HIx HAx HOx
            rw [hcy] at Hy HIy HAy HOy
            have HCX := hid hcx
            have HCY := hid hcy
            clear hcx hcy
            clear hI hA hgy hgs oy os ry rs hDl hlr hj1
            obtain ⟨z, hzz⟩ : ∃ z, cmpE y.1 s.1 = z := ⟨_, rfl⟩
            rw [hzz] at HCMP HCV
            clear hzz
            go_wp2_with fail
            by_cases hz : z < 0
            · have hls := HCV.out.1 hz
              refine wp_region_held_drew (S := fun V => Kp No wr V) (by kernel_rfl) ((Kp.refl _ _).drew) (fun hHeld => ?_)
              refine wpAnyH_take (i := 0) (oi := ⟨some 18, .move (.tmp 9), 3, "zsortanyfunc.go:12", #[], none⟩) (v := .int .i64 (j : Int)) rfl (by kernel_rfl) (by kernel_rfl) (by kernel_rfl) (fun _ _ _ h => h) (Or.inl ⟨by rfl, fun w' hw' => by (clear hw'; go_simp)⟩) hHeld ?_
              simp only [Act.put, sjA, sjB, sjC]
              refine wpAnyH_take (i := 1) (oi := ⟨some 19, .move (.tmp 1), 3, "zsortanyfunc.go:12", #[], none⟩) (v := .int .i64 (a : Int)) rfl (by kernel_rfl) (by kernel_rfl) (by kernel_rfl) (fun _ _ _ h => h) (Or.inl ⟨by rfl, fun w' hw' => by (clear hw'; go_simp)⟩) hHeld ?_
              simp only [Act.put, sjA, sjB, sjC]
              refine wpAnyH_take (i := 2) (oi := ⟨some 20, .binOp BinOp.gtr 3 (.tmp 18) (.tmp 19) 3, 4, "zsortanyfunc.go:12", #[⟨0, .data⟩, ⟨1, .data⟩], none⟩) (v := .bool true) rfl (by kernel_rfl) (by kernel_rfl) (by kernel_rfl) (fun _ _ _ h => h) (Or.inl ⟨by rfl, fun w' hw' => by (clear hw'; go_simp)⟩) hHeld ?_
              simp only [Act.put, sjA, sjB, sjC]
              refine wpAnyH_take (i := 3) (oi := ⟨some 21, .move (.tmp 20), 4, "zsortanyfunc.go:12", #[⟨2, .data⟩], none⟩) (v := .bool true) rfl (by kernel_rfl) (by kernel_rfl) (by kernel_rfl) (fun _ _ _ h => h) (Or.inl ⟨by rfl, fun w' hw' => by (clear hw'; go_simp)⟩) hHeld ?_
              simp only [Act.put, sjA, sjB, sjC]
              refine wpAnyH_take (i := 4) (oi := ⟨some 22, .move (.tmp 3), 222, "zsortanyfunc.go:12", #[⟨3, .guard⟩], some (3, true)⟩) (v := .func (.func 133) #[] #[]) rfl (by kernel_rfl) (by kernel_rfl) (by kernel_rfl) (fun _ _ _ h => h) (Or.inl ⟨by rfl, fun w' hw' => by (clear hw'; go_simp)⟩) hHeld ?_
              simp only [Act.put, sjA, sjB, sjC]
              refine wpAnyH_take (i := 5) (oi := ⟨some 23, .move (.tmp 0), 81, "zsortanyfunc.go:12", #[⟨3, .guard⟩], some (3, true)⟩) (v := .slice (some ⟨g, o, none⟩) N cap) rfl (by kernel_rfl) (by kernel_rfl) (by kernel_rfl) (fun _ _ _ h => h) (Or.inl ⟨by rfl, fun w' hw' => by (clear hw'; go_simp)⟩) hHeld ?_
              simp only [Act.put, sjA, sjB, sjC]
              refine wpAnyH_take (i := 6) (oi := ⟨some 24, .move (.tmp 9), 3, "zsortanyfunc.go:12", #[⟨3, .guard⟩], some (3, true)⟩) (v := .int .i64 (j : Int)) rfl (by kernel_rfl) (by kernel_rfl) (by kernel_rfl) (fun _ _ _ h => h) (Or.inl ⟨by rfl, fun w' hw' => by (clear hw'; go_simp)⟩) hHeld ?_
              simp only [Act.put, sjA, sjB, sjC]
              refine wpAnyH_take (i := 7) (oi := ⟨some 25, .indexAddr 81 (.tmp 23) (.tmp 24), 0, "zsortanyfunc.go:12", #[⟨5, .data⟩, ⟨6, .data⟩, ⟨3, .guard⟩], some (3, true)⟩) (v := .pointer (some ⟨g, o + j * 35, none⟩)) rfl (by kernel_rfl) (by kernel_rfl) (by kernel_rfl) (fun _ _ _ h => h) (Or.inl ⟨by rfl, fun w' hw' => by (clear hw'; go_simp)⟩) hHeld ?_
              simp only [Act.put, sjA, sjB, sjC]
              refine wpAnyH_take (i := 8) (oi := ⟨some 26, .load 155 (.tmp 25), 155, "zsortanyfunc.go:12", #[⟨7, .data⟩, ⟨3, .guard⟩], some (3, true)⟩) (v := .agg cx.toArray) rfl (by kernel_rfl) (by kernel_rfl) (by kernel_rfl) (fun _ _ _ h => h) (yieldsIf_load_mid (by rfl) _ _ rfl g (o + j * 35) rfl cx _ (Hx.out) Tryz.underlying155 rfl HIx.out) hHeld ?_
              simp only [Act.put, sjA, sjB, sjC]
              refine wpAnyH_take (i := 9) (oi := ⟨some 27, .move (.tmp 0), 81, "zsortanyfunc.go:12", #[⟨3, .guard⟩], some (3, true)⟩) (v := .slice (some ⟨g, o, none⟩) N cap) rfl (by kernel_rfl) (by kernel_rfl) (by kernel_rfl) (fun _ _ _ h => h) (Or.inl ⟨by rfl, fun w' hw' => by (clear hw'; go_simp)⟩) hHeld ?_
              simp only [Act.put, sjA, sjB, sjC]
              refine wpAnyH_take (i := 10) (oi := ⟨some 28, .move (.tmp 9), 3, "zsortanyfunc.go:12", #[⟨3, .guard⟩], some (3, true)⟩) (v := .int .i64 (j : Int)) rfl (by kernel_rfl) (by kernel_rfl) (by kernel_rfl) (fun _ _ _ h => h) (Or.inl ⟨by rfl, fun w' hw' => by (clear hw'; go_simp)⟩) hHeld ?_
              simp only [Act.put, sjA, sjB, sjC]
              refine wpAnyH_take (i := 11) (oi := ⟨some 29, .binOp BinOp.sub 3 (.tmp 28) (Operand.const (Value.int IntKind.i64 1)) 3, 3, "zsortanyfunc.go:12", #[⟨10, .data⟩, ⟨3, .guard⟩], some (3, true)⟩) (v := .int .i64 (j1 : Int)) rfl (by kernel_rfl) (by kernel_rfl) (by kernel_rfl) (fun _ _ _ h => h) (Or.inl ⟨by rfl, fun w' hw' => by (clear hw'; go_simp)⟩) hHeld ?_
              simp only [Act.put, sjA, sjB, sjC]
              refine wpAnyH_take (i := 12) (oi := ⟨some 30, .indexAddr 81 (.tmp 27) (.tmp 29), 0, "zsortanyfunc.go:12", #[⟨9, .data⟩, ⟨11, .data⟩, ⟨3, .guard⟩], some (3, true)⟩) (v := .pointer (some ⟨g, o + j1 * 35, none⟩)) rfl (by kernel_rfl) (by kernel_rfl) (by kernel_rfl) (fun _ _ _ h => h) (Or.inl ⟨by rfl, fun w' hw' => by (clear hw'; go_simp)⟩) hHeld ?_
              simp only [Act.put, sjA, sjB, sjC]
              refine wpAnyH_take (i := 13) (oi := ⟨some 31, .load 155 (.tmp 30), 155, "zsortanyfunc.go:12", #[⟨12, .data⟩, ⟨3, .guard⟩], some (3, true)⟩) (v := .agg cy.toArray) rfl (by kernel_rfl) (by kernel_rfl) (by kernel_rfl) (fun _ _ _ h => h) (yieldsIf_load_mid (by rfl) _ _ rfl g (o + j1 * 35) rfl cy _ (Hy.out) Tryz.underlying155 rfl HIy.out) hHeld ?_
              simp only [Act.put, sjA, sjB, sjC]
              refine wpAnyH_ready (rs := [14]) (by kernel_rfl) (by simp) ?_
              refine AllReadyH.cons (o := ⟨some 32, .call { callee := Callee.value (.tmp 22), args := #[.tmp 26, .tmp 31], argTypes := #[155, 155] }, 3, "zsortanyfunc.go:12", #[⟨4, .data⟩, ⟨8, .data⟩, ⟨13, .data⟩, ⟨3, .chain⟩, ⟨3, .guard⟩], some (3, true)⟩) rfl (fun K hK => ?_) AllReadyH.nil
              go_simp
              refine (HCMP.out _).mono ?_
              rintro e w3 ⟨rfl, h3⟩
              have HK3 : Hid (Kp No wr w3) := (Kp.refl No wr).drew.andNone (Kp.below h3)
              clear h3
              go_wp2_with fail
              refine hK.out _ _ (HK3.out) (fun hh => ?_)
              clear hK K hHeld
              have hHeld := hh
              clear hh
              try simp only [Act.put, sjA, sjB, sjC]
              refine wpAnyH_take (i := 15) (oi := ⟨some 33, .binOp BinOp.lss 3 (.tmp 32) (Operand.const (Value.int IntKind.i64 0)) 3, 4, "zsortanyfunc.go:12", #[⟨14, .data⟩, ⟨3, .guard⟩], some (3, true)⟩) (v := .bool true) rfl (by kernel_rfl) (by kernel_rfl) (by kernel_rfl) (fun _ _ _ h => h) (Or.inl ⟨by rfl, fun w' hw' => by (clear hw'; go_simp)⟩) hHeld ?_
              simp only [Act.put, sjA, sjB, sjC]
              refine wpAnyH_take (i := 16) (oi := ⟨some 34, .pick (.tmp 21) (.tmp 33) (Operand.const (Value.bool false)), 4, "zsortanyfunc.go:12", #[⟨3, .data⟩, ⟨15, .data⟩], none⟩) (v := .bool true) rfl (by kernel_rfl) (by kernel_rfl) (by kernel_rfl) (fun _ _ _ h => h) (Or.inl ⟨by rfl, fun w' hw' => by (clear hw'; go_simp)⟩) hHeld ?_
              simp only [Act.put, sjA, sjB, sjC]
              refine wpAnyH_done (by kernel_rfl) ?_ _
              obtain ⟨_, _, hrx, hry, ht1, ht2, hfin⟩ := HSW.out w3 (HAA.out.kept HK3.out)
              rw [HCX.out] at hrx ht2 hfin
              rw [HCY.out] at hry ht1 ht2 hfin
              have Hx6 := hid hrx
              have Hy6 := hid hry
              have HT1 := hid ht1
              have HT2 := hid ht2
              have HFIN := hid hfin
              have HST2 := hid (HST.out hls)
              clear hHeld hrx hry ht1 ht2 hfin HSW HST HDN HCV HCMP HAA HK3 Hx Hy hls hz
              go_wp2_with fail
              refine wp_region_held_drew (S := fun _ => True) (by kernel_rfl) trivial (fun hHeld => ?_)
              refine wpAnyH_take (i := 0) (oi := ⟨some 37, .move (.tmp 0), 81, "zsortanyfunc.go:13", #[], none⟩) (v := .slice (some ⟨g, o, none⟩) N cap) rfl (by kernel_rfl) (by kernel_rfl) (by kernel_rfl) (fun _ _ _ h => h) (Or.inl ⟨by rfl, fun w' hw' => by (clear hw'; go_simp)⟩) hHeld ?_
              simp only [Act.put, sjA, sjB, sjC]
              refine wpAnyH_take (i := 1) (oi := ⟨some 38, .move (.tmp 9), 3, "zsortanyfunc.go:13", #[], none⟩) (v := .int .i64 (j : Int)) rfl (by kernel_rfl) (by kernel_rfl) (by kernel_rfl) (fun _ _ _ h => h) (Or.inl ⟨by rfl, fun w' hw' => by (clear hw'; go_simp)⟩) hHeld ?_
              simp only [Act.put, sjA, sjB, sjC]
              refine wpAnyH_take (i := 2) (oi := ⟨some 39, .move (.tmp 0), 81, "zsortanyfunc.go:13", #[⟨15, .gcOnly .lateStores⟩], none⟩) (v := .slice (some ⟨g, o, none⟩) N cap) rfl (by kernel_rfl) (by kernel_rfl) (by kernel_rfl) (fun _ _ _ h => h) (Or.inl ⟨by rfl, fun w' hw' => by (clear hw'; go_simp)⟩) hHeld ?_
              simp only [Act.put, sjA, sjB, sjC]
              refine wpAnyH_take (i := 3) (oi := ⟨some 40, .move (.tmp 9), 3, "zsortanyfunc.go:13", #[⟨15, .gcOnly .lateStores⟩], none⟩) (v := .int .i64 (j : Int)) rfl (by kernel_rfl) (by kernel_rfl) (by kernel_rfl) (fun _ _ _ h => h) (Or.inl ⟨by rfl, fun w' hw' => by (clear hw'; go_simp)⟩) hHeld ?_
              simp only [Act.put, sjA, sjB, sjC]
              refine wpAnyH_take (i := 4) (oi := ⟨some 41, .binOp BinOp.sub 3 (.tmp 40) (Operand.const (Value.int IntKind.i64 1)) 3, 3, "zsortanyfunc.go:13", #[⟨3, .data⟩, ⟨15, .gcOnly .lateStores⟩], none⟩) (v := .int .i64 (j1 : Int)) rfl (by kernel_rfl) (by kernel_rfl) (by kernel_rfl) (fun _ _ _ h => h) (Or.inl ⟨by rfl, fun w' hw' => by (clear hw'; go_simp)⟩) hHeld ?_
              simp only [Act.put, sjA, sjB, sjC]
              refine wpAnyH_take (i := 5) (oi := ⟨some 42, .move (.tmp 0), 81, "zsortanyfunc.go:13", #[], none⟩) (v := .slice (some ⟨g, o, none⟩) N cap) rfl (by kernel_rfl) (by kernel_rfl) (by kernel_rfl) (fun _ _ _ h => h) (Or.inl ⟨by rfl, fun w' hw' => by (clear hw'; go_simp)⟩) hHeld ?_
              simp only [Act.put, sjA, sjB, sjC]
              refine wpAnyH_take (i := 6) (oi := ⟨some 43, .move (.tmp 9), 3, "zsortanyfunc.go:13", #[], none⟩) (v := .int .i64 (j : Int)) rfl (by kernel_rfl) (by kernel_rfl) (by kernel_rfl) (fun _ _ _ h => h) (Or.inl ⟨by rfl, fun w' hw' => by (clear hw'; go_simp)⟩) hHeld ?_
              simp only [Act.put, sjA, sjB, sjC]
              refine wpAnyH_take (i := 7) (oi := ⟨some 44, .binOp BinOp.sub 3 (.tmp 43) (Operand.const (Value.int IntKind.i64 1)) 3, 3, "zsortanyfunc.go:13", #[⟨6, .data⟩], none⟩) (v := .int .i64 (j1 : Int)) rfl (by kernel_rfl) (by kernel_rfl) (by kernel_rfl) (fun _ _ _ h => h) (Or.inl ⟨by rfl, fun w' hw' => by (clear hw'; go_simp)⟩) hHeld ?_
              simp only [Act.put, sjA, sjB, sjC]
              refine wpAnyH_take (i := 8) (oi := ⟨some 45, .indexAddr 81 (.tmp 42) (.tmp 44), 0, "zsortanyfunc.go:13", #[⟨5, .data⟩, ⟨7, .data⟩], none⟩) (v := .pointer (some ⟨g, o + j1 * 35, none⟩)) rfl (by kernel_rfl) (by kernel_rfl) (by kernel_rfl) (fun _ _ _ h => h) (Or.inl ⟨by rfl, fun w' hw' => by (clear hw'; go_simp)⟩) hHeld ?_
              simp only [Act.put, sjA, sjB, sjC]
              refine wpAnyH_take (i := 10) (oi := ⟨some 47, .move (.tmp 0), 81, "zsortanyfunc.go:13", #[], none⟩) (v := .slice (some ⟨g, o, none⟩) N cap) rfl (by kernel_rfl) (by kernel_rfl) (by kernel_rfl) (fun _ _ _ h => h) (Or.inl ⟨by rfl, fun w' hw' => by (clear hw'; go_simp)⟩) hHeld ?_
              simp only [Act.put, sjA, sjB, sjC]
              refine wpAnyH_take (i := 11) (oi := ⟨some 48, .move (.tmp 9), 3, "zsortanyfunc.go:13", #[], none⟩) (v := .int .i64 (j : Int)) rfl (by kernel_rfl) (by kernel_rfl) (by kernel_rfl) (fun _ _ _ h => h) (Or.inl ⟨by rfl, fun w' hw' => by (clear hw'; go_simp)⟩) hHeld ?_
              simp only [Act.put, sjA, sjB, sjC]
              refine wpAnyH_take (i := 12) (oi := ⟨some 49, .indexAddr 81 (.tmp 47) (.tmp 48), 0, "zsortanyfunc.go:13", #[⟨10, .data⟩, ⟨11, .data⟩], none⟩) (v := .pointer (some ⟨g, o + j * 35, none⟩)) rfl (by kernel_rfl) (by kernel_rfl) (by kernel_rfl) (fun _ _ _ h => h) (Or.inl ⟨by rfl, fun w' hw' => by (clear hw'; go_simp)⟩) hHeld ?_
              simp only [Act.put, sjA, sjB, sjC]
              refine wpAnyH_ready (rs := [9, 13]) (by kernel_rfl) (by simp) ?_
              refine AllReadyH.cons (o := ⟨some 46, .load 155 (.tmp 45), 155, "zsortanyfunc.go:13", #[⟨8, .data⟩], none⟩) rfl (fun K hK => ?_) (AllReadyH.cons (o := ⟨some 50, .load 155 (.tmp 49), 155, "zsortanyfunc.go:13", #[⟨12, .data⟩], none⟩) rfl (fun K hK => ?_) AllReadyH.nil)
              · rw [if_pos (by rfl)]
                refine wp_load_mid 155 _ (by rfl) g (o + j1 * 35) (by rfl) cy _ (Hy6.out _ ((Kp.refl No _).drew)) Tryz.underlying155 rfl HIy.out ?_
                refine hK.out _ _ trivial (fun hh => ?_)
                clear hK K hHeld
                have hHeld := hh
                clear hh
                try simp only [Act.put, sjA, sjB, sjC]
                refine wpAnyH_ready (rs := [13]) (by kernel_rfl) (by simp) ?_
                refine AllReadyH.cons (o := ⟨some 50, .load 155 (.tmp 49), 155, "zsortanyfunc.go:13", #[⟨12, .data⟩], none⟩) rfl (fun K hK => ?_) AllReadyH.nil
                rw [if_pos (by rfl)]
                refine wp_load_mid 155 _ (by rfl) g (o + j * 35) (by rfl) cx _ (Hx6.out _ ((Kp.refl No _).drew)) Tryz.underlying155 rfl HIx.out ?_
                refine hK.out _ _ trivial (fun hh => ?_)
                clear hK K hHeld
                have hHeld := hh
                clear hh
                try simp only [Act.put, sjA, sjB, sjC]
                refine wpAnyH_take (i := 14) (oi := ⟨some 51, .indexAddr 81 (.tmp 37) (.tmp 38), 0, "zsortanyfunc.go:13", #[⟨0, .data⟩, ⟨1, .data⟩, ⟨0, .phase⟩, ⟨1, .phase⟩, ⟨2, .textOnly .lateStores⟩, ⟨3, .textOnly .lateStores⟩, ⟨4, .textOnly .lateStores⟩, ⟨5, .phase⟩, ⟨6, .phase⟩, ⟨7, .phase⟩, ⟨8, .phase⟩, ⟨9, .phase⟩, ⟨10, .textOnly .lateStores⟩, ⟨11, .textOnly .lateStores⟩, ⟨12, .textOnly .lateStoresUnsure⟩, ⟨13, .phase⟩], none⟩) (v := .pointer (some ⟨g, o + j * 35, none⟩)) rfl (by kernel_rfl) (by kernel_rfl) (by kernel_rfl) (fun _ _ _ h => h) (Or.inl ⟨by rfl, fun w' hw' => by (clear hw'; go_simp)⟩) hHeld ?_
                simp only [Act.put, sjA, sjB, sjC]
                refine wpAnyH_ready (rs := [15]) (by kernel_rfl) (by simp) ?_
                refine AllReadyH.cons (o := ⟨none, .store 155 (.tmp 51) (.tmp 46), 0, "zsortanyfunc.go:13", #[⟨14, .data⟩, ⟨9, .data⟩, ⟨0, .phase⟩, ⟨1, .phase⟩, ⟨2, .textOnly .lateStores⟩, ⟨3, .textOnly .lateStores⟩, ⟨4, .textOnly .lateStores⟩, ⟨5, .phase⟩, ⟨6, .phase⟩, ⟨7, .phase⟩, ⟨8, .phase⟩, ⟨9, .phase⟩, ⟨10, .textOnly .lateStores⟩, ⟨11, .textOnly .lateStores⟩, ⟨12, .textOnly .lateStoresUnsure⟩, ⟨13, .phase⟩], none⟩) rfl (fun K hK => ?_) AllReadyH.nil
                rw [if_pos (by rfl)]
                refine wp_store_mid 155 _ _ (by rfl) g (o + j * 35) cy.toArray (by rfl) (by rfl) HT1.out HAy.out HOy.out ?_
                refine hK.out _ _ trivial (fun hh => ?_)
                clear hK K hHeld
                have hHeld := hh
                clear hh
                simp only [Act.put]
                refine wpAnyH_take (i := 16) (oi := ⟨some 52, .indexAddr 81 (.tmp 39) (.tmp 41), 0, "zsortanyfunc.go:13", #[⟨2, .data⟩, ⟨4, .data⟩, ⟨0, .phase⟩, ⟨1, .phase⟩, ⟨2, .phase⟩, ⟨3, .phase⟩, ⟨4, .phase⟩, ⟨5, .phase⟩, ⟨6, .phase⟩, ⟨7, .phase⟩, ⟨8, .phase⟩, ⟨9, .phase⟩, ⟨10, .phase⟩, ⟨11, .phase⟩, ⟨12, .phase⟩, ⟨13, .phase⟩, ⟨14, .phase⟩, ⟨15, .phase⟩], none⟩) (v := .pointer (some ⟨g, o + j1 * 35, none⟩)) rfl (by kernel_rfl) (by kernel_rfl) (by kernel_rfl) (fun _ _ _ h => h) (Or.inl ⟨by rfl, fun w' hw' => by (clear hw'; go_simp)⟩) hHeld ?_
                simp only [Act.put, sjA, sjB, sjC]
                refine wpAnyH_ready (rs := [17]) (by kernel_rfl) (by simp) ?_
                refine AllReadyH.cons (o := ⟨none, .store 155 (.tmp 52) (.tmp 50), 0, "zsortanyfunc.go:13", #[⟨16, .data⟩, ⟨13, .data⟩, ⟨15, .chain⟩, ⟨0, .phase⟩, ⟨1, .phase⟩, ⟨2, .phase⟩, ⟨3, .phase⟩, ⟨4, .phase⟩, ⟨5, .phase⟩, ⟨6, .phase⟩, ⟨7, .phase⟩, ⟨8, .phase⟩, ⟨9, .phase⟩, ⟨10, .phase⟩, ⟨11, .phase⟩, ⟨12, .phase⟩, ⟨13, .phase⟩, ⟨14, .phase⟩, ⟨15, .phase⟩], none⟩) rfl (fun K hK => ?_) AllReadyH.nil
                rw [if_pos (by rfl)]
                refine wp_store_mid 155 _ _ (by rfl) g (o + j1 * 35) cx.toArray (by rfl) (by rfl) HT2.out HAx.out HOx.out ?_
                refine hK.out _ _ trivial (fun hh => ?_)
                clear hK K hHeld
                have hHeld := hh
                clear hh
                simp only [Act.put]
                refine wpAnyH_done (by kernel_rfl) ?_ _
                go_wp2_with fail
                go_round
                case rel => exact ⟨j1, rfl, HJM.out.2.1, HJM.out.2.2, _, _, _, _, _, HST2.out, HFIN.out⟩
                case measure => simp [intOf]; have := HJM.out; omega
              · rw [if_pos (by rfl)]
                refine wp_load_mid 155 _ (by rfl) g (o + j * 35) (by rfl) cx _ (Hx6.out _ ((Kp.refl No _).drew)) Tryz.underlying155 rfl HIx.out ?_
                refine hK.out _ _ trivial (fun hh => ?_)
                clear hK K hHeld
                have hHeld := hh
                clear hh
                try simp only [Act.put, sjA, sjB, sjC]
                refine wpAnyH_ready (rs := [9]) (by kernel_rfl) (by simp) ?_
                refine AllReadyH.cons (o := ⟨some 46, .load 155 (.tmp 45), 155, "zsortanyfunc.go:13", #[⟨8, .data⟩], none⟩) rfl (fun K hK => ?_) AllReadyH.nil
                rw [if_pos (by rfl)]
                refine wp_load_mid 155 _ (by rfl) g (o + j1 * 35) (by rfl) cy _ (Hy6.out _ ((Kp.refl No _).drew)) Tryz.underlying155 rfl HIy.out ?_
                refine hK.out _ _ trivial (fun hh => ?_)
                clear hK K hHeld
                have hHeld := hh
                clear hh
                try simp only [Act.put, sjA, sjB, sjC]
                refine wpAnyH_take (i := 14) (oi := ⟨some 51, .indexAddr 81 (.tmp 37) (.tmp 38), 0, "zsortanyfunc.go:13", #[⟨0, .data⟩, ⟨1, .data⟩, ⟨0, .phase⟩, ⟨1, .phase⟩, ⟨2, .textOnly .lateStores⟩, ⟨3, .textOnly .lateStores⟩, ⟨4, .textOnly .lateStores⟩, ⟨5, .phase⟩, ⟨6, .phase⟩, ⟨7, .phase⟩, ⟨8, .phase⟩, ⟨9, .phase⟩, ⟨10, .textOnly .lateStores⟩, ⟨11, .textOnly .lateStores⟩, ⟨12, .textOnly .lateStoresUnsure⟩, ⟨13, .phase⟩], none⟩) (v := .pointer (some ⟨g, o + j * 35, none⟩)) rfl (by kernel_rfl) (by kernel_rfl) (by kernel_rfl) (fun _ _ _ h => h) (Or.inl ⟨by rfl, fun w' hw' => by (clear hw'; go_simp)⟩) hHeld ?_
                simp only [Act.put, sjA, sjB, sjC]
                refine wpAnyH_ready (rs := [15]) (by kernel_rfl) (by simp) ?_
                refine AllReadyH.cons (o := ⟨none, .store 155 (.tmp 51) (.tmp 46), 0, "zsortanyfunc.go:13", #[⟨14, .data⟩, ⟨9, .data⟩, ⟨0, .phase⟩, ⟨1, .phase⟩, ⟨2, .textOnly .lateStores⟩, ⟨3, .textOnly .lateStores⟩, ⟨4, .textOnly .lateStores⟩, ⟨5, .phase⟩, ⟨6, .phase⟩, ⟨7, .phase⟩, ⟨8, .phase⟩, ⟨9, .phase⟩, ⟨10, .textOnly .lateStores⟩, ⟨11, .textOnly .lateStores⟩, ⟨12, .textOnly .lateStoresUnsure⟩, ⟨13, .phase⟩], none⟩) rfl (fun K hK => ?_) AllReadyH.nil
                rw [if_pos (by rfl)]
                refine wp_store_mid 155 _ _ (by rfl) g (o + j * 35) cy.toArray (by rfl) (by rfl) HT1.out HAy.out HOy.out ?_
                refine hK.out _ _ trivial (fun hh => ?_)
                clear hK K hHeld
                have hHeld := hh
                clear hh
                simp only [Act.put]
                refine wpAnyH_take (i := 16) (oi := ⟨some 52, .indexAddr 81 (.tmp 39) (.tmp 41), 0, "zsortanyfunc.go:13", #[⟨2, .data⟩, ⟨4, .data⟩, ⟨0, .phase⟩, ⟨1, .phase⟩, ⟨2, .phase⟩, ⟨3, .phase⟩, ⟨4, .phase⟩, ⟨5, .phase⟩, ⟨6, .phase⟩, ⟨7, .phase⟩, ⟨8, .phase⟩, ⟨9, .phase⟩, ⟨10, .phase⟩, ⟨11, .phase⟩, ⟨12, .phase⟩, ⟨13, .phase⟩, ⟨14, .phase⟩, ⟨15, .phase⟩], none⟩) (v := .pointer (some ⟨g, o + j1 * 35, none⟩)) rfl (by kernel_rfl) (by kernel_rfl) (by kernel_rfl) (fun _ _ _ h => h) (Or.inl ⟨by rfl, fun w' hw' => by (clear hw'; go_simp)⟩) hHeld ?_
                simp only [Act.put, sjA, sjB, sjC]
                refine wpAnyH_ready (rs := [17]) (by kernel_rfl) (by simp) ?_
                refine AllReadyH.cons (o := ⟨none, .store 155 (.tmp 52) (.tmp 50), 0, "zsortanyfunc.go:13", #[⟨16, .data⟩, ⟨13, .data⟩, ⟨15, .chain⟩, ⟨0, .phase⟩, ⟨1, .phase⟩, ⟨2, .phase⟩, ⟨3, .phase⟩, ⟨4, .phase⟩, ⟨5, .phase⟩, ⟨6, .phase⟩, ⟨7, .phase⟩, ⟨8, .phase⟩, ⟨9, .phase⟩, ⟨10, .phase⟩, ⟨11, .phase⟩, ⟨12, .phase⟩, ⟨13, .phase⟩, ⟨14, .phase⟩, ⟨15, .phase⟩], none⟩) rfl (fun K hK => ?_) AllReadyH.nil
                rw [if_pos (by rfl)]
                refine wp_store_mid 155 _ _ (by rfl) g (o + j1 * 35) cx.toArray (by rfl) (by rfl) HT2.out HAx.out HOx.out ?_
                refine hK.out _ _ trivial (fun hh => ?_)
                clear hK K hHeld
                have hHeld := hh
                clear hh
                simp only [Act.put]
                refine wpAnyH_done (by kernel_rfl) ?_ _
                go_wp2_with fail
                go_round
                case rel => exact ⟨j1, rfl, HJM.out.2.1, HJM.out.2.2, _, _, _, _, _, HST2.out, HFIN.out⟩
                case measure => simp [intOf]; have := HJM.out; omega
            · have hls : lexB y.1 s.1 = false := by
                cases hb : lexB y.1 s.1 with
                | false => rfl
                | true => exact absurd (HCV.out.2 hb) hz
              have HO1 := hid (HDN.out hls)
              clear hls HCV HST HDN HSW
              refine wp_region_held_drew (S := fun V => Kp No wr V) (by kernel_rfl) ((Kp.refl _ _).drew) (fun hHeld => ?_)
              refine wpAnyH_take (i := 0) (oi := ⟨some 18, .move (.tmp 9), 3, "zsortanyfunc.go:12", #[], none⟩) (v := .int .i64 (j : Int)) rfl (by kernel_rfl) (by kernel_rfl) (by kernel_rfl) (fun _ _ _ h => h) (Or.inl ⟨by rfl, fun w' hw' => by (clear hw'; go_simp)⟩) hHeld ?_
              simp only [Act.put, sjA, sjB, sjC]
              refine wpAnyH_take (i := 1) (oi := ⟨some 19, .move (.tmp 1), 3, "zsortanyfunc.go:12", #[], none⟩) (v := .int .i64 (a : Int)) rfl (by kernel_rfl) (by kernel_rfl) (by kernel_rfl) (fun _ _ _ h => h) (Or.inl ⟨by rfl, fun w' hw' => by (clear hw'; go_simp)⟩) hHeld ?_
              simp only [Act.put, sjA, sjB, sjC]
              refine wpAnyH_take (i := 2) (oi := ⟨some 20, .binOp BinOp.gtr 3 (.tmp 18) (.tmp 19) 3, 4, "zsortanyfunc.go:12", #[⟨0, .data⟩, ⟨1, .data⟩], none⟩) (v := .bool true) rfl (by kernel_rfl) (by kernel_rfl) (by kernel_rfl) (fun _ _ _ h => h) (Or.inl ⟨by rfl, fun w' hw' => by (clear hw'; go_simp)⟩) hHeld ?_
              simp only [Act.put, sjA, sjB, sjC]
              refine wpAnyH_take (i := 3) (oi := ⟨some 21, .move (.tmp 20), 4, "zsortanyfunc.go:12", #[⟨2, .data⟩], none⟩) (v := .bool true) rfl (by kernel_rfl) (by kernel_rfl) (by kernel_rfl) (fun _ _ _ h => h) (Or.inl ⟨by rfl, fun w' hw' => by (clear hw'; go_simp)⟩) hHeld ?_
              simp only [Act.put, sjA, sjB, sjC]
              refine wpAnyH_take (i := 4) (oi := ⟨some 22, .move (.tmp 3), 222, "zsortanyfunc.go:12", #[⟨3, .guard⟩], some (3, true)⟩) (v := .func (.func 133) #[] #[]) rfl (by kernel_rfl) (by kernel_rfl) (by kernel_rfl) (fun _ _ _ h => h) (Or.inl ⟨by rfl, fun w' hw' => by (clear hw'; go_simp)⟩) hHeld ?_
              simp only [Act.put, sjA, sjB, sjC]
              refine wpAnyH_take (i := 5) (oi := ⟨some 23, .move (.tmp 0), 81, "zsortanyfunc.go:12", #[⟨3, .guard⟩], some (3, true)⟩) (v := .slice (some ⟨g, o, none⟩) N cap) rfl (by kernel_rfl) (by kernel_rfl) (by kernel_rfl) (fun _ _ _ h => h) (Or.inl ⟨by rfl, fun w' hw' => by (clear hw'; go_simp)⟩) hHeld ?_
              simp only [Act.put, sjA, sjB, sjC]
              refine wpAnyH_take (i := 6) (oi := ⟨some 24, .move (.tmp 9), 3, "zsortanyfunc.go:12", #[⟨3, .guard⟩], some (3, true)⟩) (v := .int .i64 (j : Int)) rfl (by kernel_rfl) (by kernel_rfl) (by kernel_rfl) (fun _ _ _ h => h) (Or.inl ⟨by rfl, fun w' hw' => by (clear hw'; go_simp)⟩) hHeld ?_
              simp only [Act.put, sjA, sjB, sjC]
              refine wpAnyH_take (i := 7) (oi := ⟨some 25, .indexAddr 81 (.tmp 23) (.tmp 24), 0, "zsortanyfunc.go:12", #[⟨5, .data⟩, ⟨6, .data⟩, ⟨3, .guard⟩], some (3, true)⟩) (v := .pointer (some ⟨g, o + j * 35, none⟩)) rfl (by kernel_rfl) (by kernel_rfl) (by kernel_rfl) (fun _ _ _ h => h) (Or.inl ⟨by rfl, fun w' hw' => by (clear hw'; go_simp)⟩) hHeld ?_
              simp only [Act.put, sjA, sjB, sjC]
              refine wpAnyH_take (i := 8) (oi := ⟨some 26, .load 155 (.tmp 25), 155, "zsortanyfunc.go:12", #[⟨7, .data⟩, ⟨3, .guard⟩], some (3, true)⟩) (v := .agg cx.toArray) rfl (by kernel_rfl) (by kernel_rfl) (by kernel_rfl) (fun _ _ _ h => h) (yieldsIf_load_mid (by rfl) _ _ rfl g (o + j * 35) rfl cx _ (Hx.out) Tryz.underlying155 rfl HIx.out) hHeld ?_
              simp only [Act.put, sjA, sjB, sjC]
              refine wpAnyH_take (i := 9) (oi := ⟨some 27, .move (.tmp 0), 81, "zsortanyfunc.go:12", #[⟨3, .guard⟩], some (3, true)⟩) (v := .slice (some ⟨g, o, none⟩) N cap) rfl (by kernel_rfl) (by kernel_rfl) (by kernel_rfl) (fun _ _ _ h => h) (Or.inl ⟨by rfl, fun w' hw' => by (clear hw'; go_simp)⟩) hHeld ?_
              simp only [Act.put, sjA, sjB, sjC]
              refine wpAnyH_take (i := 10) (oi := ⟨some 28, .move (.tmp 9), 3, "zsortanyfunc.go:12", #[⟨3, .guard⟩], some (3, true)⟩) (v := .int .i64 (j : Int)) rfl (by kernel_rfl) (by kernel_rfl) (by kernel_rfl) (fun _ _ _ h => h) (Or.inl ⟨by rfl, fun w' hw' => by (clear hw'; go_simp)⟩) hHeld ?_
              simp only [Act.put, sjA, sjB, sjC]
              refine wpAnyH_take (i := 11) (oi := ⟨some 29, .binOp BinOp.sub 3 (.tmp 28) (Operand.const (Value.int IntKind.i64 1)) 3, 3, "zsortanyfunc.go:12", #[⟨10, .data⟩, ⟨3, .guard⟩], some (3, true)⟩) (v := .int .i64 (j1 : Int)) rfl (by kernel_rfl) (by kernel_rfl) (by kernel_rfl) (fun _ _ _ h => h) (Or.inl ⟨by rfl, fun w' hw' => by (clear hw'; go_simp)⟩) hHeld ?_
              simp only [Act.put, sjA, sjB, sjC]
              refine wpAnyH_take (i := 12) (oi := ⟨some 30, .indexAddr 81 (.tmp 27) (.tmp 29), 0, "zsortanyfunc.go:12", #[⟨9, .data⟩, ⟨11, .data⟩, ⟨3, .guard⟩], some (3, true)⟩) (v := .pointer (some ⟨g, o + j1 * 35, none⟩)) rfl (by kernel_rfl) (by kernel_rfl) (by kernel_rfl) (fun _ _ _ h => h) (Or.inl ⟨by rfl, fun w' hw' => by (clear hw'; go_simp)⟩) hHeld ?_
              simp only [Act.put, sjA, sjB, sjC]
              refine wpAnyH_take (i := 13) (oi := ⟨some 31, .load 155 (.tmp 30), 155, "zsortanyfunc.go:12", #[⟨12, .data⟩, ⟨3, .guard⟩], some (3, true)⟩) (v := .agg cy.toArray) rfl (by kernel_rfl) (by kernel_rfl) (by kernel_rfl) (fun _ _ _ h => h) (yieldsIf_load_mid (by rfl) _ _ rfl g (o + j1 * 35) rfl cy _ (Hy.out) Tryz.underlying155 rfl HIy.out) hHeld ?_
              simp only [Act.put, sjA, sjB, sjC]
              refine wpAnyH_ready (rs := [14]) (by kernel_rfl) (by simp) ?_
              refine AllReadyH.cons (o := ⟨some 32, .call { callee := Callee.value (.tmp 22), args := #[.tmp 26, .tmp 31], argTypes := #[155, 155] }, 3, "zsortanyfunc.go:12", #[⟨4, .data⟩, ⟨8, .data⟩, ⟨13, .data⟩, ⟨3, .chain⟩, ⟨3, .guard⟩], some (3, true)⟩) rfl (fun K hK => ?_) AllReadyH.nil
              go_simp
              refine (HCMP.out _).mono ?_
              rintro e w3 ⟨rfl, h3⟩
              have HK3 : Hid (Kp No wr w3) := (Kp.refl No wr).drew.andNone (Kp.below h3)
              clear h3
              go_wp2_with fail
              refine hK.out _ _ (HK3.out) (fun hh => ?_)
              clear hK K hHeld
              have hHeld := hh
              clear hh
              try simp only [Act.put, sjA, sjB, sjC]
              refine wpAnyH_take (i := 15) (oi := ⟨some 33, .binOp BinOp.lss 3 (.tmp 32) (Operand.const (Value.int IntKind.i64 0)) 3, 4, "zsortanyfunc.go:12", #[⟨14, .data⟩, ⟨3, .guard⟩], some (3, true)⟩) (v := .bool false) rfl (by kernel_rfl) (by kernel_rfl) (by kernel_rfl) (fun _ _ _ h => h) (Or.inl ⟨by rfl, fun w' hw' => by (clear hw'; go_simp)⟩) hHeld ?_
              simp only [Act.put, sjA, sjB, sjC]
              refine wpAnyH_take (i := 16) (oi := ⟨some 34, .pick (.tmp 21) (.tmp 33) (Operand.const (Value.bool false)), 4, "zsortanyfunc.go:12", #[⟨3, .data⟩, ⟨15, .data⟩], none⟩) (v := .bool false) rfl (by kernel_rfl) (by kernel_rfl) (by kernel_rfl) (fun _ _ _ h => h) (Or.inl ⟨by rfl, fun w' hw' => by (clear hw'; go_simp)⟩) hHeld ?_
              simp only [Act.put, sjA, sjB, sjC]
              refine wpAnyH_done (by kernel_rfl) ?_ _
              have HA3 := hid (HAA.out.kept HK3.out)
              clear hHeld HK3 HCMP Hx Hy HIx HIy HAx HAy HOx HOy HAA
              go_wp2_with fail
              go_round
              case rel => exact ⟨i + 1, by go_num, by omega, by omega, _, _, _, HO1.out, HA3.out⟩
              case measure => simp [intOf]; omega
          · have hgtI : ¬ (a : Int) < (j : Int) := by omega
            have HD : Hid (∃ D S Y, OutSt L R (x0 :: X) a (i + 1) b D S Y ∧ ∀ V, Kp No wr V → At w g o D V) := by
              obtain ⟨D, S1, S2, Y, y, hI, hA⟩ := HJ.out
              have hS1 : S1 = [] := by
                have h1 := hI.lj
                have h2 := hI.la
                exact List.length_eq_zero_iff.1 (by omega)
              exact ⟨D, _, _, hI.done (fun z hz => by rw [hS1] at hz; cases hz), fun V hV => hA.kept hV⟩
            go_wp2_with fail
            go_region
            all_goals
              go_wp2_with fail
              go_round
              case rel =>
                obtain ⟨D, S, Y, h1, h2⟩ := HD.out
                exact ⟨i + 1, by go_num, by omega, by omega, D, S, Y, h1, h2 _ ((Kp.refl _ _).drew)⟩
              case measure => simp [intOf]; omega
      · have hltI : ¬ (i : Int) < (b : Int) := by omega
        go_wp2_with fail
        go_end0
        obtain ⟨D, S, Y, hO, hA⟩ := HS.out
        have hY : Y = [] := by
          have h1 := hO.li
          have h2 := hO.lb
          exact List.length_eq_zero_iff.1 (by omega)
        subst hY
        have hd := hO.d
        rw [List.nil_append] at hd
        rw [hd] at hA
        exact ⟨rfl, S, by simpa using hO.st, hO.srt, hA⟩
end Go.Proofs.YthmimipoooemjaaGreatDoor.Sg
end

section
/-
  One entry is merged into the sorted ones behind it.
-/
namespace Go.Proofs.YthmimipoooemjaaGreatDoor.Sg
open Go.RowKit
open Stb (Stab Srt Mrg)
open Sim (hid Kp No)

/-- What a search by halves has found so far. -/
structure Half (p : Ent → Bool) (B : List Ent) (i j : Nat) : Prop where
  le : i ≤ j
  len : j ≤ B.length
  lo : ∀ (t : Nat) (z : Ent), t < i → B[t]? = some z → p z = true
  hi : ∀ (t : Nat) (z : Ent), j ≤ t → B[t]? = some z → p z = false
theorem Half.begin (p : Ent → Bool) (B : List Ent) : Half p B 0 B.length := ⟨Nat.zero_le _, Nat.le_refl _, fun t z h => by omega, fun t z h1 h2 => by have := (List.getElem?_eq_some_iff.1 h2).1; omega⟩
theorem Half.yes {p : Ent → Bool} {B : List Ent} {i j h : Nat} {z : Ent} (H : Half p B i j) (hij : h < j) (_hih : i ≤ h) (hz : B[h]? = some z) (hp : p z = true) (mono : ∀ (t u : Nat) (x y : Ent), t ≤ u → B[t]? = some x → B[u]? = some y → p y = true → p x = true) : Half p B (h + 1) j :=
  ⟨by omega, H.len, fun t x ht hx => mono t h x z (by omega) hx hz hp, H.hi⟩
theorem Half.no {p : Ent → Bool} {B : List Ent} {i j h : Nat} {z : Ent} (H : Half p B i j) (hij : h < j) (hih : i ≤ h) (hz : B[h]? = some z) (hp : p z = false) (mono : ∀ (t u : Nat) (x y : Ent), t ≤ u → B[t]? = some x → B[u]? = some y → p y = true → p x = true) : Half p B i h :=
  ⟨hih, by have := H.len; omega, H.lo, fun t x ht hx => by
    cases hpx : p x with
    | false => rfl
    | true => rw [mono h t z x ht hz hx hpx] at hp; cases hp⟩
theorem Half.end {p : Ent → Bool} {B : List Ent} {i : Nat} (H : Half p B i i) : (∀ z ∈ B.take i, p z = true) ∧ ∀ z ∈ B.drop i, p z = false := by
  refine ⟨fun z hz => ?_, fun z hz => ?_⟩
  · obtain ⟨t, ht⟩ := List.mem_iff_getElem?.1 hz
    have hlt : t < i := by have := (List.getElem?_eq_some_iff.1 ht).1; rw [List.length_take] at this; omega
    rw [List.getElem?_take_of_lt hlt] at ht
    exact H.lo t z hlt ht
  · obtain ⟨t, ht⟩ := List.mem_iff_getElem?.1 hz
    rw [List.getElem?_drop] at ht
    exact H.hi _ z (by omega) ht
theorem srt_mono {B : List Ent} (hs : Srt ky lexB B) (x : Ent) : ∀ (t u : Nat) (y z : Ent), t ≤ u → B[t]? = some y → B[u]? = some z → lexB z.1 x.1 = true → lexB y.1 x.1 = true := fun t u y z htu hy hz hl => by
  by_cases e : t = u
  · subst e; rw [hy] at hz; cases hz; exact hl
  · have hu := (List.getElem?_eq_some_iff.1 hz)
    have ht := (List.getElem?_eq_some_iff.1 hy)
    obtain ⟨hu1, hu2⟩ := hu
    obtain ⟨ht1, ht2⟩ := ht
    have := List.pairwise_iff_getElem.1 hs t u ht1 hu1 (by omega)
    rw [ht2, hu2] at this
    exact lexOrd.le_lt this hl
theorem get_mid {L A R : List Ent} {t : Nat} {z : Ent} (h : A[t]? = some z) : (L ++ (A ++ R))[L.length + t]? = some z := by
  have hl := (List.getElem?_eq_some_iff.1 h).1
  rw [List.getElem?_append_right (by omega), show L.length + t - L.length = t by omega, List.getElem?_append_left hl]
  exact h

/-- x moves up through those that stand ahead of it. -/
def UpSt (L B1 B2 R : List Ent) (x : Ent) (k : Nat) (D : List Ent) : Prop := ∃ S T, B1 = S ++ T ∧ L.length + S.length = k ∧ D = L ++ (S ++ (x :: (T ++ (B2 ++ R))))
theorem UpSt.step {L B1 B2 R D : List Ent} {x : Ent} {k : Nat} (h : UpSt L B1 B2 R x k D) (hk : k < L.length + B1.length) : UpSt L B1 B2 R x (k + 1) (swap2 D k (k + 1)) ∧ (∃ y, D[k + 1]? = some y) ∧ D[k]? = some x := by
  obtain ⟨S, T, rfl, hl, rfl⟩ := h
  cases T with
  | nil => simp at hk; omega
  | cons y T =>
    have e1 : L ++ (S ++ (x :: ((y :: T) ++ (B2 ++ R)))) = (L ++ S) ++ x :: y :: (T ++ (B2 ++ R)) := by simp
    have hlen : (L ++ S).length = k := by simp [hl]
    refine ⟨⟨S ++ [y], T, by simp, by simp; omega, ?_⟩, ⟨y, ?_⟩, ?_⟩
    · have e := swap2_back (L ++ S) (T ++ (B2 ++ R)) x y
      rw [swap2_comm _ (by omega), hlen] at e
      rw [e1, e]
      simp
    · rw [e1, List.getElem?_append_right (by omega), hlen, show k + 1 - k = 1 by omega]
      rfl
    · rw [e1, List.getElem?_append_right (by omega), hlen, Nat.sub_self]
      rfl
set_option maxHeartbeats 4000000 in
set_option maxRecDepth 100000 in
theorem symA_any (w : World) (g o : Nat) (L B R : List Ent) (x : Ent) (N cap : Nat) (h : EOwn w g o (L ++ ([x] ++ (B ++ R)))) (hN : (L ++ ([x] ++ (B ++ R))).length = N) (hl : N ≤ 1000000) (hs : Srt ky lexB B) :
    Calls Tryz.prog 214 #[.slice (some ⟨g, o, none⟩) N cap, .int .i64 (L.length : Int), .int .i64 ((L.length + 1 : Nat) : Int), .int .i64 ((L.length + 1 + B.length : Nat) : Int), cmpV] w fun e w' => e = .returned (.tuple #[]) ∧ ∃ M, Mrg ky lexB [x] B M ∧ At w g o (L ++ (M ++ R)) w' := by
  have H0 := hid (At.start h)
  have hlen : L.length + 1 + B.length + R.length = N := by rw [← hN]; simp; omega
  have hxok : EOk x := h.1.ok x (by simp)
  have hBok : ∀ z ∈ B, EOk z := fun z hz => h.1.ok z (by simp [hz])
  have HX := hid hxok
  have HBOK := hid hBok
  have HMONO := hid (srt_mono hs x)
  have HSRT := hid hs
  have HDX : Hid ((L ++ ([x] ++ (B ++ R)))[L.length]? = some x) := by rw [Hid]; simp
  have HDB : Hid (∀ (t : Nat) (z : Ent), B[t]? = some z → (L ++ ([x] ++ (B ++ R)))[L.length + 1 + t]? = some z) := fun t z hz => by
    have := get_mid (L := L ++ [x]) (R := R) hz
    simpa [List.append_assoc] using this
  obtain ⟨D, hD⟩ : ∃ D, L ++ ([x] ++ (B ++ R)) = D := ⟨_, rfl⟩
  rw [hD] at H0 HDX HDB
  have HD := hid hD
  obtain ⟨a, ha⟩ : ∃ a, L.length = a := ⟨_, rfl⟩
  obtain ⟨m, hm⟩ : ∃ m, a + 1 = m := ⟨_, rfl⟩
  obtain ⟨b, hb⟩ : ∃ b, m + B.length = b := ⟨_, rfl⟩
  rw [ha, hm, hb]
  rw [ha] at HDX HDB
  rw [hm] at HDB
  have HLB := hid (And.intro ha (And.intro hm hb))
  have hbN : b + R.length = N := by omega
  have hab : a < m ∧ m ≤ b ∧ b ≤ N := by omega
  have hw1 : IntKind.i64.wrap ((m : Int) - (a : Int)) = 1 := by rw [IntKind.wrap_i64]; omega
  obtain ⟨hab1, hab2, hab3⟩ := hab
  clear ha hm hb h hN hD hxok hBok hs hlen hbN
  unfold cmpV
  go_enter Tryz.func214, Tryz.ntmps214
  go_wp2_with fail
  go_loopw [10, 11] (fun v10 v11 wr => ∃ (i j : Nat), v10 = .int .i64 (i : Int) ∧ v11 = .int .i64 (j : Int) ∧ m ≤ i ∧ i ≤ j ∧ j ≤ b ∧ Hid (Half (fun z => lexB z.1 x.1) B (i - m) (j - m) ∧ At w g o D wr)) (fun v10 v11 _ => (intOf v11).toNat - (intOf v10).toNat)
  case atStart =>
    have e : b - m = B.length := by have := HLB.out; omega
    refine ⟨m, b, rfl, rfl, Nat.le_refl _, hab2, Nat.le_refl _, ?_, H0.out⟩
    rw [Nat.sub_self, e]
    exact Half.begin _ _
  case round =>
    obtain ⟨i, j, rfl, rfl, hmi, hij, hjb, HS⟩ := hrel
    by_cases hlt : i < j
    · have hltI : (i : Int) < (j : Int) := by omega
      obtain ⟨h, hh⟩ : ∃ h, (i + j) / 2 = h := ⟨_, rfl⟩
      have hhI : ((i : Int) + (j : Int)) / 2 = (h : Int) := by omega
      have hih : i ≤ h ∧ h < j := by omega
      obtain ⟨hHf, hA⟩ := HS.out
      obtain ⟨y, hy⟩ : ∃ y, B[h - m]? = some y := ⟨_, List.getElem?_eq_getElem (by have := HLB.out; omega)⟩
      have hDy : D[h]? = some y := by have := HDB.out _ _ hy; rwa [show m + (h - m) = h by omega] at this
      have hyok := HBOK.out y (List.mem_of_getElem? hy)
      have HCMP := hid (fun V => compare_any y x V hyok HX.out)
      have HCV : Hid (cmpE y.1 x.1 < 0 ↔ lexB y.1 x.1 = true) := cmpE_neg y.1 x.1
      have Hx : Hid (∀ V, Kp No wr V → V.rangeAt g (o + h * 35) (entC y)) := fun V hV => ((hA.kept hV).range hDy).2
      have Hy : Hid (∀ V, Kp No wr V → V.rangeAt g (o + a * 35) (entC x)) := fun V hV => ((hA.kept hV).range HDX.out).2
      have HIx := hid (inf hyok)
      have HIy := hid (inf HX.out)
      have HYES : Hid (lexB y.1 x.1 = true → Half (fun z => lexB z.1 x.1) B (h + 1 - m) (j - m)) := fun e => by
        have := hHf.yes (h := h - m) (by omega) (by omega) hy e HMONO.out
        rwa [show h - m + 1 = h + 1 - m by omega] at this
      have HNO : Hid (lexB y.1 x.1 = false → Half (fun z => lexB z.1 x.1) B (i - m) (h - m)) := fun e => hHf.no (h := h - m) (by omega) (by omega) hy e HMONO.out
      have HAA := hid hA
      have hhN : (h : Int) < (N : Int) := by omega
      have haN : (a : Int) < (N : Int) := by omega
      have hwh : IntKind.i64.wrap ((h : Int) + 1) = ((h + 1 : Nat) : Int) := by rw [IntKind.wrap_i64]; omega
      obtain ⟨cx, hcx⟩ : ∃ cx, entC y = cx := ⟨_, rfl⟩
      obtain ⟨cy, hcy⟩ : ∃ cy, entC x = cy := ⟨_, rfl⟩
      rw [hcx, hcy] at HCMP
      rw [hcx] at Hx HIx
      rw [hcy] at Hy HIy
      obtain ⟨z, hzz⟩ : ∃ z, cmpE y.1 x.1 = z := ⟨_, rfl⟩
      rw [hzz] at HCMP HCV
      clear hcx hcy hzz hHf hA hy hDy hyok hh HS
      go_wp2_with fail
      by_cases hz : z < 0
      · have HH2 := hid (HYES.out (HCV.out.1 hz))
        clear HYES HNO HCV
        refine wp_region_held_drew (S := fun V => Kp No wr V) (by kernel_rfl) ((Kp.refl _ _).drew) (fun hHeld => ?_)
        refine wpAnyH_take (i := 0) (oi := ⟨some 40, .move (.tmp 4), 222, "zsortanyfunc.go:390", #[], none⟩) (v := .func (.func 133) #[] #[]) rfl (by kernel_rfl) (by kernel_rfl) (by kernel_rfl) (fun _ _ _ h => h) (Or.inl ⟨by rfl, fun w' hw' => by (clear hw'; go_simp)⟩) hHeld ?_
        simp only [Act.put, sjA, sjB, sjC]
        refine wpAnyH_take (i := 1) (oi := ⟨some 41, .move (.tmp 0), 81, "zsortanyfunc.go:390", #[], none⟩) (v := .slice (some ⟨g, o, none⟩) N cap) rfl (by kernel_rfl) (by kernel_rfl) (by kernel_rfl) (fun _ _ _ h => h) (Or.inl ⟨by rfl, fun w' hw' => by (clear hw'; go_simp)⟩) hHeld ?_
        simp only [Act.put, sjA, sjB, sjC]
        refine wpAnyH_take (i := 2) (oi := ⟨some 42, .move (.tmp 12), 3, "zsortanyfunc.go:390", #[], none⟩) (v := .int .i64 (h : Int)) rfl (by kernel_rfl) (by kernel_rfl) (by kernel_rfl) (fun _ _ _ h => h) (Or.inl ⟨by rfl, fun w' hw' => by (clear hw'; go_simp)⟩) hHeld ?_
        simp only [Act.put, sjA, sjB, sjC]
        refine wpAnyH_take (i := 3) (oi := ⟨some 43, .indexAddr 81 (.tmp 41) (.tmp 42), 0, "zsortanyfunc.go:390", #[⟨1, .data⟩, ⟨2, .data⟩], none⟩) (v := .pointer (some ⟨g, o + h * 35, none⟩)) rfl (by kernel_rfl) (by kernel_rfl) (by kernel_rfl) (fun _ _ _ h => h) (Or.inl ⟨by rfl, fun w' hw' => by (clear hw'; go_simp)⟩) hHeld ?_
        simp only [Act.put, sjA, sjB, sjC]
        refine wpAnyH_take (i := 4) (oi := ⟨some 44, .load 155 (.tmp 43), 155, "zsortanyfunc.go:390", #[⟨3, .data⟩], none⟩) (v := .agg cx.toArray) rfl (by kernel_rfl) (by kernel_rfl) (by kernel_rfl) (fun _ _ _ h => h) (yieldsIf_load_mid (by rfl) _ _ rfl g (o + h * 35) rfl cx _ (Hx.out) Tryz.underlying155 rfl HIx.out) hHeld ?_
        simp only [Act.put, sjA, sjB, sjC]
        refine wpAnyH_take (i := 5) (oi := ⟨some 45, .move (.tmp 0), 81, "zsortanyfunc.go:390", #[], none⟩) (v := .slice (some ⟨g, o, none⟩) N cap) rfl (by kernel_rfl) (by kernel_rfl) (by kernel_rfl) (fun _ _ _ h => h) (Or.inl ⟨by rfl, fun w' hw' => by (clear hw'; go_simp)⟩) hHeld ?_
        simp only [Act.put, sjA, sjB, sjC]
        refine wpAnyH_take (i := 6) (oi := ⟨some 46, .move (.tmp 1), 3, "zsortanyfunc.go:390", #[], none⟩) (v := .int .i64 (a : Int)) rfl (by kernel_rfl) (by kernel_rfl) (by kernel_rfl) (fun _ _ _ h => h) (Or.inl ⟨by rfl, fun w' hw' => by (clear hw'; go_simp)⟩) hHeld ?_
        simp only [Act.put, sjA, sjB, sjC]
        refine wpAnyH_take (i := 7) (oi := ⟨some 47, .indexAddr 81 (.tmp 45) (.tmp 46), 0, "zsortanyfunc.go:390", #[⟨5, .data⟩, ⟨6, .data⟩], none⟩) (v := .pointer (some ⟨g, o + a * 35, none⟩)) rfl (by kernel_rfl) (by kernel_rfl) (by kernel_rfl) (fun _ _ _ h => h) (Or.inl ⟨by rfl, fun w' hw' => by (clear hw'; go_simp)⟩) hHeld ?_
        simp only [Act.put, sjA, sjB, sjC]
        refine wpAnyH_take (i := 8) (oi := ⟨some 48, .load 155 (.tmp 47), 155, "zsortanyfunc.go:390", #[⟨7, .data⟩], none⟩) (v := .agg cy.toArray) rfl (by kernel_rfl) (by kernel_rfl) (by kernel_rfl) (fun _ _ _ h => h) (yieldsIf_load_mid (by rfl) _ _ rfl g (o + a * 35) rfl cy _ (Hy.out) Tryz.underlying155 rfl HIy.out) hHeld ?_
        simp only [Act.put, sjA, sjB, sjC]
        refine wpAnyH_ready (rs := [9]) (by kernel_rfl) (by simp) ?_
        refine AllReadyH.cons (o := ⟨some 49, .call { callee := Callee.value (.tmp 40), args := #[.tmp 44, .tmp 48], argTypes := #[155, 155] }, 3, "zsortanyfunc.go:390", #[⟨0, .data⟩, ⟨4, .data⟩, ⟨8, .data⟩], none⟩) rfl (fun K hK => ?_) AllReadyH.nil
        go_simp
        refine (HCMP.out _).mono ?_
        rintro e w3 ⟨rfl, h3⟩
        have HK3 : Hid (Kp No wr w3) := (Kp.refl No wr).drew.andNone (Kp.below h3)
        clear h3
        go_wp2_with fail
        refine hK.out _ _ (HK3.out) (fun hh => ?_)
        clear hK K hHeld
        have hHeld := hh
        clear hh
        try simp only [Act.put, sjA, sjB, sjC]
        refine wpAnyH_take (i := 10) (oi := ⟨some 50, .binOp BinOp.lss 3 (.tmp 49) (Operand.const (Value.int IntKind.i64 0)) 3, 4, "zsortanyfunc.go:390", #[⟨9, .data⟩], none⟩) (v := .bool true) rfl (by kernel_rfl) (by kernel_rfl) (by kernel_rfl) (fun _ _ _ h => h) (Or.inl ⟨by rfl, fun w' hw' => by (clear hw'; go_simp)⟩) hHeld ?_
        simp only [Act.put, sjA, sjB, sjC]
        refine wpAnyH_done (by kernel_rfl) ?_ _
        have HA3 := hid (HAA.out.kept HK3.out)
        clear hHeld HK3 HCMP Hx Hy HIx HIy HAA
        go_wp2_with fail
        go_round
        case rel => exact ⟨h + 1, j, by go_num, rfl, by omega, by omega, hjb, HH2.out, HA3.out⟩
        case measure => simp [intOf]; omega
      · have hls : lexB y.1 x.1 = false := by
          cases hb : lexB y.1 x.1 with
          | false => rfl
          | true => exact absurd (HCV.out.2 hb) hz
        have HH2 := hid (HNO.out hls)
        clear HYES HNO HCV hls
        refine wp_region_held_drew (S := fun V => Kp No wr V) (by kernel_rfl) ((Kp.refl _ _).drew) (fun hHeld => ?_)
        refine wpAnyH_take (i := 0) (oi := ⟨some 40, .move (.tmp 4), 222, "zsortanyfunc.go:390", #[], none⟩) (v := .func (.func 133) #[] #[]) rfl (by kernel_rfl) (by kernel_rfl) (by kernel_rfl) (fun _ _ _ h => h) (Or.inl ⟨by rfl, fun w' hw' => by (clear hw'; go_simp)⟩) hHeld ?_
        simp only [Act.put, sjA, sjB, sjC]
        refine wpAnyH_take (i := 1) (oi := ⟨some 41, .move (.tmp 0), 81, "zsortanyfunc.go:390", #[], none⟩) (v := .slice (some ⟨g, o, none⟩) N cap) rfl (by kernel_rfl) (by kernel_rfl) (by kernel_rfl) (fun _ _ _ h => h) (Or.inl ⟨by rfl, fun w' hw' => by (clear hw'; go_simp)⟩) hHeld ?_
        simp only [Act.put, sjA, sjB, sjC]
        refine wpAnyH_take (i := 2) (oi := ⟨some 42, .move (.tmp 12), 3, "zsortanyfunc.go:390", #[], none⟩) (v := .int .i64 (h : Int)) rfl (by kernel_rfl) (by kernel_rfl) (by kernel_rfl) (fun _ _ _ h => h) (Or.inl ⟨by rfl, fun w' hw' => by (clear hw'; go_simp)⟩) hHeld ?_
        simp only [Act.put, sjA, sjB, sjC]
        refine wpAnyH_take (i := 3) (oi := ⟨some 43, .indexAddr 81 (.tmp 41) (.tmp 42), 0, "zsortanyfunc.go:390", #[⟨1, .data⟩, ⟨2, .data⟩], none⟩) (v := .pointer (some ⟨g, o + h * 35, none⟩)) rfl (by kernel_rfl) (by kernel_rfl) (by kernel_rfl) (fun _ _ _ h => h) (Or.inl ⟨by rfl, fun w' hw' => by (clear hw'; go_simp)⟩) hHeld ?_
        simp only [Act.put, sjA, sjB, sjC]
        refine wpAnyH_take (i := 4) (oi := ⟨some 44, .load 155 (.tmp 43), 155, "zsortanyfunc.go:390", #[⟨3, .data⟩], none⟩) (v := .agg cx.toArray) rfl (by kernel_rfl) (by kernel_rfl) (by kernel_rfl) (fun _ _ _ h => h) (yieldsIf_load_mid (by rfl) _ _ rfl g (o + h * 35) rfl cx _ (Hx.out) Tryz.underlying155 rfl HIx.out) hHeld ?_
        simp only [Act.put, sjA, sjB, sjC]
        refine wpAnyH_take (i := 5) (oi := ⟨some 45, .move (.tmp 0), 81, "zsortanyfunc.go:390", #[], none⟩) (v := .slice (some ⟨g, o, none⟩) N cap) rfl (by kernel_rfl) (by kernel_rfl) (by kernel_rfl) (fun _ _ _ h => h) (Or.inl ⟨by rfl, fun w' hw' => by (clear hw'; go_simp)⟩) hHeld ?_
        simp only [Act.put, sjA, sjB, sjC]
        refine wpAnyH_take (i := 6) (oi := ⟨some 46, .move (.tmp 1), 3, "zsortanyfunc.go:390", #[], none⟩) (v := .int .i64 (a : Int)) rfl (by kernel_rfl) (by kernel_rfl) (by kernel_rfl) (fun _ _ _ h => h) (Or.inl ⟨by rfl, fun w' hw' => by (clear hw'; go_simp)⟩) hHeld ?_
        simp only [Act.put, sjA, sjB, sjC]
        refine wpAnyH_take (i := 7) (oi := ⟨some 47, .indexAddr 81 (.tmp 45) (.tmp 46), 0, "zsortanyfunc.go:390", #[⟨5, .data⟩, ⟨6, .data⟩], none⟩) (v := .pointer (some ⟨g, o + a * 35, none⟩)) rfl (by kernel_rfl) (by kernel_rfl) (by kernel_rfl) (fun _ _ _ h => h) (Or.inl ⟨by rfl, fun w' hw' => by (clear hw'; go_simp)⟩) hHeld ?_
        simp only [Act.put, sjA, sjB, sjC]
        refine wpAnyH_take (i := 8) (oi := ⟨some 48, .load 155 (.tmp 47), 155, "zsortanyfunc.go:390", #[⟨7, .data⟩], none⟩) (v := .agg cy.toArray) rfl (by kernel_rfl) (by kernel_rfl) (by kernel_rfl) (fun _ _ _ h => h) (yieldsIf_load_mid (by rfl) _ _ rfl g (o + a * 35) rfl cy _ (Hy.out) Tryz.underlying155 rfl HIy.out) hHeld ?_
        simp only [Act.put, sjA, sjB, sjC]
        refine wpAnyH_ready (rs := [9]) (by kernel_rfl) (by simp) ?_
        refine AllReadyH.cons (o := ⟨some 49, .call { callee := Callee.value (.tmp 40), args := #[.tmp 44, .tmp 48], argTypes := #[155, 155] }, 3, "zsortanyfunc.go:390", #[⟨0, .data⟩, ⟨4, .data⟩, ⟨8, .data⟩], none⟩) rfl (fun K hK => ?_) AllReadyH.nil
        go_simp
        refine (HCMP.out _).mono ?_
        rintro e w3 ⟨rfl, h3⟩
        have HK3 : Hid (Kp No wr w3) := (Kp.refl No wr).drew.andNone (Kp.below h3)
        clear h3
        go_wp2_with fail
        refine hK.out _ _ (HK3.out) (fun hh => ?_)
        clear hK K hHeld
        have hHeld := hh
        clear hh
        try simp only [Act.put, sjA, sjB, sjC]
        refine wpAnyH_take (i := 10) (oi := ⟨some 50, .binOp BinOp.lss 3 (.tmp 49) (Operand.const (Value.int IntKind.i64 0)) 3, 4, "zsortanyfunc.go:390", #[⟨9, .data⟩], none⟩) (v := .bool false) rfl (by kernel_rfl) (by kernel_rfl) (by kernel_rfl) (fun _ _ _ h => h) (Or.inl ⟨by rfl, fun w' hw' => by (clear hw'; go_simp)⟩) hHeld ?_
        simp only [Act.put, sjA, sjB, sjC]
        refine wpAnyH_done (by kernel_rfl) ?_ _
        have HA3 := hid (HAA.out.kept HK3.out)
        clear hHeld HK3 HCMP Hx Hy HIx HIy HAA
        go_wp2_with fail
        go_round
        case rel => exact ⟨i, h, rfl, rfl, hmi, by omega, by omega, HH2.out, HA3.out⟩
        case measure => simp [intOf]; omega
    · have hltI : ¬ (i : Int) < (j : Int) := by omega
      obtain ⟨hHf, hA⟩ := HS.out
      have hji : j = i := by omega
      rw [hji] at hHf
      obtain ⟨hlo, hhi⟩ := hHf.end
      have hMrg := Mrg.one_first (key := ky) lexOrd (x := x) hlo hhi (by rw [List.take_append_drop]; exact HSRT.out)
      rw [List.take_append_drop] at hMrg
      obtain ⟨i1, hi1⟩ : ∃ i1, i - 1 = i1 := ⟨_, rfl⟩
      have hwi : IntKind.i64.wrap ((i : Int) - 1) = (i1 : Int) := by rw [IntKind.wrap_i64]; omega
      have HU0 : Hid (UpSt L (B.take (i - m)) (B.drop (i - m)) R x a D) := ⟨[], B.take (i - m), rfl, by have := HLB.out; simp; omega, by rw [← HD.out, ← List.append_assoc (B.take (i - m)), List.take_append_drop]; simp⟩
      have HLE : Hid (L.length + (B.take (i - m)).length = i1) := by have := HLB.out; rw [Hid, List.length_take]; omega
      have HMG := hid hMrg
      have HAA := hid hA
      have hai : a ≤ i1 ∧ i1 < N := by omega
      obtain ⟨hai1, hai2⟩ := hai
      clear hHf hA hlo hhi hMrg hji hi1 HS
      go_wp2_with fail
      go_loopw [13] (fun v13 wr => ∃ k : Nat, v13 = .int .i64 (k : Int) ∧ a ≤ k ∧ k ≤ i1 ∧ Hid (∃ D, UpSt L (B.take (i - m)) (B.drop (i - m)) R x k D ∧ At w g o D wr)) (fun v13 _ => i1 - (intOf v13).toNat)
      case atStart => exact ⟨a, rfl, Nat.le_refl _, hai1, D, HU0.out, HAA.out⟩
      case round =>
        obtain ⟨k, rfl, hka, hki, HK⟩ := hrel
        by_cases hlk : k < i1
        · have hlkI : (k : Int) < (i1 : Int) := by omega
          obtain ⟨E, hU, hA⟩ := HK.out
          have hlE := HLE.out
          obtain ⟨hst, ⟨y, hy⟩, hx⟩ := hU.step (by omega)
          obtain ⟨k1, hk1⟩ : ∃ k1, k + 1 = k1 := ⟨_, rfl⟩
          rw [hk1] at hst hy
          have hwk : IntKind.i64.wrap ((k : Int) + 1) = (k1 : Int) := by rw [IntKind.wrap_i64]; omega
          have hkN : (k : Int) < (N : Int) := by omega
          have hk1N : (k1 : Int) < (N : Int) := by omega
          have HJM : Hid (a ≤ k1 ∧ k1 ≤ i1 ∧ k < k1) := by rw [Hid]; omega
          obtain ⟨hox, hoy, hrx, hry, ht1, ht2, hfin⟩ := swap2_at hA hx hy
          have HFIN := hid hfin
          have HST2 := hid hst
          have HT1 := hid ht1
          have HT2 := hid ht2
          have HIx := hid (inf hox)
          have HIy := hid (inf hoy)
          have HAx := hid (infA hox)
          have HAy := hid (infA hoy)
          have HOx := hid (all_oneCell_toArray (entC_one x))
          have HOy := hid (all_oneCell_toArray (entC_one y))
          have Hx := hid hrx
          have Hy := hid hry
          generalize entC x = cx at *
          generalize entC y = cy at *
          clear hst hy hx hk1 hox hoy hrx hry ht1 ht2 hfin hU hA hlE
          go_wp2_with fail
          refine wp_region_held_drew (S := fun _ => True) (by kernel_rfl) trivial (fun hHeld => ?_)
          refine wpAnyH_take (i := 0) (oi := ⟨some 61, .move (.tmp 0), 81, "zsortanyfunc.go:398", #[], none⟩) (v := .slice (some ⟨g, o, none⟩) N cap) rfl (by kernel_rfl) (by kernel_rfl) (by kernel_rfl) (fun _ _ _ h => h) (Or.inl ⟨by rfl, fun w' hw' => by (clear hw'; go_simp)⟩) hHeld ?_
          simp only [Act.put, sjA, sjB, sjC]
          refine wpAnyH_take (i := 1) (oi := ⟨some 62, .move (.tmp 13), 3, "zsortanyfunc.go:398", #[], none⟩) (v := .int .i64 (k : Int)) rfl (by kernel_rfl) (by kernel_rfl) (by kernel_rfl) (fun _ _ _ h => h) (Or.inl ⟨by rfl, fun w' hw' => by (clear hw'; go_simp)⟩) hHeld ?_
          simp only [Act.put, sjA, sjB, sjC]
          refine wpAnyH_take (i := 2) (oi := ⟨some 63, .move (.tmp 0), 81, "zsortanyfunc.go:398", #[⟨15, .gcOnly .lateStores⟩], none⟩) (v := .slice (some ⟨g, o, none⟩) N cap) rfl (by kernel_rfl) (by kernel_rfl) (by kernel_rfl) (fun _ _ _ h => h) (Or.inl ⟨by rfl, fun w' hw' => by (clear hw'; go_simp)⟩) hHeld ?_
          simp only [Act.put, sjA, sjB, sjC]
          refine wpAnyH_take (i := 3) (oi := ⟨some 64, .move (.tmp 13), 3, "zsortanyfunc.go:398", #[⟨15, .gcOnly .lateStores⟩], none⟩) (v := .int .i64 (k : Int)) rfl (by kernel_rfl) (by kernel_rfl) (by kernel_rfl) (fun _ _ _ h => h) (Or.inl ⟨by rfl, fun w' hw' => by (clear hw'; go_simp)⟩) hHeld ?_
          simp only [Act.put, sjA, sjB, sjC]
          refine wpAnyH_take (i := 4) (oi := ⟨some 65, .binOp BinOp.add 3 (.tmp 64) (Operand.const (Value.int IntKind.i64 1)) 3, 3, "zsortanyfunc.go:398", #[⟨3, .data⟩, ⟨15, .gcOnly .lateStores⟩], none⟩) (v := .int .i64 (k1 : Int)) rfl (by kernel_rfl) (by kernel_rfl) (by kernel_rfl) (fun _ _ _ h => h) (Or.inl ⟨by rfl, fun w' hw' => by (clear hw'; go_simp)⟩) hHeld ?_
          simp only [Act.put, sjA, sjB, sjC]
          refine wpAnyH_take (i := 5) (oi := ⟨some 66, .move (.tmp 0), 81, "zsortanyfunc.go:398", #[], none⟩) (v := .slice (some ⟨g, o, none⟩) N cap) rfl (by kernel_rfl) (by kernel_rfl) (by kernel_rfl) (fun _ _ _ h => h) (Or.inl ⟨by rfl, fun w' hw' => by (clear hw'; go_simp)⟩) hHeld ?_
          simp only [Act.put, sjA, sjB, sjC]
          refine wpAnyH_take (i := 6) (oi := ⟨some 67, .move (.tmp 13), 3, "zsortanyfunc.go:398", #[], none⟩) (v := .int .i64 (k : Int)) rfl (by kernel_rfl) (by kernel_rfl) (by kernel_rfl) (fun _ _ _ h => h) (Or.inl ⟨by rfl, fun w' hw' => by (clear hw'; go_simp)⟩) hHeld ?_
          simp only [Act.put, sjA, sjB, sjC]
          refine wpAnyH_take (i := 7) (oi := ⟨some 68, .binOp BinOp.add 3 (.tmp 67) (Operand.const (Value.int IntKind.i64 1)) 3, 3, "zsortanyfunc.go:398", #[⟨6, .data⟩], none⟩) (v := .int .i64 (k1 : Int)) rfl (by kernel_rfl) (by kernel_rfl) (by kernel_rfl) (fun _ _ _ h => h) (Or.inl ⟨by rfl, fun w' hw' => by (clear hw'; go_simp)⟩) hHeld ?_
          simp only [Act.put, sjA, sjB, sjC]
          refine wpAnyH_take (i := 8) (oi := ⟨some 69, .indexAddr 81 (.tmp 66) (.tmp 68), 0, "zsortanyfunc.go:398", #[⟨5, .data⟩, ⟨7, .data⟩], none⟩) (v := .pointer (some ⟨g, o + k1 * 35, none⟩)) rfl (by kernel_rfl) (by kernel_rfl) (by kernel_rfl) (fun _ _ _ h => h) (Or.inl ⟨by rfl, fun w' hw' => by (clear hw'; go_simp)⟩) hHeld ?_
          simp only [Act.put, sjA, sjB, sjC]
          refine wpAnyH_take (i := 10) (oi := ⟨some 71, .move (.tmp 0), 81, "zsortanyfunc.go:398", #[], none⟩) (v := .slice (some ⟨g, o, none⟩) N cap) rfl (by kernel_rfl) (by kernel_rfl) (by kernel_rfl) (fun _ _ _ h => h) (Or.inl ⟨by rfl, fun w' hw' => by (clear hw'; go_simp)⟩) hHeld ?_
          simp only [Act.put, sjA, sjB, sjC]
          refine wpAnyH_take (i := 11) (oi := ⟨some 72, .move (.tmp 13), 3, "zsortanyfunc.go:398", #[], none⟩) (v := .int .i64 (k : Int)) rfl (by kernel_rfl) (by kernel_rfl) (by kernel_rfl) (fun _ _ _ h => h) (Or.inl ⟨by rfl, fun w' hw' => by (clear hw'; go_simp)⟩) hHeld ?_
          simp only [Act.put, sjA, sjB, sjC]
          refine wpAnyH_take (i := 12) (oi := ⟨some 73, .indexAddr 81 (.tmp 71) (.tmp 72), 0, "zsortanyfunc.go:398", #[⟨10, .data⟩, ⟨11, .data⟩], none⟩) (v := .pointer (some ⟨g, o + k * 35, none⟩)) rfl (by kernel_rfl) (by kernel_rfl) (by kernel_rfl) (fun _ _ _ h => h) (Or.inl ⟨by rfl, fun w' hw' => by (clear hw'; go_simp)⟩) hHeld ?_
          simp only [Act.put, sjA, sjB, sjC]
          refine wpAnyH_ready (rs := [9, 13]) (by kernel_rfl) (by simp) ?_
          refine AllReadyH.cons (o := ⟨some 70, .load 155 (.tmp 69), 155, "zsortanyfunc.go:398", #[⟨8, .data⟩], none⟩) rfl (fun K hK => ?_) (AllReadyH.cons (o := ⟨some 74, .load 155 (.tmp 73), 155, "zsortanyfunc.go:398", #[⟨12, .data⟩], none⟩) rfl (fun K hK => ?_) AllReadyH.nil)
          · rw [if_pos (by rfl)]
            refine wp_load_mid 155 _ (by rfl) g (o + k1 * 35) (by rfl) cy _ (Hy.out _ ((Kp.refl No _).drew)) Tryz.underlying155 rfl HIy.out ?_
            refine hK.out _ _ trivial (fun hh => ?_)
            clear hK K hHeld
            have hHeld := hh
            clear hh
            try simp only [Act.put, sjA, sjB, sjC]
            refine wpAnyH_ready (rs := [13]) (by kernel_rfl) (by simp) ?_
            refine AllReadyH.cons (o := ⟨some 74, .load 155 (.tmp 73), 155, "zsortanyfunc.go:398", #[⟨12, .data⟩], none⟩) rfl (fun K hK => ?_) AllReadyH.nil
            rw [if_pos (by rfl)]
            refine wp_load_mid 155 _ (by rfl) g (o + k * 35) (by rfl) cx _ (Hx.out _ ((Kp.refl No _).drew)) Tryz.underlying155 rfl HIx.out ?_
            refine hK.out _ _ trivial (fun hh => ?_)
            clear hK K hHeld
            have hHeld := hh
            clear hh
            try simp only [Act.put, sjA, sjB, sjC]
            refine wpAnyH_take (i := 14) (oi := ⟨some 75, .indexAddr 81 (.tmp 61) (.tmp 62), 0, "zsortanyfunc.go:398", #[⟨0, .data⟩, ⟨1, .data⟩, ⟨0, .phase⟩, ⟨1, .phase⟩, ⟨2, .textOnly .lateStores⟩, ⟨3, .textOnly .lateStores⟩, ⟨4, .textOnly .lateStores⟩, ⟨5, .phase⟩, ⟨6, .phase⟩, ⟨7, .phase⟩, ⟨8, .phase⟩, ⟨9, .phase⟩, ⟨10, .textOnly .lateStores⟩, ⟨11, .textOnly .lateStores⟩, ⟨12, .textOnly .lateStoresUnsure⟩, ⟨13, .phase⟩], none⟩) (v := .pointer (some ⟨g, o + k * 35, none⟩)) rfl (by kernel_rfl) (by kernel_rfl) (by kernel_rfl) (fun _ _ _ h => h) (Or.inl ⟨by rfl, fun w' hw' => by (clear hw'; go_simp)⟩) hHeld ?_
            simp only [Act.put, sjA, sjB, sjC]
            refine wpAnyH_ready (rs := [15]) (by kernel_rfl) (by simp) ?_
            refine AllReadyH.cons (o := ⟨none, .store 155 (.tmp 75) (.tmp 70), 0, "zsortanyfunc.go:398", #[⟨14, .data⟩, ⟨9, .data⟩, ⟨0, .phase⟩, ⟨1, .phase⟩, ⟨2, .textOnly .lateStores⟩, ⟨3, .textOnly .lateStores⟩, ⟨4, .textOnly .lateStores⟩, ⟨5, .phase⟩, ⟨6, .phase⟩, ⟨7, .phase⟩, ⟨8, .phase⟩, ⟨9, .phase⟩, ⟨10, .textOnly .lateStores⟩, ⟨11, .textOnly .lateStores⟩, ⟨12, .textOnly .lateStoresUnsure⟩, ⟨13, .phase⟩], none⟩) rfl (fun K hK => ?_) AllReadyH.nil
            rw [if_pos (by rfl)]
            refine wp_store_mid 155 _ _ (by rfl) g (o + k * 35) cy.toArray (by rfl) (by rfl) HT1.out HAy.out HOy.out ?_
            refine hK.out _ _ trivial (fun hh => ?_)
            clear hK K hHeld
            have hHeld := hh
            clear hh
            simp only [Act.put]
            refine wpAnyH_take (i := 16) (oi := ⟨some 76, .indexAddr 81 (.tmp 63) (.tmp 65), 0, "zsortanyfunc.go:398", #[⟨2, .data⟩, ⟨4, .data⟩, ⟨0, .phase⟩, ⟨1, .phase⟩, ⟨2, .phase⟩, ⟨3, .phase⟩, ⟨4, .phase⟩, ⟨5, .phase⟩, ⟨6, .phase⟩, ⟨7, .phase⟩, ⟨8, .phase⟩, ⟨9, .phase⟩, ⟨10, .phase⟩, ⟨11, .phase⟩, ⟨12, .phase⟩, ⟨13, .phase⟩, ⟨14, .phase⟩, ⟨15, .phase⟩], none⟩) (v := .pointer (some ⟨g, o + k1 * 35, none⟩)) rfl (by kernel_rfl) (by kernel_rfl) (by kernel_rfl) (fun _ _ _ h => h) (Or.inl ⟨by rfl, fun w' hw' => by (clear hw'; go_simp)⟩) hHeld ?_
            simp only [Act.put, sjA, sjB, sjC]
            refine wpAnyH_ready (rs := [17]) (by kernel_rfl) (by simp) ?_
            refine AllReadyH.cons (o := ⟨none, .store 155 (.tmp 76) (.tmp 74), 0, "zsortanyfunc.go:398", #[⟨16, .data⟩, ⟨13, .data⟩, ⟨15, .chain⟩, ⟨0, .phase⟩, ⟨1, .phase⟩, ⟨2, .phase⟩, ⟨3, .phase⟩, ⟨4, .phase⟩, ⟨5, .phase⟩, ⟨6, .phase⟩, ⟨7, .phase⟩, ⟨8, .phase⟩, ⟨9, .phase⟩, ⟨10, .phase⟩, ⟨11, .phase⟩, ⟨12, .phase⟩, ⟨13, .phase⟩, ⟨14, .phase⟩, ⟨15, .phase⟩], none⟩) rfl (fun K hK => ?_) AllReadyH.nil
            rw [if_pos (by rfl)]
            refine wp_store_mid 155 _ _ (by rfl) g (o + k1 * 35) cx.toArray (by rfl) (by rfl) HT2.out HAx.out HOx.out ?_
            refine hK.out _ _ trivial (fun hh => ?_)
            clear hK K hHeld
            have hHeld := hh
            clear hh
            simp only [Act.put]
            refine wpAnyH_done (by kernel_rfl) ?_ _
            go_wp2_with fail
            go_round
            case rel => exact ⟨k1, rfl, HJM.out.1, HJM.out.2.1, _, HST2.out, HFIN.out⟩
            case measure => simp [intOf]; have := HJM.out; omega
          · rw [if_pos (by rfl)]
            refine wp_load_mid 155 _ (by rfl) g (o + k * 35) (by rfl) cx _ (Hx.out _ ((Kp.refl No _).drew)) Tryz.underlying155 rfl HIx.out ?_
            refine hK.out _ _ trivial (fun hh => ?_)
            clear hK K hHeld
            have hHeld := hh
            clear hh
            try simp only [Act.put, sjA, sjB, sjC]
            refine wpAnyH_ready (rs := [9]) (by kernel_rfl) (by simp) ?_
            refine AllReadyH.cons (o := ⟨some 70, .load 155 (.tmp 69), 155, "zsortanyfunc.go:398", #[⟨8, .data⟩], none⟩) rfl (fun K hK => ?_) AllReadyH.nil
            rw [if_pos (by rfl)]
            refine wp_load_mid 155 _ (by rfl) g (o + k1 * 35) (by rfl) cy _ (Hy.out _ ((Kp.refl No _).drew)) Tryz.underlying155 rfl HIy.out ?_
            refine hK.out _ _ trivial (fun hh => ?_)
            clear hK K hHeld
            have hHeld := hh
            clear hh
            try simp only [Act.put, sjA, sjB, sjC]
            refine wpAnyH_take (i := 14) (oi := ⟨some 75, .indexAddr 81 (.tmp 61) (.tmp 62), 0, "zsortanyfunc.go:398", #[⟨0, .data⟩, ⟨1, .data⟩, ⟨0, .phase⟩, ⟨1, .phase⟩, ⟨2, .textOnly .lateStores⟩, ⟨3, .textOnly .lateStores⟩, ⟨4, .textOnly .lateStores⟩, ⟨5, .phase⟩, ⟨6, .phase⟩, ⟨7, .phase⟩, ⟨8, .phase⟩, ⟨9, .phase⟩, ⟨10, .textOnly .lateStores⟩, ⟨11, .textOnly .lateStores⟩, ⟨12, .textOnly .lateStoresUnsure⟩, ⟨13, .phase⟩], none⟩) (v := .pointer (some ⟨g, o + k * 35, none⟩)) rfl (by kernel_rfl) (by kernel_rfl) (by kernel_rfl) (fun _ _ _ h => h) (Or.inl ⟨by rfl, fun w' hw' => by (clear hw'; go_simp)⟩) hHeld ?_
            simp only [Act.put, sjA, sjB, sjC]
            refine wpAnyH_ready (rs := [15]) (by kernel_rfl) (by simp) ?_
            refine AllReadyH.cons (o := ⟨none, .store 155 (.tmp 75) (.tmp 70), 0, "zsortanyfunc.go:398", #[⟨14, .data⟩, ⟨9, .data⟩, ⟨0, .phase⟩, ⟨1, .phase⟩, ⟨2, .textOnly .lateStores⟩, ⟨3, .textOnly .lateStores⟩, ⟨4, .textOnly .lateStores⟩, ⟨5, .phase⟩, ⟨6, .phase⟩, ⟨7, .phase⟩, ⟨8, .phase⟩, ⟨9, .phase⟩, ⟨10, .textOnly .lateStores⟩, ⟨11, .textOnly .lateStores⟩, ⟨12, .textOnly .lateStoresUnsure⟩, ⟨13, .phase⟩], none⟩) rfl (fun K hK => ?_) AllReadyH.nil
            rw [if_pos (by rfl)]
            refine wp_store_mid 155 _ _ (by rfl) g (o + k * 35) cy.toArray (by rfl) (by rfl) HT1.out HAy.out HOy.out ?_
            refine hK.out _ _ trivial (fun hh => ?_)
            clear hK K hHeld
            have hHeld := hh
            clear hh
            simp only [Act.put]
            refine wpAnyH_take (i := 16) (oi := ⟨some 76, .indexAddr 81 (.tmp 63) (.tmp 65), 0, "zsortanyfunc.go:398", #[⟨2, .data⟩, ⟨4, .data⟩, ⟨0, .phase⟩, ⟨1, .phase⟩, ⟨2, .phase⟩, ⟨3, .phase⟩, ⟨4, .phase⟩, ⟨5, .phase⟩, ⟨6, .phase⟩, ⟨7, .phase⟩, ⟨8, .phase⟩, ⟨9, .phase⟩, ⟨10, .phase⟩, ⟨11, .phase⟩, ⟨12, .phase⟩, ⟨13, .phase⟩, ⟨14, .phase⟩, ⟨15, .phase⟩], none⟩) (v := .pointer (some ⟨g, o + k1 * 35, none⟩)) rfl (by kernel_rfl) (by kernel_rfl) (by kernel_rfl) (fun _ _ _ h => h) (Or.inl ⟨by rfl, fun w' hw' => by (clear hw'; go_simp)⟩) hHeld ?_
            simp only [Act.put, sjA, sjB, sjC]
            refine wpAnyH_ready (rs := [17]) (by kernel_rfl) (by simp) ?_
            refine AllReadyH.cons (o := ⟨none, .store 155 (.tmp 76) (.tmp 74), 0, "zsortanyfunc.go:398", #[⟨16, .data⟩, ⟨13, .data⟩, ⟨15, .chain⟩, ⟨0, .phase⟩, ⟨1, .phase⟩, ⟨2, .phase⟩, ⟨3, .phase⟩, ⟨4, .phase⟩, ⟨5, .phase⟩, ⟨6, .phase⟩, ⟨7, .phase⟩, ⟨8, .phase⟩, ⟨9, .phase⟩, ⟨10, .phase⟩, ⟨11, .phase⟩, ⟨12, .phase⟩, ⟨13, .phase⟩, ⟨14, .phase⟩, ⟨15, .phase⟩], none⟩) rfl (fun K hK => ?_) AllReadyH.nil
            rw [if_pos (by rfl)]
            refine wp_store_mid 155 _ _ (by rfl) g (o + k1 * 35) cx.toArray (by rfl) (by rfl) HT2.out HAx.out HOx.out ?_
            refine hK.out _ _ trivial (fun hh => ?_)
            clear hK K hHeld
            have hHeld := hh
            clear hh
            simp only [Act.put]
            refine wpAnyH_done (by kernel_rfl) ?_ _
            go_wp2_with fail
            go_round
            case rel => exact ⟨k1, rfl, HJM.out.1, HJM.out.2.1, _, HST2.out, HFIN.out⟩
            case measure => simp [intOf]; have := HJM.out; omega
        · have hlkI : ¬ (k : Int) < (i1 : Int) := by omega
          go_wp2_with fail
          first | (refine bodyPost_ret (results_none rfl _ _ _) rfl ?_) | (simp only [Exit.inBlock, Exit.then]; refine bodyPost_ret (results_none rfl _ _ _) rfl ?_)
          obtain ⟨E, hU, hA⟩ := HK.out
          have hlE := HLE.out
          obtain ⟨S, T, e1, e2, e3⟩ := hU
          have hT : T = [] := by
            have := congrArg List.length e1
            rw [List.length_append] at this
            exact List.length_eq_zero_iff.1 (by omega)
          subst hT
          rw [List.append_nil] at e1
          refine ⟨rfl, _, HMG.out, ?_⟩
          rw [e1]
          rw [e3] at hA
          simpa using hA
end Go.Proofs.YthmimipoooemjaaGreatDoor.Sg
end
