/-
  ShaSums, walked.
-/
import Derived.Test.YtbmdnjmdehmahaaMany
import Derived.Test.YtbmdnjmdehmahaaRSum
import Derived.Test.YtbmdnjmdehmahaaTexts
namespace Go.Proofs.Ytbmdnjmdehmahaa
open Go.RowKit

/-- What lies in the law's memory: what Many made, and a hash. -/
structure SM (w w' : World) (b g gh k : Nat) (B : Nat → List Nat) (R : List Value) : Prop where
  bel : Below w.heap.size w w'
  many : ∀ j, j < k → w'.rangeAt g (j * 32) (u8s (sha (B j)))
  h : w'.rangeAt gh 0 R
  gl : g < w'.heap.size
  hl : gh < w'.heap.size
theorem SM.kept {w w' w'' : World} {b g gh k : Nat} {B : Nat → List Nat} {R : List Value} (h : SM w w' b g gh k B R) (kp : Kp [b] w' w'') (hb : w.heap.size ≤ b) (h1 : g ≠ b) (h2 : gh ≠ b) : SM w w'' b g gh k B R :=
  ⟨below_kp h.bel kp (by simpa using hb), fun j hj x v hv => (kp.cell (p := ⟨g, j * 32 + x, none⟩) h.gl (by simpa using h1)).trans (h.many j hj x v hv), fun x v hv => (kp.cell (p := ⟨gh, 0 + x, none⟩) h.hl (by simpa using h2)).trans (h.h x v hv), Nat.lt_of_lt_of_le h.gl kp.size, Nat.lt_of_lt_of_le h.hl kp.size⟩

set_option maxHeartbeats 4000000 in
set_option maxRecDepth 100000 in
theorem sums_main (HC : Hid BlockSays) (w : World) (a : Option Addr) (cap k : Nat) (A : Nat → Option Addr) (L C : Nat → Nat) (B : Nat → List Nat) (hk : k ≤ 20) (hr : RowsB w a k A L C B) :
    Calls Try.prog 3 #[.slice a k cap] w fun e w' => e = .returned (.bool true) ∧ Below w.heap.size w w' := by
  have HR := hid hr
  have C7 : Hid (∀ W, Calls Try.prog 7 #[] W fun e w' => e = .returned (.bool true) ∧ Hid (Below W.heap.size W w')) := alive_any
  clear hr
  go_enter Try.func3, Try.ntmps3
  go_wp2_with fail
  refine (new_any _).mono ?_
  rintro e w1 ⟨rfl, hb, hs, ht⟩
  have H1 := hid (And.intro hb (And.intro hs ht))
  clear hb hs ht
  go_wp2_with fail
  refine (many_any w w1 w.heap.size 0 0 a cap k A L C B hk (.inl rfl) H1.out.2.2 (by omega) (by omega) H1.out.1 (Nat.le_refl _) HR.out).mono ?_
  rintro e w2 ⟨rfl, hs2, hd2⟩
  obtain ⟨g, hg⟩ : ∃ g, w1.heap.size = g := ⟨_, rfl⟩
  obtain ⟨b, hb⟩ : ∃ b, w.heap.size = b := ⟨_, rfl⟩
  have hgb : b < g := by have := H1.out.2.1; omega
  rw [hg] at hs2 hd2 ⊢
  rw [hb] at hd2 ⊢
  have HBW : Hid (w.heap.size = b) := hb
  have HB2 : Hid (Below w.heap.size w w2) := below_kp H1.out.1 hd2.2.2.1 (by simp; omega)
  have HM2 := hid hd2.1
  have HE2 := hid hd2.2.2.2
  have HG2 := hid hs2
  clear hg hb hs2 hd2 H1
  go_wp2_with fail
  go_loopw [5] (fun s wr => ∃ i : Nat, s = .int .i64 i ∧ i ≤ k ∧ Hid (Below w.heap.size w wr ∧ g < wr.heap.size ∧ (∀ j, j < k → wr.rangeAt g (j * 32) (u8s (sha (B j)))) ∧ ∃ f n, (f = 0 ∨ f = 1) ∧ Eng wr b f n ∧ 0 ≤ n ∧ n ≤ 0 + (k : Int) * 4398046511104 + (i : Int) * 1000)) (fun s _ => k - (intOf s).toNat)
  case atStart =>
    obtain ⟨f, n, h1, h2, h3, h4⟩ := HE2.out
    exact ⟨0, rfl, by omega, HB2.out, HG2.out, HM2.out, f, n, h1, h2, h3, by omega⟩
  case round =>
    clear HB2 HM2 HE2 HG2
    obtain ⟨i, rfl, hi, HI⟩ := hrel
    by_cases hlt : i < k
    · obtain ⟨bb, oo, rfl, hbb, hcell, hby, hBL⟩ := HR.out i hlt
      have c0 : wr.cell? ⟨bb, oo + i, none⟩ = some (.slice (A i) (L i) (C i)) := (HI.out.1.cell (p := ⟨bb, oo + i, none⟩) hbb).trans hcell
      have HBY := hid hby
      have HBL := hid hBL
      have HCE := hid hcell
      have HBB := hid hbb
      have hl47 : L i ≤ 140737488355328 := by
        obtain ⟨_, _, _, _, _, _, h5, _⟩ := hby
        rw [← hBL]
        exact h5
      clear hcell hby hBL hbb
      have hltI : (i : Int) < (k : Int) := by omega
      have h0I : (0 : Int) ≤ (i : Int) := by omega
      by_cases h1000 : 1000 < L i
      · go_wp2_with fail
        refine (C7.out wr).mono ?_
        rintro e w3 ⟨rfl, hb3⟩
        go_wp2_with fail
        go_ret
        exact ⟨rfl, HI.out.1.trans (hb3.out.mono HI.out.1.size)⟩
      · go_upto_region 12 with fail
        go_wp2_with fail
        have hrs := rsum_walk HC (A i) (C i) (B i) wr (by rw [HBL.out]; exact HBY.out.old HI.out.1 (by simp)) (by rw [HBL.out]; omega)
        rw [HBL.out] at hrs
        refine hrs.mono ?_
        clear hrs
        rintro e w3 ⟨rfl, hb3⟩
        have HSL : Hid ((u8s (sha (B i))).length = 32) := by rw [Hid, u8s_length, sha_hash, hashOf_length]
        have HS1 : Hid (∀ v ∈ u8s (sha (B i)), v.oneCell' = true) := u8s_one _
        have HEQ : Hid (∀ w, (Op.equalIn 10000 30 (.agg (u8s (sha (B i))).toArray) (.agg (u8s (sha (B i))).toArray)).run Try.prog w = .ok true w) := eq30_same _ (sha_length _) (sha_lt _)
        obtain ⟨S, hS⟩ : ∃ S, u8s (sha (B i)) = S := ⟨_, rfl⟩
        have HS : Hid (u8s (sha (B i)) = S) := hS
        rw [hS] at HSL HS1 HEQ ⊢
        clear hS
        have HI2 : Hid ((Try.prog.info? 30).map (·.size) = some S.toArray.size) := by rw [Hid, List.size_toArray, HSL.out]; exact Try.info30
        have HI3 : Hid ((Try.prog.info? 30).map (·.size) = some S.length) := by rw [Hid, HSL.out]; exact Try.info30
        have HZ : Hid (32 = S.toArray.size) := by rw [Hid, List.size_toArray, HSL.out]
        have H1c : Hid (S.toArray.all (·.oneCell') = true) := all_oneCell_toArray HS1.out
        go_upto_region 13 with (refine wpList_store_row (by rfl) 30 _ _ (by rfl) w3.heap.size S.toArray (by rfl) (by rfl) 30 ?old ?hg HI2.out ?hs H1c.out ?_; (case hg => exact heap_alloc_new _ _); (case hs => exact HZ.out); rw [World.setRow_alloc_new])
        obtain ⟨W4, hW4⟩ : ∃ W4, w3.alloc (.cells S.toArray 30) = W4 := ⟨_, rfl⟩
        obtain ⟨gh, hgh⟩ : ∃ gh, w3.heap.size = gh := ⟨_, rfl⟩
        have HB4 : Hid (Below wr.heap.size wr W4) := by rw [Hid, ← hW4]; exact hb3.trans (((Below.refl _ _).alloc (Nat.le_refl _) _).mono hb3.size)
        have hgg : g < gh := by have := HI.out.2.1; have := hb3.size; omega
        have HSM : Hid (SM w W4 b g gh k B S) := by
          refine ⟨HI.out.1.trans (HB4.out.mono HI.out.1.size), fun j hj x v hv => (HB4.out.cell (p := ⟨g, j * 32 + x, none⟩) HI.out.2.1).trans (HI.out.2.2.1 j hj x v hv), ?_, Nat.lt_of_lt_of_le HI.out.2.1 HB4.out.size, by rw [← hW4, ← hgh]; simp⟩
          rw [← hW4, ← hgh]
          exact (HRow.new w3 S).range
        obtain ⟨f, n, hf, he, hn0, hn1⟩ := HI.out.2.2.2
        have HE4 : Hid (Eng W4 b f n) := he.below (hb3.trans (by
          rw [← hW4]
          exact ((Below.refl _ _).alloc (Nat.le_refl _) _).mono hb3.size))
        rw [hW4, hgh]
        clear hW4 hgh hb3 HI he HI2 HZ H1c HS1 HSL c0
        as_aux_lemma =>
          have hcc : ∀ w', SM w w' b g gh k B S → w'.cell? ⟨bb, oo + i, none⟩ = some (.slice (A i) (L i) (C i)) := fun w' h => (h.bel.cell (p := ⟨bb, oo + i, none⟩) HBB.out).trans HCE.out
          have hmm : ∀ w', SM w w' b g gh k B S → w'.rangeAt g (i * 32) S := fun w' h => by rw [← HS.out]; exact h.many i hlt
          have hEQ := HEQ.out
          have u30 := Try.underlying30
          have iS := HI3.out
          have HSD : Hid (SM w W4.drew b g gh k B S) := ⟨HSM.out.bel.drew, HSM.out.many, HSM.out.h, HSM.out.gl, HSM.out.hl⟩
          have HED : Hid (Eng W4.drew b f n) := HE4.out.below (Below.refl _ _).drew
          have HBYD : Hid (BySl [b] W4.drew (.slice (A i) (L i) (C i)) (B i)) := HBY.out.old HSD.out.bel (by simp; have := HBW.out; omega)
          have HNB : Hid (nblk (B i).length ≤ 1000) := by rw [Hid, HBL.out]; unfold nblk; omega
          clear HSM HE4 HEQ HI3 HBY C7 HR HC
          refine wp_region_held_drew (S := fun w' => SM w w' b g gh k B S) (by kernel_rfl) HSD.out (fun hHeld => ?_)
          refine wpAnyH_take (i := 0) (oi := { dst := some 38, op := Op.move (Operand.tmp 3), type := 24, pos := "law.go:30", after := #[], guard := none }) (v := .pointer (some ⟨b, 0, none⟩)) rfl (by kernel_rfl) (by kernel_rfl) (by kernel_rfl) (fun _ _ _ h => h) (Or.inl ⟨by rfl, fun w' hw' => by (clear hw'; go_simp)⟩) hHeld ?_
          simp only [Act.put, List.setIfInBounds_toArray, List.set_cons_zero, List.set_cons_succ]
          refine wpAnyH_take (i := 1) (oi := { dst := some 39, op := Op.move (Operand.tmp 0), type := 22, pos := "law.go:30", after := #[], guard := none }) (v := .slice (some ⟨bb, oo, none⟩) k cap) rfl (by kernel_rfl) (by kernel_rfl) (by kernel_rfl) (fun _ _ _ h => h) (Or.inl ⟨by rfl, fun w' hw' => by (clear hw'; go_simp)⟩) hHeld ?_
          simp only [Act.put, List.setIfInBounds_toArray, List.set_cons_zero, List.set_cons_succ]
          refine wpAnyH_take (i := 2) (oi := { dst := some 40, op := Op.move (Operand.tmp 5), type := 3, pos := "law.go:30", after := #[], guard := none }) (v := .int .i64 (i : Int)) rfl (by kernel_rfl) (by kernel_rfl) (by kernel_rfl) (fun _ _ _ h => h) (Or.inl ⟨by rfl, fun w' hw' => by (clear hw'; go_simp)⟩) hHeld ?_
          simp only [Act.put, List.setIfInBounds_toArray, List.set_cons_zero, List.set_cons_succ]
          refine wpAnyH_take (i := 3) (oi := { dst := some 41, op := Op.indexAddr 22 (Operand.tmp 39) (Operand.tmp 40), type := 0, pos := "law.go:30", after := #[{ on := 1, ground := Ground.data }, { on := 2, ground := Ground.data }], guard := none }) (v := .pointer (some ⟨bb, oo + i, none⟩)) rfl (by kernel_rfl) (by kernel_rfl) (by kernel_rfl) (fun _ _ _ h => h) (Or.inl ⟨by rfl, fun w' hw' => by (clear hw'; go_simp)⟩) hHeld ?_
          simp only [Act.put, List.setIfInBounds_toArray, List.set_cons_zero, List.set_cons_succ]
          refine wpAnyH_take (i := 4) (oi := { dst := some 42, op := Op.load 28 (Operand.tmp 41), type := 28, pos := "law.go:30", after := #[{ on := 3, ground := Ground.data }], guard := none }) (v := .slice (A i) (L i) (C i)) rfl (by kernel_rfl) (by kernel_rfl) (by kernel_rfl) (fun _ _ _ h => h) (Or.inl ⟨by rfl, fun w' hw' => by (have c := hcc w' hw'; go_simp)⟩) hHeld ?_
          simp only [Act.put, List.setIfInBounds_toArray, List.set_cons_zero, List.set_cons_succ]
          refine wpAnyH_take (i := 6) (oi := { dst := some 44, op := Op.load 30 (Operand.tmp 6), type := 30, pos := "law.go:30", after := #[], guard := none }) (v := .agg S.toArray) rfl (by kernel_rfl) (by kernel_rfl) (by kernel_rfl) (fun _ _ _ h => h) (yieldsIf_load_mid (by rfl) _ _ rfl gh 0 rfl S _ (fun _ h => h.h) u30 rfl iS) hHeld ?_
          simp only [Act.put, List.setIfInBounds_toArray, List.set_cons_zero, List.set_cons_succ]
          refine wpAnyH_ready (rs := [5]) (by kernel_rfl) (by simp) ?_
          refine AllReadyH.cons (o := { dst := some 43, op := Op.call { callee := Callee.value (Operand.func 11), args := #[Operand.tmp 38, Operand.tmp 42], argTypes := #[24, 28] }, type := 30, pos := "law.go:30", after := #[{ on := 0, ground := Ground.data }, { on := 4, ground := Ground.data }], guard := none }) rfl (fun K hK => ?_) AllReadyH.nil
          go_simp
          refine (sum_any b f n _ (B i) _ hf HED.out HBYD.out hn0 (by omega)).mono ?_
          rintro e w5 ⟨rfl, hk5, f5, hf5, he5⟩
          have HK5 := hid hk5
          have HE5 := hid he5
          clear hk5 he5
          rw [HS.out]
          go_wp2_with fail
          refine hK.out _ _ (HSD.out.kept HK5.out (by have := HBW.out; omega) (by omega) (by omega)) (fun hh => ?_)
          clear hK K hHeld
          have hHeld := hh
          clear hh
          try simp only [Act.put, List.setIfInBounds_toArray, List.set_cons_zero, List.set_cons_succ]
          refine wpAnyH_take (i := 7) (oi := { dst := some 45, op := Op.binOp BinOp.neq 30 (Operand.tmp 43) (Operand.tmp 44) 30, type := 4, pos := "law.go:30", after := #[{ on := 5, ground := Ground.data }, { on := 6, ground := Ground.data }], guard := none }) (v := .bool false) rfl (by kernel_rfl) (by kernel_rfl) (by kernel_rfl) (fun _ _ _ h => h) (Or.inl ⟨by rfl, fun w' hw' => by (clear hw'; go_simp)⟩) hHeld ?_
          simp only [Act.put, List.setIfInBounds_toArray, List.set_cons_zero, List.set_cons_succ]
          refine wpAnyH_take (i := 8) (oi := { dst := some 46, op := Op.move (Operand.tmp 45), type := 4, pos := "law.go:30", after := #[{ on := 7, ground := Ground.data }, { on := 5, ground := Ground.chain }], guard := none }) (v := .bool false) rfl (by kernel_rfl) (by kernel_rfl) (by kernel_rfl) (fun _ _ _ h => h) (Or.inl ⟨by rfl, fun w' hw' => by (clear hw'; go_simp)⟩) hHeld ?_
          simp only [Act.put, List.setIfInBounds_toArray, List.set_cons_zero, List.set_cons_succ]
          refine wpAnyH_take (i := 9) (oi := { dst := some 47, op := Op.move (Operand.tmp 4), type := 26, pos := "law.go:30", after := #[{ on := 8, ground := Ground.guard }], guard := some (8, false) }) (v := .slice (some ⟨g, 0, none⟩) k k) rfl (by kernel_rfl) (by kernel_rfl) (by kernel_rfl) (fun _ _ _ h => h) (Or.inl ⟨by rfl, fun w' hw' => by (clear hw'; go_simp)⟩) hHeld ?_
          simp only [Act.put, List.setIfInBounds_toArray, List.set_cons_zero, List.set_cons_succ]
          refine wpAnyH_take (i := 10) (oi := { dst := some 48, op := Op.move (Operand.tmp 5), type := 3, pos := "law.go:30", after := #[{ on := 8, ground := Ground.guard }], guard := some (8, false) }) (v := .int .i64 (i : Int)) rfl (by kernel_rfl) (by kernel_rfl) (by kernel_rfl) (fun _ _ _ h => h) (Or.inl ⟨by rfl, fun w' hw' => by (clear hw'; go_simp)⟩) hHeld ?_
          simp only [Act.put, List.setIfInBounds_toArray, List.set_cons_zero, List.set_cons_succ]
          refine wpAnyH_take (i := 11) (oi := { dst := some 49, op := Op.indexAddr 26 (Operand.tmp 47) (Operand.tmp 48), type := 0, pos := "law.go:30", after := #[{ on := 9, ground := Ground.data }, { on := 10, ground := Ground.data }, { on := 8, ground := Ground.guard }], guard := some (8, false) }) (v := .pointer (some ⟨g, i * 32, none⟩)) rfl (by kernel_rfl) (by kernel_rfl) (by kernel_rfl) (fun _ _ _ h => h) (Or.inl ⟨by rfl, fun w' hw' => by (clear hw'; go_simp)⟩) hHeld ?_
          simp only [Act.put, List.setIfInBounds_toArray, List.set_cons_zero, List.set_cons_succ]
          refine wpAnyH_take (i := 12) (oi := { dst := some 50, op := Op.load 30 (Operand.tmp 49), type := 30, pos := "law.go:30", after := #[{ on := 11, ground := Ground.data }, { on := 8, ground := Ground.guard }], guard := some (8, false) }) (v := .agg S.toArray) rfl (by kernel_rfl) (by kernel_rfl) (by kernel_rfl) (fun _ _ _ h => h) (yieldsIf_load_mid (by rfl) _ _ rfl g (i * 32) rfl S _ (hmm) u30 rfl iS) hHeld ?_
          simp only [Act.put, List.setIfInBounds_toArray, List.set_cons_zero, List.set_cons_succ]
          refine wpAnyH_take (i := 13) (oi := { dst := some 51, op := Op.load 30 (Operand.tmp 6), type := 30, pos := "law.go:30", after := #[{ on := 8, ground := Ground.guard }], guard := some (8, false) }) (v := .agg S.toArray) rfl (by kernel_rfl) (by kernel_rfl) (by kernel_rfl) (fun _ _ _ h => h) (yieldsIf_load_mid (by rfl) _ _ rfl gh 0 rfl S _ (fun _ h => h.h) u30 rfl iS) hHeld ?_
          simp only [Act.put, List.setIfInBounds_toArray, List.set_cons_zero, List.set_cons_succ]
          refine wpAnyH_take (i := 14) (oi := { dst := some 52, op := Op.binOp BinOp.neq 30 (Operand.tmp 50) (Operand.tmp 51) 30, type := 4, pos := "law.go:30", after := #[{ on := 12, ground := Ground.data }, { on := 13, ground := Ground.data }, { on := 8, ground := Ground.guard }], guard := some (8, false) }) (v := .bool false) rfl (by kernel_rfl) (by kernel_rfl) (by kernel_rfl) (fun _ _ _ h => h) (Or.inl ⟨by rfl, fun w' hw' => by (clear hw'; go_simp)⟩) hHeld ?_
          simp only [Act.put, List.setIfInBounds_toArray, List.set_cons_zero, List.set_cons_succ]
          refine wpAnyH_take (i := 15) (oi := { dst := some 53, op := Op.pick (Operand.tmp 46) (Operand.const (Value.bool true)) (Operand.tmp 52), type := 4, pos := "law.go:30", after := #[{ on := 8, ground := Ground.data }, { on := 14, ground := Ground.data }], guard := none }) (v := .bool false) rfl (by kernel_rfl) (by kernel_rfl) (by kernel_rfl) (fun _ _ _ h => h) (Or.inl ⟨by rfl, fun w' hw' => by (clear hw'; go_simp)⟩) hHeld ?_
          simp only [Act.put, List.setIfInBounds_toArray, List.set_cons_zero, List.set_cons_succ]
          refine wpAnyH_done (by kernel_rfl) ?_ _
          clear hEQ hmm hcc HSD HED HBYD u30 iS
          go_wp2_with fail
          refine ⟨⟨i + 1, rfl, by omega, hHeld.bel, hHeld.gl, hHeld.many, f5, _, hf5, HE5.out, by omega, ?_⟩, by simp [intOf]; omega⟩
          have := HNB.out
          omega
    · go_wp2_with fail
      refine (C7.out wr).mono ?_
      rintro e w3 ⟨rfl, hb3⟩
      go_wp2_with fail
      go_ret
      exact ⟨rfl, HI.out.1.trans (hb3.out.mono HI.out.1.size)⟩
end Go.Proofs.Ytbmdnjmdehmahaa
