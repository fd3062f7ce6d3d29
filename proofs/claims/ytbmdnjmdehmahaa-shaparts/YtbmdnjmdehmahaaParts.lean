/-
  ShaParts, walked.
-/
import Derived.Test.YtbmdnjmdehmahaaSums
namespace Go.Proofs.Ytbmdnjmdehmahaa
open Go.RowKit

theorem OwnB.kept {w w' : World} {base : Nat} {v : Value} {xs : List Nat} {l : List Nat} (h : OwnB w base v xs) (k : Kp l w w') (hl : ∀ x ∈ l, x < base) : OwnB w' base v xs := by
  refine ⟨h.1, ?_⟩
  rcases h.2 with h0 | ⟨g, cap, cur, e, hg, hh, hr⟩
  · exact .inl h0
  · exact .inr ⟨g, cap, cur, e, hg, (k.block g (Array.getElem?_eq_some_iff.1 hh).1 (fun hm => by have := hl g hm; omega)).trans hh, hr⟩
theorem Eng.at {B b f : Nat} {n : Int} {w w' : World} (h : Eng w b f n) (k : Below B w w') (hb : b < B) : Eng w' b f n := by
  obtain ⟨h1, h2, h3, h4, h5, h6, h7⟩ := h
  have ho : ∀ j, w'.cell? ⟨b, j, none⟩ = w.cell? ⟨b, j, none⟩ := fun j => k.cell (p := ⟨b, j, none⟩) hb
  exact ⟨Nat.lt_of_lt_of_le h1 k.size, (ho _).trans h2, (ho _).trans h3, (ho _).trans h4, fun j h1 h2 => by rw [ho j]; exact h5 j h1 h2, fun e => ⟨(h6 e).1.of_below k hb, (h6 e).2.of_below k hb⟩, fun j => (k.frozen (p := ⟨b, j, none⟩) hb).trans (h7 j)⟩
theorem StrOf.at {B g b : Nat} {p : List Nat} {w w' : World} (h : StrOf w g b p) (k : Below B w w') (hb : g < B) : StrOf w' g b p := by
  obtain ⟨rest, ⟨h1, h2, h3, h4, h5, h6, h7⟩, hr⟩ := h
  have ho : ∀ j, w'.cell? ⟨g, j, none⟩ = w.cell? ⟨g, j, none⟩ := fun j => k.cell (p := ⟨g, j, none⟩) hb
  exact ⟨rest, ⟨Nat.lt_of_lt_of_le h1 k.size, (ho _).trans h2, h3.of_below k hb, fun i hi => (ho _).trans (h4 i hi), (ho _).trans h5, fun j => (k.frozen (p := ⟨g, j, none⟩) hb).trans (h6 j), h7⟩, hr⟩

/-- What lies in the law's memory: an engine, a stream of it, all that was written. -/
structure PM (w wr : World) (b g base : Nat) (v : Value) (p : List Nat) (n : Nat) : Prop where
  bel : Below w.heap.size w wr
  own : OwnB wr base v p
  str : StrOf wr g b p
  eng : ∃ f, (f = 0 ∨ f = 1) ∧ Eng wr b f (n : Int)
  big : base ≤ wr.heap.size
  p256 : ∀ x ∈ p, x < 256

/-- Bools that lie in a row. -/
def BoolsB (w : World) (a : Option Addr) (k : Nat) (Q : Nat → Bool) : Prop := ∀ r, r < k → ∃ b o, a = some ⟨b, o, none⟩ ∧ b < w.heap.size ∧ w.cell? ⟨b, o + r, none⟩ = some (.bool (Q r))

theorem own_nil (w : World) (base : Nat) : OwnB w base (.slice none 0 0) [] := ⟨rfl, .inl ⟨rfl, rfl⟩⟩

set_option maxHeartbeats 4000000 in
set_option maxRecDepth 100000 in
theorem parts_main (HC : Hid BlockSays) (w : World) (a : Option Addr) (cap k : Nat) (A : Nat → Option Addr) (L C : Nat → Nat) (B : Nat → List Nat) (aq : Option Addr) (kq capq : Nat) (Q : Nat → Bool) (hk : k ≤ 20) (hr : RowsB w a k A L C B) (hq : BoolsB w aq kq Q) :
    Calls Try.prog 4 #[.slice a k cap, .slice aq kq capq] w fun e w' => e = .returned (.bool true) ∧ Below w.heap.size w w' := by
  have HR := hid hr
  have HQ := hid hq
  have C7 : Hid (∀ W, Calls Try.prog 7 #[] W fun e w' => e = .returned (.bool true) ∧ Hid (Below W.heap.size W w')) := alive_any
  clear hr hq
  go_enter Try.func4, Try.ntmps4
  go_wp2_with fail
  refine (new_any _).mono ?_
  rintro e w1 ⟨rfl, hb, hs, ht⟩
  have H1 := hid (And.intro hb (And.intro hs ht))
  clear hb hs ht
  go_wp2_with fail
  refine (stream_any _ 0 0 w1 (.inl rfl) H1.out.2.2).mono ?_
  rintro e w2 ⟨g, rfl, hg1, hg2, hk2, he2, hs2⟩
  obtain ⟨b, hb⟩ : ∃ b, w.heap.size = b := ⟨_, rfl⟩
  obtain ⟨base, hbase⟩ : ∃ base, w2.heap.size = base := ⟨_, rfl⟩
  have hgb : b < g := by have := H1.out.2.1; omega
  have hgs : g < base := by omega
  have HBW : Hid (w.heap.size = b) := hb
  have HP2 : Hid (PM w w2 b g base (.slice none 0 0) [] 0) := by
    rw [hb] at he2 hs2
    exact ⟨below_kp H1.out.1 hk2 (by simp), own_nil _ _, hs2, ⟨1, .inr rfl, he2⟩, by omega, by simp⟩
  rw [hb]
  clear hb hbase hg1 hg2 hk2 he2 hs2 H1
  go_wp2_with fail
  go_loopw [7, 8, 9] (fun s7 s8 s9 wr => ∃ (i : Nat) (A7 : Option Addr) (l7 c7 n : Nat) (p : List Nat), s7 = .slice A7 l7 c7 ∧ s8 = .int .i64 (n : Int) ∧ s9 = .int .i64 i ∧ i ≤ k ∧ l7 ≤ 300 * i ∧ n ≤ 100 * i ∧ Hid (p.length = l7 ∧ PM w wr b g base (.slice A7 l7 c7) p n)) (fun _ _ s _ => k - (intOf s).toNat)
  case atStart => exact ⟨0, none, 0, 0, 0, [], rfl, rfl, rfl, by omega, by omega, by omega, rfl, HP2.out⟩
  case round =>
    clear HP2
    obtain ⟨i, A7, l7, c7, n, p, rfl, rfl, rfl, hi, hl7, hn, HI⟩ := hrel
    by_cases hlt : i < k
    · obtain ⟨bb, oo, rfl, hbb, hcell, hby, hBL⟩ := HR.out i hlt
      have c0 : wr.cell? ⟨bb, oo + i, none⟩ = some (.slice (A i) (L i) (C i)) := (HI.out.2.bel.cell (p := ⟨bb, oo + i, none⟩) hbb).trans hcell
      have HBY := hid hby
      have HBL := hid hBL
      have HCE := hid hcell
      have HBB := hid hbb
      have hl47 : L i ≤ 140737488355328 := by
        obtain ⟨_, _, _, _, _, _, h5, _⟩ := hby
        rw [← hBL]
        exact h5
      clear hcell hby hBL hbb
      have hltI : (i : Int) < (k : Int) := by omega
      have h0I : (0 : Int) ≤ (i : Int) := by omega
      by_cases h300 : 300 < L i
      · go_wp2_with fail
        refine (C7.out wr).mono ?_
        rintro e w3 ⟨rfl, hb3⟩
        go_wp2_with fail
        go_ret
        exact ⟨rfl, HI.out.2.bel.trans (hb3.out.mono HI.out.2.bel.size)⟩
      · go_upto_region 14 with (at_builtin; go_must (refine app_bytes _ (by rfl) _ _ (by rfl) base _ _ p (B i) (by rfl) (by rfl) HI.out.2.own (HBY.out.old HI.out.2.bel (by simp)) ?hl ?hb ?_); (case hl => (have h := HBL.out; have h2 := HI.out.1; omega)); (case hb => exact HI.out.2.big); intro v' w3 hown hbel)
        obtain ⟨A8, l8, c8, rfl⟩ := hown.form
        have hl8 : l8 = l7 + L i := by have h := hown.len; have h1 := HBL.out; have h2 := HI.out.1; simp at h; omega
        have HP8 : Hid ((p ++ B i).length = l8) := by rw [Hid]; exact hown.len.symm
        have HW3 : Hid (Below w.heap.size w w3 ∧ OwnB w3 base (.slice A8 l8 c8) (p ++ B i) ∧ StrOf w3 g b p ∧ (∃ f, (f = 0 ∨ f = 1) ∧ Eng w3 b f (n : Int)) ∧ base ≤ w3.heap.size ∧ ∀ x ∈ p ++ B i, x < 256) := by
          have h := HI.out.2
          have hbel' : Below w.heap.size wr w3 := hbel.mono (by have := HBW.out; omega)
          obtain ⟨f, hf, he⟩ := h.eng
          refine ⟨h.bel.trans hbel', hown, h.str.at hbel hgs, ⟨f, hf, he.at hbel (by omega)⟩, Nat.le_trans h.big hbel.size, fun x hx => ?_⟩
          rcases List.mem_append.1 hx with h1 | h1
          · exact h.p256 x h1
          · obtain ⟨_, _, _, _, _, _, _, h6, _⟩ := HBY.out
            exact h6 x h1
        have c3 : w3.cell? ⟨bb, oo + i, none⟩ = some (.slice (A i) (L i) (C i)) := (HW3.out.1.cell (p := ⟨bb, oo + i, none⟩) HBB.out).trans HCE.out
        have HPL := hid HI.out.1
        obtain ⟨m, hm⟩ : ∃ m, l8 / 64 - l7 / 64 = m := ⟨_, rfl⟩
        have hmI : (l8 : Int) / 64 - (l7 : Int) / 64 = (m : Int) := by omega
        have hm6 : m ≤ 6 := by omega
        have hl8b : l8 ≤ 300 * (i + 1) := by omega
        have HL8 := hid hl8
        have HMM := hid hm
        clear hown hbel HI c0 hl8 hm
        go_upto_region 15 with fail
        as_aux_lemma =>
          have HWR : Hid (Calls Try.prog 13 #[.pointer (some ⟨g, 0, none⟩), .slice (A i) (L i) (C i)] w3.drew fun e w' => e = .returned (.int .i64 (L i : Nat)) ∧ Hid (PM w w' b g base (.slice A8 l8 c8) (p ++ B i) (n + m))) := by
            obtain ⟨f, hf, he⟩ := HW3.out.2.2.2.1
            have hbd : Below w3.heap.size w3 w3.drew := (Below.refl _ _).drew
            have h := write_any g b f (n : Int) (.slice (A i) (L i) (C i)) p (B i) w3.drew hf (he.below hbd) (HW3.out.2.2.1.at hbd (by have := HW3.out.2.2.2.2.1; omega)) (by omega) (HBY.out.old HW3.out.1.drew (by simp; have := HBW.out; omega)) (by have := HPL.out; have := HBL.out; omega) (by omega) (by have := HBL.out; omega)
            rw [HBL.out] at h
            refine h.mono ?_
            rintro e w' ⟨he', hk', hs', f', hf', hE'⟩
            refine ⟨he', below_kp HW3.out.1.drew hk' (by simp; have := HBW.out; omega), (HW3.out.2.1.kept (Kp.below (l := []) hbd) (by simp)).kept hk' (by simp; omega), hs', ⟨f', hf', ?_⟩, Nat.le_trans HW3.out.2.2.2.2.1 hk'.size, HW3.out.2.2.2.2.2⟩
            rw [HP8.out, HPL.out, HMM.out] at hE'
            rw [Int.natCast_add]
            exact hE'
          clear HW3
          refine wp_region_held_drew (S := fun w' => w'.cell? ⟨bb, oo + i, none⟩ = some (.slice (A i) (L i) (C i))) (by kernel_rfl) c3 (fun hHeld => ?_)
          refine wpAnyH_take (i := 0) (oi := { dst := some 47, op := Op.move (Operand.tmp 6), type := 34, pos := "law.go:53", after := #[], guard := none }) (v := .pointer (some ⟨g, 0, none⟩)) rfl (by kernel_rfl) (by kernel_rfl) (by kernel_rfl) (fun _ _ _ h => h) (Or.inl ⟨by rfl, fun w' hw' => by (clear hw'; go_simp)⟩) hHeld ?_
          simp only [Act.put, List.setIfInBounds_toArray, List.set_cons_zero, List.set_cons_succ]
          refine wpAnyH_take (i := 1) (oi := { dst := some 48, op := Op.move (Operand.tmp 0), type := 22, pos := "law.go:53", after := #[], guard := none }) (v := .slice (some ⟨bb, oo, none⟩) k cap) rfl (by kernel_rfl) (by kernel_rfl) (by kernel_rfl) (fun _ _ _ h => h) (Or.inl ⟨by rfl, fun w' hw' => by (clear hw'; go_simp)⟩) hHeld ?_
          simp only [Act.put, List.setIfInBounds_toArray, List.set_cons_zero, List.set_cons_succ]
          refine wpAnyH_take (i := 2) (oi := { dst := some 49, op := Op.move (Operand.tmp 9), type := 3, pos := "law.go:53", after := #[], guard := none }) (v := .int .i64 (i : Int)) rfl (by kernel_rfl) (by kernel_rfl) (by kernel_rfl) (fun _ _ _ h => h) (Or.inl ⟨by rfl, fun w' hw' => by (clear hw'; go_simp)⟩) hHeld ?_
          simp only [Act.put, List.setIfInBounds_toArray, List.set_cons_zero, List.set_cons_succ]
          refine wpAnyH_take (i := 3) (oi := { dst := some 50, op := Op.indexAddr 22 (Operand.tmp 48) (Operand.tmp 49), type := 0, pos := "law.go:53", after := #[{ on := 1, ground := Ground.data }, { on := 2, ground := Ground.data }], guard := none }) (v := .pointer (some ⟨bb, oo + i, none⟩)) rfl (by kernel_rfl) (by kernel_rfl) (by kernel_rfl) (fun _ _ _ h => h) (Or.inl ⟨by rfl, fun w' hw' => by (clear hw'; go_simp)⟩) hHeld ?_
          simp only [Act.put, List.setIfInBounds_toArray, List.set_cons_zero, List.set_cons_succ]
          refine wpAnyH_take (i := 4) (oi := { dst := some 51, op := Op.load 28 (Operand.tmp 50), type := 28, pos := "law.go:53", after := #[{ on := 3, ground := Ground.data }], guard := none }) (v := .slice (A i) (L i) (C i)) rfl (by kernel_rfl) (by kernel_rfl) (by kernel_rfl) (fun _ _ _ h => h) (Or.inl ⟨by rfl, fun w' hw' => by (have c := hw'; dsimp only at c; go_simp)⟩) hHeld ?_
          simp only [Act.put, List.setIfInBounds_toArray, List.set_cons_zero, List.set_cons_succ]
          refine wpAnyH_take (i := 6) (oi := { dst := some 53, op := Op.move (Operand.tmp 0), type := 22, pos := "law.go:53", after := #[], guard := none }) (v := .slice (some ⟨bb, oo, none⟩) k cap) rfl (by kernel_rfl) (by kernel_rfl) (by kernel_rfl) (fun _ _ _ h => h) (Or.inl ⟨by rfl, fun w' hw' => by (clear hw'; go_simp)⟩) hHeld ?_
          simp only [Act.put, List.setIfInBounds_toArray, List.set_cons_zero, List.set_cons_succ]
          refine wpAnyH_take (i := 7) (oi := { dst := some 54, op := Op.move (Operand.tmp 9), type := 3, pos := "law.go:53", after := #[], guard := none }) (v := .int .i64 (i : Int)) rfl (by kernel_rfl) (by kernel_rfl) (by kernel_rfl) (fun _ _ _ h => h) (Or.inl ⟨by rfl, fun w' hw' => by (clear hw'; go_simp)⟩) hHeld ?_
          simp only [Act.put, List.setIfInBounds_toArray, List.set_cons_zero, List.set_cons_succ]
          refine wpAnyH_take (i := 8) (oi := { dst := some 55, op := Op.indexAddr 22 (Operand.tmp 53) (Operand.tmp 54), type := 0, pos := "law.go:53", after := #[{ on := 6, ground := Ground.data }, { on := 7, ground := Ground.data }], guard := none }) (v := .pointer (some ⟨bb, oo + i, none⟩)) rfl (by kernel_rfl) (by kernel_rfl) (by kernel_rfl) (fun _ _ _ h => h) (Or.inl ⟨by rfl, fun w' hw' => by (clear hw'; go_simp)⟩) hHeld ?_
          simp only [Act.put, List.setIfInBounds_toArray, List.set_cons_zero, List.set_cons_succ]
          refine wpAnyH_take (i := 9) (oi := { dst := some 56, op := Op.load 28 (Operand.tmp 55), type := 28, pos := "law.go:53", after := #[{ on := 8, ground := Ground.data }], guard := none }) (v := .slice (A i) (L i) (C i)) rfl (by kernel_rfl) (by kernel_rfl) (by kernel_rfl) (fun _ _ _ h => h) (Or.inl ⟨by rfl, fun w' hw' => by (have c := hw'; dsimp only at c; go_simp)⟩) hHeld ?_
          simp only [Act.put, List.setIfInBounds_toArray, List.set_cons_zero, List.set_cons_succ]
          refine wpAnyH_take (i := 10) (oi := { dst := some 57, op := Op.call { callee := Callee.builtin Builtin.len, args := #[Operand.tmp 56], argTypes := #[28] }, type := 3, pos := "law.go:53", after := #[{ on := 9, ground := Ground.data }], guard := none }) (v := .int .i64 (L i : Nat)) rfl (by kernel_rfl) (by kernel_rfl) (by kernel_rfl) (fun _ _ _ h => h) (Or.inl ⟨by rfl, fun w' hw' => by (clear hw'; go_simp)⟩) hHeld ?_
          simp only [Act.put, List.setIfInBounds_toArray, List.set_cons_zero, List.set_cons_succ]
          refine wpAnyH_ready (rs := [5]) (by kernel_rfl) (by simp) ?_
          refine AllReadyH.cons (o := { dst := some 52, op := Op.call { callee := Callee.value (Operand.func 13), args := #[Operand.tmp 47, Operand.tmp 51], argTypes := #[34, 28] }, type := 3, pos := "law.go:53", after := #[{ on := 0, ground := Ground.data }, { on := 4, ground := Ground.data }], guard := none }) rfl (fun K hK => ?_) AllReadyH.nil
          go_simp
          refine (HWR.out).mono ?_
          rintro e w5 ⟨rfl, HP5⟩
          go_wp2_with fail
          refine hK.out _ _ ((HP5.out.bel.cell (p := ⟨bb, oo + i, none⟩) HBB.out).trans HCE.out) (fun hh => ?_)
          clear hK K hHeld
          have hHeld := hh
          clear hh
          try simp only [Act.put, List.setIfInBounds_toArray, List.set_cons_zero, List.set_cons_succ]
          refine wpAnyH_take (i := 11) (oi := { dst := some 58, op := Op.binOp BinOp.neq 3 (Operand.tmp 52) (Operand.tmp 57) 3, type := 4, pos := "law.go:53", after := #[{ on := 5, ground := Ground.data }, { on := 10, ground := Ground.data }], guard := none }) (v := .bool false) rfl (by kernel_rfl) (by kernel_rfl) (by kernel_rfl) (fun _ _ _ h => h) (Or.inl ⟨by rfl, fun w' hw' => by (clear hw'; go_simp)⟩) hHeld ?_
          simp only [Act.put, List.setIfInBounds_toArray, List.set_cons_zero, List.set_cons_succ]
          refine wpAnyH_take (i := 12) (oi := { dst := some 59, op := Op.move (Operand.tmp 58), type := 4, pos := "law.go:53", after := #[{ on := 11, ground := Ground.data }, { on := 5, ground := Ground.chain }], guard := none }) (v := .bool false) rfl (by kernel_rfl) (by kernel_rfl) (by kernel_rfl) (fun _ _ _ h => h) (Or.inl ⟨by rfl, fun w' hw' => by (clear hw'; go_simp)⟩) hHeld ?_
          simp only [Act.put, List.setIfInBounds_toArray, List.set_cons_zero, List.set_cons_succ]
          refine wpAnyH_take (i := 13) (oi := { dst := some 60, op := Op.move (Operand.tmp 6), type := 34, pos := "law.go:53", after := #[{ on := 12, ground := Ground.guard }], guard := some (12, false) }) (v := .pointer (some ⟨g, 0, none⟩)) rfl (by kernel_rfl) (by kernel_rfl) (by kernel_rfl) (fun _ _ _ h => h) (Or.inl ⟨by rfl, fun w' hw' => by (clear hw'; go_simp)⟩) hHeld ?_
          simp only [Act.put, List.setIfInBounds_toArray, List.set_cons_zero, List.set_cons_succ]
          refine wpAnyH_take (i := 15) (oi := { dst := some 62, op := Op.move (Operand.tmp 7), type := 28, pos := "law.go:53", after := #[{ on := 12, ground := Ground.guard }], guard := some (12, false) }) (v := .slice A8 l8 c8) rfl (by kernel_rfl) (by kernel_rfl) (by kernel_rfl) (fun _ _ _ h => h) (Or.inl ⟨by rfl, fun w' hw' => by (clear hw'; go_simp)⟩) hHeld ?_
          simp only [Act.put, List.setIfInBounds_toArray, List.set_cons_zero, List.set_cons_succ]
          refine wpAnyH_take (i := 16) (oi := { dst := some 63, op := Op.call { callee := Callee.builtin Builtin.len, args := #[Operand.tmp 62], argTypes := #[28] }, type := 3, pos := "law.go:53", after := #[{ on := 15, ground := Ground.data }, { on := 12, ground := Ground.guard }], guard := some (12, false) }) (v := .int .i64 (l8 : Nat)) rfl (by kernel_rfl) (by kernel_rfl) (by kernel_rfl) (fun _ _ _ h => h) (Or.inl ⟨by rfl, fun w' hw' => by (clear hw'; go_simp)⟩) hHeld ?_
          simp only [Act.put, List.setIfInBounds_toArray, List.set_cons_zero, List.set_cons_succ]
          refine wpAnyH_ready (rs := [14]) (by kernel_rfl) (by simp) ?_
          refine AllReadyH.cons (o := { dst := some 61, op := Op.call { callee := Callee.value (Operand.func 14), args := #[Operand.tmp 60], argTypes := #[34] }, type := 3, pos := "law.go:53", after := #[{ on := 13, ground := Ground.data }, { on := 12, ground := Ground.chain }, { on := 12, ground := Ground.guard }], guard := some (12, false) }) rfl (fun K hK => ?_) AllReadyH.nil
          go_simp
          have hlen := len_any g b (p ++ B i) w5 HP5.out.str
          rw [HP8.out] at hlen
          refine hlen.mono ?_
          rintro e w6 ⟨rfl, hw6⟩
          subst w6
          go_wp2_with fail
          refine hK.out _ _ ((HP5.out.bel.cell (p := ⟨bb, oo + i, none⟩) HBB.out).trans HCE.out) (fun hh => ?_)
          clear hK K hHeld
          have hHeld := hh
          clear hh
          try simp only [Act.put, List.setIfInBounds_toArray, List.set_cons_zero, List.set_cons_succ]
          refine wpAnyH_take (i := 17) (oi := { dst := some 64, op := Op.binOp BinOp.neq 3 (Operand.tmp 61) (Operand.tmp 63) 3, type := 4, pos := "law.go:53", after := #[{ on := 14, ground := Ground.data }, { on := 16, ground := Ground.data }, { on := 12, ground := Ground.guard }], guard := some (12, false) }) (v := .bool false) rfl (by kernel_rfl) (by kernel_rfl) (by kernel_rfl) (fun _ _ _ h => h) (Or.inl ⟨by rfl, fun w' hw' => by (clear hw'; go_simp)⟩) hHeld ?_
          simp only [Act.put, List.setIfInBounds_toArray, List.set_cons_zero, List.set_cons_succ]
          refine wpAnyH_take (i := 18) (oi := { dst := some 65, op := Op.pick (Operand.tmp 59) (Operand.const (Value.bool true)) (Operand.tmp 64), type := 4, pos := "law.go:53", after := #[{ on := 12, ground := Ground.data }, { on := 17, ground := Ground.data }], guard := none }) (v := .bool false) rfl (by kernel_rfl) (by kernel_rfl) (by kernel_rfl) (fun _ _ _ h => h) (Or.inl ⟨by rfl, fun w' hw' => by (clear hw'; go_simp)⟩) hHeld ?_
          simp only [Act.put, List.setIfInBounds_toArray, List.set_cons_zero, List.set_cons_succ]
          refine wpAnyH_done (by kernel_rfl) ?_ _
          clear hHeld c3
          obtain ⟨P, hP⟩ : ∃ P, p ++ B i = P := ⟨_, rfl⟩
          rw [hP] at HP5 HP8
          clear hP HWR
          have HNN : Hid (PM w w5 b g base (.slice A8 l8 c8) P (n + m)) := HP5
          have hnm : (n : Int) + (m : Int) = ((n + m : Nat) : Int) := by omega
          obtain ⟨n5, hn5⟩ : ∃ n5, n + m = n5 := ⟨_, rfl⟩
          have hn5b : n5 ≤ 100 * i + 6 := by omega
          rw [hn5] at HNN hnm
          rw [hnm]
          clear hn5 hnm HP5 HPL HL8 HMM hmI hm6 HBY HBL HCE HBB hl47 h300
          by_cases hiq : i < kq
          · obtain ⟨bq, oq, rfl, hbq, hcq⟩ := HQ.out i hiq
            have c5 : w5.cell? ⟨bq, oq + i, none⟩ = some (.bool (Q i)) := (HNN.out.bel.cell (p := ⟨bq, oq + i, none⟩) hbq).trans hcq
            have hiqI : (i : Int) < (kq : Int) := by omega
            clear hcq
            cases hQi : Q i
            · rw [hQi] at c5
              go_wp2_with fail
              obtain ⟨fz, hfz, hez⟩ := HNN.out.eng
              refine (blocks_any b fz _ w5 hez).mono ?_
              rintro e wz ⟨rfl, hwz⟩
              subst wz
              clear hez hfz
              go_wp2_with fail
              exact ⟨⟨i + 1, A8, l8, c8, n5, P, rfl, by congr 1, rfl, by omega, by omega, by omega, HP8.out, HNN.out⟩, by simp [intOf]; omega⟩
            · rw [hQi] at c5
              go_wp2_with fail
              obtain ⟨f5, hf5, he5⟩ := HNN.out.eng
              refine (ssum_any g b f5 _ P w5 hf5 he5 HNN.out.str (by have := HP8.out; omega) (by omega) (by omega)).mono ?_
              rintro e w6 ⟨rfl, hk6, f6, hf6, he6⟩
              have HB6 : Hid (Below w.heap.size w w6) := below_kp HNN.out.bel hk6 (by simp; have := HBW.out; omega)
              have HO6 : Hid (OwnB w6 base (.slice A8 l8 c8) P) := HNN.out.own.kept hk6 (by simp; omega)
              have HS6 : Hid (StrOf w6 g b P) := HNN.out.str.kept hk6 (by simp; omega)
              have HG6 : Hid (base ≤ w6.heap.size) := Nat.le_trans HNN.out.big hk6.size
              have HE6 := hid he6
              clear hk6 he6 he5
              have hrs := rsum_walk HC A8 c8 P w6 (by rw [HP8.out]; exact HO6.out.bySl (l := []) (by simp) (by have := HP8.out; omega) HNN.out.p256) (by have := HP8.out; omega)
              rw [HP8.out] at hrs
              have HRS := hid hrs
              have HEQ : Hid (∀ w, (Op.equalIn 10000 30 (.agg (u8s (sha P)).toArray) (.agg (u8s (sha P)).toArray)).run Try.prog w = .ok true w) := eq30_same _ (sha_length _) (sha_lt _)
              obtain ⟨S, hS⟩ : ∃ S, u8s (sha P) = S := ⟨_, rfl⟩
              rw [hS] at HRS HEQ ⊢
              clear hS hrs
              go_wp2_with fail
              refine HRS.out.mono ?_
              rintro e w7 ⟨rfl, hb7⟩
              rw [HP8.out] at HE6
              obtain ⟨d, hd⟩ : ∃ d, nblk l8 - l8 / 64 = d := ⟨_, rfl⟩
              have hd2 : l8 / 64 ≤ nblk l8 ∧ d ≤ 2 := by rw [← hd]; unfold nblk; omega
              have hdI : ((nblk l8 : Nat) : Int) - (l8 : Int) / 64 = (d : Int) := by omega
              have hnb : nblk l8 ≤ 1000000 := by unfold nblk; omega
              rw [hd] at HE6
              have HP7 : Hid (PM w w7 b g base (.slice A8 l8 c8) P (n5 + d)) := ⟨HB6.out.trans (hb7.mono HB6.out.size), HO6.out.kept (Kp.below (l := []) hb7) (by simp), HS6.out.at hb7 (by have := HG6.out; omega), ⟨f6, hf6, (by have h := HE6.out.below hb7; rw [Int.natCast_add]; exact h)⟩, Nat.le_trans HG6.out hb7.size, HNN.out.p256⟩
              clear hb7 HB6 HO6 HS6 HG6 HE6 HNN HRS
              have hEQ := HEQ.out
              have hRB := fun W => rblocks_any l8 W (by omega)
              generalize nblk l8 = NB at *
              have HRB := hid hRB
              clear hd hRB
              go_wp2_with fail
              clear hEQ HEQ
              refine (HRB.out w7).mono ?_
              rintro e w8 ⟨rfl, hw8⟩
              subst w8
              clear HRB
              go_wp2_with fail
              have hnm : (n5 : Int) + (d : Int) = ((n5 + d : Nat) : Int) := by omega
              obtain ⟨n7, hn7⟩ : ∃ n7, n5 + d = n7 := ⟨_, rfl⟩
              have hn7b : n7 ≤ 100 * i + 8 := by omega
              rw [hn7] at HP7 hnm
              rw [hnm]
              clear hn7 hnm hdI hd2 hn5b
              obtain ⟨fz, hfz, hez⟩ := HP7.out.eng
              refine (blocks_any b fz _ w7 hez).mono ?_
              rintro e wz ⟨rfl, hwz⟩
              subst wz
              clear hez hfz
              go_wp2_with fail
              exact ⟨⟨i + 1, A8, l8, c8, n7, P, rfl, by congr 1, rfl, by omega, by omega, by omega, HP8.out, HP7.out⟩, by simp [intOf]; omega⟩
          · have hiqI : ¬ (i : Int) < (kq : Int) := by omega
            have hiqB : decide ((i : Int) < (kq : Int)) = false := by simpa using hiqI
            go_wp2_with fail
            obtain ⟨fz, hfz, hez⟩ := HNN.out.eng
            refine (blocks_any b fz _ w5 hez).mono ?_
            rintro e wz ⟨rfl, hwz⟩
            subst wz
            clear hez hfz
            go_wp2_with fail
            exact ⟨⟨i + 1, A8, l8, c8, n5, P, rfl, by congr 1, rfl, by omega, by omega, by omega, HP8.out, HNN.out⟩, by simp [intOf]; omega⟩
    · go_wp2_with fail
      refine (ssum_any g b _ _ p wr HI.out.2.eng.choose_spec.1 HI.out.2.eng.choose_spec.2 HI.out.2.str (by have := HI.out.1; omega) (by omega) (by omega)).mono ?_
      rintro e w3 ⟨rfl, hk3, _⟩
      have HB3 : Hid (Below w.heap.size w w3) := below_kp HI.out.2.bel hk3 (by simp; have := HBW.out; omega)
      have HV3 : Hid (BySl [] w3 (.slice A7 p.length c7) p) := by
        have h := (HI.out.2.own.kept hk3 (by simp; omega)).bySl (l := []) (by simp) (by have := HI.out.1; omega) HI.out.2.p256
        rw [← HI.out.1] at h
        exact h
      have hpl := HI.out.1
      have h256 : Hid (∀ x ∈ p, x < 256) := HI.out.2.p256
      clear hk3 HI
      have hrs := rsum_walk HC A7 c7 p w3 HV3.out (by omega)
      rw [hpl] at hrs
      have HRS := hid hrs
      have HEQ : Hid (∀ w, (Op.equalIn 10000 30 (.agg (u8s (sha p)).toArray) (.agg (u8s (sha p)).toArray)).run Try.prog w = .ok true w) := eq30_same _ (sha_length _) (sha_lt _)
      obtain ⟨S, hS⟩ : ∃ S, u8s (sha p) = S := ⟨_, rfl⟩
      rw [hS] at HRS HEQ ⊢
      clear hS hrs hpl
      go_wp2_with fail
      refine HRS.out.mono ?_
      rintro e w4 ⟨rfl, hb4⟩
      have HB4 : Hid (Below w.heap.size w w4) := HB3.out.trans (hb4.mono HB3.out.size)
      clear hb4 HB3
      have hEQ := HEQ.out
      go_wp2_with fail
      clear hEQ
      refine (C7.out w4).mono ?_
      rintro e w5 ⟨rfl, hb5⟩
      go_wp2_with fail
      go_ret
      exact ⟨rfl, HB4.out.trans (hb5.out.mono HB4.out.size)⟩
end Go.Proofs.Ytbmdnjmdehmahaa
