/- Of the proof: the texts NdPut, NdPuts, NdHashP, NdFileM, NdBody, NdFile, one behind the other. -/
import Derived.Test.YtenfahecnkdhaaaB6
import Derived.Test.YtenfahecnkdhaaaB7
import Derived.Laws.CopyOwn
section
/-
  What the program makes of files and entries: objects.
-/
namespace Go.Proofs.Ytenfahecnkdhaaa.Nd
open Go.RowKit
open Tlv (Tr Agree)
open Sim (hid Kp No)

/-- A value that an object has room for. -/
def objP (t : Tr 3) : Prop := Tlv.szT 3 t ≠ 0 ∧ (Tlv.formOf 3 t).length ≤ 5000
/-- What is answered of a value: the object, or BadArg. -/
def OAns (u w : World) (K : Int) (t : Tr 3) (e : Ending) : Prop :=
  (objP t ∧ ∃ a c, e = .returned (.tuple #[.agg #[.int .i64 K, .slice a (Tlv.formOf 3 t).length c], .int .i64 0]) ∧ Tlv.BySl u.heap.size w.heap.size w (.slice a (Tlv.formOf 3 t).length c) (Tlv.formOf 3 t)) ∨
  (¬ objP t ∧ e = .returned (.tuple #[.agg #[.int .i64 0, .slice none 0 0], .int .i64 1]))

theorem set2_read {w : World} {b : Nat} {u0 u1 x0 x1 : Value} (h0 : w.cell? ⟨b, 0, none⟩ = some x0) (h1 : w.cell? ⟨b, 1, none⟩ = some x1) :
    ((w.setCell ⟨b, 0, none⟩ u0).setCell ⟨b, 1, none⟩ u1).cell? ⟨b, 0, none⟩ = some u0 ∧ ((w.setCell ⟨b, 0, none⟩ u0).setCell ⟨b, 1, none⟩ u1).cell? ⟨b, 1, none⟩ = some u1 := by
  have e1 : (⟨b, 0, none⟩ : Addr) ≠ ⟨b, 1, none⟩ := by simp
  refine ⟨?_, ?_⟩
  · simp [go_sem, h0]
  · simp [go_sem, h1]
set_option maxHeartbeats 1000000 in
theorem fits_any (w : World) (x : Option Addr) (n c : Nat) :
    Calls Try.prog 64 #[.slice x n c] w fun e w' => e = .returned (.bool (decide ((n : Int) ≤ 5000))) ∧ w' = w := by
  go_enter Try.func64, Try.ntmps64
  go_wp2
  go_ret
  exact ⟨rfl, rfl⟩

set_option maxHeartbeats 2000000 in
theorem fright_any (w : World) (s : Int) (x : Option Addr) (n c : Nat) (hn : n ≤ 1000000) :
    Calls Try.prog 37 #[.agg #[.int .i64 s, .slice x n c]] w fun e w' => e = .returned (.bool (fileB s n)) ∧ Below w.heap.size w w' := by
  have HK : Hid (Below w.heap.size w (w.alloc (.cells #[.int .i64 s, .slice x n c] 35))) := (Below.refl _ w).alloc (Nat.le_refl _) _
  have fin : ∀ b, (b = true ↔ (0 ≤ s ∧ s ≤ 2000 ∧ (n : Int) ≤ s ∧ (s = 0 ∨ 0 < n))) → fileB s n = b := fun b h => by
    unfold fileB
    rw [Bool.eq_iff_iff, decide_eq_true_eq]
    exact h.symm
  have HF := hid fin
  clear fin
  by_cases h1 : s < 0
  · have e := HF.out false ⟨fun h => (by cases h), fun h => by omega⟩
    rw [e]
    have h1b : decide (s < 0) = true := by simpa using h1
    clear e
    go_enter Try.func37, Try.ntmps37
    go_wp2
    go_ret
    exact ⟨rfl, HK.out⟩
  · have h1b : decide (s < 0) = false := by simpa using h1
    by_cases h2 : s > 2000
    · have e := HF.out false ⟨fun h => (by cases h), fun h => by omega⟩
      rw [e]
      clear e
      go_enter Try.func37, Try.ntmps37
      go_wp2
      go_ret
      exact ⟨rfl, HK.out⟩
    · by_cases h0 : s = 0
      · subst h0
        by_cases h3 : (n : Int) ≤ 0
        · have e := HF.out true ⟨fun _ => ⟨by omega, by omega, h3, .inl rfl⟩, fun _ => rfl⟩
          rw [e]
          clear e
          go_enter Try.func37, Try.ntmps37
          go_wp2
          go_ret
          exact ⟨by simp [show n = 0 by omega], HK.out⟩
        · have e := HF.out false ⟨fun h => (by cases h), fun h => absurd h.2.2.1 h3⟩
          rw [e]
          clear e
          go_enter Try.func37, Try.ntmps37
          go_wp2
          go_ret
          exact ⟨by simp [show ¬ n = 0 by omega], HK.out⟩
      · have hm : min s 1 = 1 := by omega
        by_cases h3 : (1 : Int) ≤ (n : Int)
        · by_cases h4 : (n : Int) ≤ s
          · have e := HF.out true ⟨fun _ => ⟨by omega, by omega, h4, .inr (by omega)⟩, fun _ => rfl⟩
            rw [e]
            clear e
            go_enter Try.func37, Try.ntmps37
            go_wp2
            go_ret
            exact ⟨rfl, HK.out⟩
          · have e := HF.out false ⟨fun h => (by cases h), fun h => absurd h.2.2.1 h4⟩
            rw [e]
            clear e
            go_enter Try.func37, Try.ntmps37
            go_wp2
            go_ret
            exact ⟨rfl, HK.out⟩
        · have e := HF.out false ⟨fun h => (by cases h), fun h => by rcases h.2.2.2 with h | h; exact absurd h h0; omega⟩
          rw [e]
          clear e
          go_enter Try.func37, Try.ntmps37
          go_wp2
          go_ret
          exact ⟨rfl, HK.out⟩

set_option maxHeartbeats 2000000 in
set_option maxRecDepth 100000 in
/-- object, of any value that a closure makes. -/
theorem object_any (w : World) (K : Int) (f : FuncId) (u : Value) (t : Tr 3) (h3 : t.hd.1 = 3) (h0 : t.hd.2.1 = 0) (hent : ∀ args w, (callFunc f args).run Try.prog w = .ok (.enter f args) w)
    (hf : ∀ V, Below w.heap.size w V → Calls Try.prog f #[u] V fun e w' => ∃ a3 l3 p3 a4 l4 p4, e = .returned (.agg #[.int .i64 3, .int .u64 0, .slice a3 l3 p3, .slice a4 l4 p4]) ∧ Tlv.Rep V.heap.size w'.heap.size w' 3 t (.slice a3 l3 p3) (.slice a4 l4 p4) ∧ Below V.heap.size V w') :
    Calls Try.prog 38 #[.int .i64 K, .func (.func f) #[u] #[]] w fun e w' => OAns w w' K t e ∧ Below w.heap.size w w' := by
  have HF := hid hf
  have HPN := hid (fun (V : World) (sb sk : Value) (h : Tlv.Rep 0 V.heap.size V 3 t sb sk) (hz : Tlv.szT 3 t = 0) => Tlv.Put_no t sb sk V h hz)
  have HPY := hid (fun (V : World) (sb sk : Value) (h : Tlv.Rep 0 V.heap.size V 3 t sb sk) (hz : Tlv.szT 3 t ≠ 0) => Tlv.Put_yes t sb sk V h hz)
  rw [h3, h0] at HPN HPY
  have HZ : Hid (Tlv.szT 3 t = 0 ∨ Tlv.szT 3 t ≠ 0) := by rw [Hid]; omega
  clear hf h3 h0
  go_enter Try.func38, Try.ntmps38
  go_wp2_with fail
  refine (HF.out _ ((Below.refl _ _).alloc (Nat.le_refl _) _)).mono ?_
  rintro e w1 ⟨a3, l3, p3, a4, l4, p4, rfl, hr1, hb1⟩
  have HR1 := hid (hr1.agree (Agree.refl _ _ _) (Nat.zero_le _) (Nat.le_refl _))
  have HB1 : Hid (Below w.heap.size w w1) := ((Below.refl _ _).alloc (Nat.le_refl _) _).trans (hb1.mono (by simp))
  have hgw : w.heap.size < w1.heap.size := by have := hb1.size; simp at this; omega
  have HC1 : Hid (∀ V, Below w1.heap.size w1 V → V.cell? ⟨w.heap.size, 0, none⟩ = some (.int .i64 0) ∧ V.cell? ⟨w.heap.size, 1, none⟩ = some (.slice none 0 0) ∧ (∀ o, V.frozen? ⟨w.heap.size, o, none⟩ = false) ∧ w.heap.size < V.heap.size) := fun V hV => by
    have hs := hV.size
    refine ⟨?_, ?_, fun o => ?_, by omega⟩
    · rw [hV.cell (p := ⟨w.heap.size, 0, none⟩) hgw, hb1.cell (p := ⟨w.heap.size, 0, none⟩) (by simp)]; simp [go_sem]
    · rw [hV.cell (p := ⟨w.heap.size, 1, none⟩) hgw, hb1.cell (p := ⟨w.heap.size, 1, none⟩) (by simp)]; simp [go_sem]
    · rw [hV.frozen (p := ⟨w.heap.size, o, none⟩) hgw, hb1.frozen (p := ⟨w.heap.size, o, none⟩) (by simp)]; simp [go_sem]
  clear hr1 hb1
  rcases HZ.out with hz | hz
  · have HQ := HPN.out w1 _ _ HR1.out hz
    have HN : Hid (¬ objP t) := fun h => h.1 hz
    clear hz HPN HPY HF
    go_wp2_with fail
    refine HQ.mono ?_
    rintro e w2 ⟨rfl, hb2⟩
    have HB2 : Hid (Below w.heap.size w w2) := HB1.out.trans (hb2.mono HB1.out.size)
    obtain ⟨g0, g1, gf, hg2⟩ := HC1.out w2 hb2
    clear hb2 HQ
    go_wp2_with fail
    obtain ⟨q0, q1⟩ := set2_read (u0 := .int .i64 0) (u1 := .slice none 0 0) g0 g1
    refine bodyPost_ret (v := .tuple #[.agg #[.int .i64 0, .slice none 0 0], .int .i64 1]) (by simp [results, Try.results38, go_sem, q0, q1]) rfl ?_
    refine ⟨.inr ⟨HN.out, rfl⟩, ?_⟩
    exact (HB2.out.setCell (by simp) _).setCell (by simp) _
  · have HQ := HPY.out w1 _ _ HR1.out hz
    have HSZ := hid hz
    clear hz HPN HPY HF
    go_wp2_with fail
    refine HQ.mono ?_
    rintro e w2 ⟨v2, rfl, hv2, hb2⟩
    have HB2 : Hid (Below w.heap.size w w2) := HB1.out.trans (hb2.mono HB1.out.size)
    have HV2 := hid hv2
    obtain ⟨av, cv, rfl, _⟩ := hv2
    obtain ⟨g0, g1, gf, hg2⟩ := HC1.out w2 hb2
    have HG1 := hid hgw
    have HS1 := hid hb2.size
    clear hb2 HQ hgw
    obtain ⟨m, hm⟩ : ∃ m, (Tlv.formOf 3 t).length = m := ⟨_, rfl⟩
    have HM := hid hm
    have HFT := hid (fits_any w2 av m cv)
    rw [hm] at HV2
    have hoa : ∀ e w', ((m ≤ 5000 ∧ ∃ a c, e = .returned (.tuple #[.agg #[.int .i64 K, .slice a m c], .int .i64 0]) ∧ Tlv.BySl w.heap.size w'.heap.size w' (.slice a m c) (Tlv.formOf 3 t)) ∨ (¬ m ≤ 5000 ∧ e = .returned (.tuple #[.agg #[.int .i64 0, .slice none 0 0], .int .i64 1]))) → OAns w w' K t e := fun e w' h => by
      unfold OAns objP
      rw [HM.out]
      rcases h with ⟨h, h'⟩ | ⟨h, h'⟩
      · exact .inl ⟨⟨HSZ.out, h⟩, h'⟩
      · exact .inr ⟨fun h2 => h h2.2, h'⟩
    have HOA := hid hoa
    rw [hm]
    clear hm hoa
    by_cases hl : (m : Int) ≤ 5000
    · have hd : decide ((m : Int) ≤ 5000) = true := by simpa using hl
      rw [hd] at HFT
      go_wp2_with fail
      refine HFT.out.mono ?_
      rintro e w3 ⟨rfl, rfl⟩
      go_wp2_with fail
      obtain ⟨q0, q1⟩ := set2_read (u0 := .int .i64 K) (u1 := .slice av m cv) g0 g1
      refine bodyPost_ret (v := .tuple #[.agg #[.int .i64 K, .slice av m cv], .int .i64 0]) (by simp [results, Try.results38, go_sem, q0, q1]) rfl ?_
      refine ⟨HOA.out _ _ (.inl ⟨by omega, _, _, rfl, ?_⟩), ?_⟩
      · have h1 := HG1.out
        exact HV2.out.agree (((Agree.refl _ _ _).setCell (.inl (by simp; omega)) _).setCell (.inl (by simp; omega)) _) (by omega) (by simp)
      · exact (HB2.out.setCell (by simp) _).setCell (by simp) _
    · have hd : decide ((m : Int) ≤ 5000) = false := by simpa using hl
      rw [hd] at HFT
      go_wp2_with fail
      refine HFT.out.mono ?_
      rintro e w3 ⟨rfl, rfl⟩
      go_wp2_with fail
      obtain ⟨q0, q1⟩ := set2_read (u0 := .int .i64 0) (u1 := .slice none 0 0) g0 g1
      refine bodyPost_ret (v := .tuple #[.agg #[.int .i64 0, .slice none 0 0], .int .i64 1]) (by simp [results, Try.results38, go_sem, q0, q1]) rfl ?_
      refine ⟨HOA.out _ _ (.inr ⟨by omega, rfl⟩), ?_⟩
      exact (HB2.out.setCell (by simp) _).setCell (by simp) _
end Go.Proofs.Ytenfahecnkdhaaa.Nd
end

section
/-
  PutDir, PutFile and Chunk, of the program.
-/
namespace Go.Proofs.Ytenfahecnkdhaaa.Nd
open Go.RowKit
open Tlv (Tr Agree)
open Sim (hid Kp No)

theorem bel_of {w w' : World} (k : Kp No w w') : Below w.heap.size w w' := ⟨k.os, k.tape, k.output, k.size, fun j hj => k.block j hj (fun x => x)⟩
/-- What PutDir answers. -/
def DAns (u w : World) (d : List Ent) (e : Ending) : Prop := (RightP d ∧ OAns u w 3 (entsT d) e) ∨ (¬ RightP d ∧ e = .returned (.tuple #[.agg #[.int .i64 0, .slice none 0 0], .int .i64 1]))
/-- What PutFile answers. -/
def FiAns (u w : World) (s : Int) (d : List (List Int)) (e : Ending) : Prop := (fileB s d.length = true ∧ OAns u w 2 (fileT s d) e) ∨ (fileB s d.length = false ∧ e = .returned (.tuple #[.agg #[.int .i64 0, .slice none 0 0], .int .i64 1]))
/-- What Chunk answers. -/
def CAns (u w : World) (b : List Int) (e : Ending) : Prop :=
  ((1 ≤ b.length ∧ b.length ≤ 4096) ∧ ∃ a c, e = .returned (.tuple #[.agg #[.int .i64 1, .slice a b.length c], .int .i64 0]) ∧ Tlv.BySl u.heap.size w.heap.size w (.slice a b.length c) b) ∨
  (¬ (1 ≤ b.length ∧ b.length ≤ 4096) ∧ e = .returned (.tuple #[.agg #[.int .i64 0, .slice none 0 0], .int .i64 1]))

set_option maxHeartbeats 2000000 in
set_option maxRecDepth 100000 in
theorem putDir_any (w : World) (v : Value) (d : List Ent) (P : Nat → Prop) (hv : EV P w v d) (hl : d.length ≤ 1000000) (hsz : ∀ e ∈ d, e.1.length ≤ 1000000) :
    Calls Try.prog 12 #[v] w fun e w' => DAns w w' d e ∧ Below w.heap.size w w' := by
  have HV := hid hv
  have HK0 : Hid (Kp No w (w.alloc (.cells #[.int .i64 0, .slice none 0 0] 31))) := (Kp.refl No w).alloc _
  have HR := hid (right_any _ v d P (hv.kept HK0.out) hl hsz)
  have HVAL := hid (fun (V : World) (hV : Kp No w V) => value_any V v d P (hv.kept hV) hsz hl)
  obtain ⟨a, c, rfl, _⟩ := hv
  clear hl hsz
  go_enter Try.func12, Try.ntmps12
  go_wp2_with fail
  refine HR.out.mono ?_
  rintro e w1 ⟨⟨b, rfl, hb⟩, hk⟩
  have HK1 : Hid (Kp No w w1) := HK0.out.andNone hk
  have HB1 := hid (bel_of HK1.out)
  have hgw : w.heap.size < w1.heap.size := by have := hk.size; simp at this; omega
  have HC1 : Hid (∀ V, Below w1.heap.size w1 V → V.cell? ⟨w.heap.size, 0, none⟩ = some (.int .i64 0) ∧ V.cell? ⟨w.heap.size, 1, none⟩ = some (.slice none 0 0) ∧ (∀ o, V.frozen? ⟨w.heap.size, o, none⟩ = false) ∧ w.heap.size < V.heap.size) := fun V hV => by
    have hs := hV.size
    refine ⟨?_, ?_, fun o => ?_, by omega⟩
    · rw [hV.cell (p := ⟨w.heap.size, 0, none⟩) hgw, hk.cell (p := ⟨w.heap.size, 0, none⟩) (by simp) (fun x => x)]; simp [go_sem]
    · rw [hV.cell (p := ⟨w.heap.size, 1, none⟩) hgw, hk.cell (p := ⟨w.heap.size, 1, none⟩) (by simp) (fun x => x)]; simp [go_sem]
    · rw [hV.frozen (p := ⟨w.heap.size, o, none⟩) hgw, hk.frozen (p := ⟨w.heap.size, o, none⟩) (by simp) (fun x => x)]; simp [go_sem]
  have HRB := hid hb
  clear hk hb HR HK0
  cases b with
  | false =>
    obtain ⟨g0, g1, gf, hg2⟩ := HC1.out w1 (Below.refl _ _)
    have HN : Hid (¬ RightP d) := fun h => by have := HRB.out.2 h; simp at this
    go_wp2_with fail
    obtain ⟨q0, q1⟩ := set2_read (u0 := .int .i64 0) (u1 := .slice none 0 0) g0 g1
    refine bodyPost_ret (v := .tuple #[.agg #[.int .i64 0, .slice none 0 0], .int .i64 1]) (by simp [results, Try.results12, go_sem, q0, q1]) rfl ?_
    exact ⟨.inr ⟨HN.out, rfl⟩, (HB1.out.setCell (by simp) _).setCell (by simp) _⟩
  | true =>
    have HY : Hid (RightP d) := HRB.out.1 rfl
    have HO := hid (object_any w1 3 45 _ (entsT d) rfl rfl (enters_of Try.func45 (by kernel_rfl) rfl) (fun V hV => HVAL.out V (HK1.out.andNone (Kp.below hV))))
    go_wp2_with fail
    refine HO.out.mono ?_
    rintro e w2 ⟨ho, hb2⟩
    obtain ⟨g0, g1, gf, hg2⟩ := HC1.out w2 hb2
    have HB2 : Hid (Below w.heap.size w w2) := HB1.out.trans (hb2.mono HB1.out.size)
    have HSZ := hid HB1.out.size
    clear hb2 HO HVAL
    rcases ho with ⟨hp, a1, c1, rfl, hby⟩ | ⟨hn, rfl⟩
    · have HBY := hid hby
      clear hby
      go_wp2_with fail
      obtain ⟨q0, q1⟩ := set2_read (u0 := .int .i64 3) (u1 := .slice a1 (Tlv.formOf 3 (entsT d)).length c1) g0 g1
      refine bodyPost_ret (v := .tuple #[.agg #[.int .i64 3, .slice a1 (Tlv.formOf 3 (entsT d)).length c1], .int .i64 0]) (by simp [results, Try.results12, go_sem, q0, q1]) rfl ?_
      refine ⟨.inl ⟨HY.out, .inl ⟨hp, _, _, rfl, ?_⟩⟩, (HB2.out.setCell (by simp) _).setCell (by simp) _⟩
      exact HBY.out.agree (((Agree.refl _ _ _).setCell (.inl (by simp; omega)) _).setCell (.inl (by simp; omega)) _) HSZ.out (by simp)
    · go_wp2_with fail
      obtain ⟨q0, q1⟩ := set2_read (u0 := .int .i64 0) (u1 := .slice none 0 0) g0 g1
      refine bodyPost_ret (v := .tuple #[.agg #[.int .i64 0, .slice none 0 0], .int .i64 1]) (by simp [results, Try.results12, go_sem, q0, q1]) rfl ?_
      exact ⟨.inl ⟨HY.out, .inr ⟨hn, rfl⟩⟩, (HB2.out.setCell (by simp) _).setCell (by simp) _⟩

set_option maxHeartbeats 2000000 in
set_option maxRecDepth 100000 in
theorem putFile_any (w : World) (s : Int) (v : Value) (d : List (List Int)) (hv : HV (· < w.heap.size) w v d) (hl : d.length ≤ 1000000) :
    Calls Try.prog 9 #[.agg #[.int .i64 s, v]] w fun e w' => FiAns w w' s d e ∧ Below w.heap.size w w' := by
  have HVV := hid hv
  obtain ⟨a, c, rfl, _⟩ := hv
  obtain ⟨W0, hW0⟩ : ∃ W0, (w.alloc (.cells #[.int .i64 s, .slice a d.length c] 35)).alloc (.cells #[.int .i64 0, .slice none 0 0] 31) = W0 := ⟨_, rfl⟩
  have HW0 := hid hW0
  have HB0 : Hid (Below w.heap.size w W0) := by rw [Hid, ← hW0]; exact ((Below.refl _ _).alloc (Nat.le_refl _) _).alloc (by simp) _
  have hz0 : W0.heap.size = w.heap.size + 2 := by rw [← hW0]; simp
  have HC0 : Hid (∀ V, Below W0.heap.size W0 V → V.cell? ⟨w.heap.size, 0, none⟩ = some (.int .i64 s) ∧ V.cell? ⟨w.heap.size, 1, none⟩ = some (.slice a d.length c) ∧ V.cell? ⟨w.heap.size + 1, 0, none⟩ = some (.int .i64 0) ∧ V.cell? ⟨w.heap.size + 1, 1, none⟩ = some (.slice none 0 0) ∧ (∀ o, V.frozen? ⟨w.heap.size + 1, o, none⟩ = false) ∧ w.heap.size + 1 < V.heap.size) := fun V hV => by
    have hs := hV.size
    refine ⟨?_, ?_, ?_, ?_, fun o => ?_, by omega⟩
    · rw [hV.cell (p := ⟨w.heap.size, 0, none⟩) (by simp; omega), ← hW0]; simp [go_sem]
    · rw [hV.cell (p := ⟨w.heap.size, 1, none⟩) (by simp; omega), ← hW0]; simp [go_sem]
    · rw [hV.cell (p := ⟨w.heap.size + 1, 0, none⟩) (by simp; omega), ← hW0]; simp [go_sem]
    · rw [hV.cell (p := ⟨w.heap.size + 1, 1, none⟩) (by simp; omega), ← hW0]; simp [go_sem]
    · rw [hV.frozen (p := ⟨w.heap.size + 1, o, none⟩) (by simp; omega), ← hW0]; simp [go_sem]
  obtain ⟨n, hn⟩ : ∃ n, d.length = n := ⟨_, rfl⟩
  have HN := hid hn
  have HR := hid (fright_any W0 s a n c (by omega))
  rw [hn] at HVV hl HC0 hW0 HW0 ⊢
  have hfi : ∀ e w', ((fileB s n = true ∧ OAns w w' 2 (fileT s d) e) ∨ (fileB s n = false ∧ e = .returned (.tuple #[.agg #[.int .i64 0, .slice none 0 0], .int .i64 1]))) → FiAns w w' s d e := fun e w' h => by
    unfold FiAns
    rw [HN.out]
    exact h
  have HFI := hid hfi
  clear hn hfi hW0
  go_enter Try.func9, Try.ntmps9
  go_wp2_with fail
  rw [HW0.out]
  refine HR.out.mono ?_
  rintro e w1 ⟨rfl, hb1⟩
  have HB1 : Hid (Below w.heap.size w w1) := HB0.out.trans (hb1.mono HB0.out.size)
  have HB01 := hid hb1
  obtain ⟨f0, f1, g0, g1, gf, hg2⟩ := HC0.out w1 hb1
  clear hb1 HR HW0
  obtain ⟨b, hb⟩ : ∃ b, fileB s n = b := ⟨_, rfl⟩
  have HBB := hid hb
  rw [hb]
  clear hb
  cases b with
  | false =>
    go_wp2_with fail
    obtain ⟨q0, q1⟩ := set2_read (u0 := .int .i64 0) (u1 := .slice none 0 0) g0 g1
    refine bodyPost_ret (v := .tuple #[.agg #[.int .i64 0, .slice none 0 0], .int .i64 1]) (by simp [results, Try.results9, go_sem, q0, q1]) rfl ?_
    exact ⟨HFI.out _ _ (.inr ⟨HBB.out, rfl⟩), (HB1.out.setCell (by simp) _).setCell (by simp) _⟩
  | true =>
    have hs0 : 0 ≤ s ∧ s ≤ 1000000 := by
      have := HBB.out
      simp only [fileB, decide_eq_true_eq] at this
      omega
    have hle := HB1.out.size
    have HO := hid (object_any w1 2 39 (.agg #[.int .i64 s, .slice a n c]) (fileT s d) rfl rfl (enters_of Try.func39 (by kernel_rfl) rfl) (fun V hV => fvalue_any V s _ d _ (HVV.out.kept (Kp.below (HB1.out.trans (hV.mono hle)))) (fun g hg => by have := hV.size; omega) hs0 (by rw [HN.out]; exact hl)))
    go_wp2_with fail
    refine HO.out.mono ?_
    rintro e w2 ⟨ho, hb2⟩
    clear f0 f1 g0 g1 gf hg2
    obtain ⟨f0, f1, g0, g1, gf, hg2⟩ := HC0.out w2 (HB01.out.trans (hb2.mono HB01.out.size))
    have HB2 : Hid (Below w.heap.size w w2) := HB1.out.trans (hb2.mono HB1.out.size)
    have HSZ := hid HB01.out.size
    clear hb2 HO
    rcases ho with ⟨hp, a1, c1, rfl, hby⟩ | ⟨hn, rfl⟩
    · have HBY := hid hby
      clear hby
      go_wp2_with fail
      obtain ⟨q0, q1⟩ := set2_read (u0 := .int .i64 2) (u1 := .slice a1 (Tlv.formOf 3 (fileT s d)).length c1) g0 g1
      refine bodyPost_ret (v := .tuple #[.agg #[.int .i64 2, .slice a1 (Tlv.formOf 3 (fileT s d)).length c1], .int .i64 0]) (by simp [results, Try.results9, go_sem, q0, q1]) rfl ?_
      refine ⟨HFI.out _ _ (.inl ⟨HBB.out, .inl ⟨hp, _, _, rfl, ?_⟩⟩), (HB2.out.setCell (by simp) _).setCell (by simp) _⟩
      have h1 := HSZ.out
      exact HBY.out.agree (((Agree.refl _ _ _).setCell (.inl (by simp; omega)) _).setCell (.inl (by simp; omega)) _) (by omega) (by simp)
    · go_wp2_with fail
      obtain ⟨q0, q1⟩ := set2_read (u0 := .int .i64 0) (u1 := .slice none 0 0) g0 g1
      refine bodyPost_ret (v := .tuple #[.agg #[.int .i64 0, .slice none 0 0], .int .i64 1]) (by simp [results, Try.results9, go_sem, q0, q1]) rfl ?_
      exact ⟨HFI.out _ _ (.inl ⟨HBB.out, .inr ⟨hn, rfl⟩⟩), (HB2.out.setCell (by simp) _).setCell (by simp) _⟩

set_option maxHeartbeats 1000000 in
theorem chunkRight_any (w : World) (x : Option Addr) (n c : Nat) :
    Calls Try.prog 46 #[.slice x n c] w fun e w' => e = .returned (.bool (decide (1 ≤ n ∧ n ≤ 4096))) ∧ w' = w := by
  by_cases h1 : (1 : Int) ≤ (n : Int)
  · by_cases h2 : (n : Int) ≤ 4096
    · have e : decide (1 ≤ n ∧ n ≤ 4096) = true := by simp; omega
      rw [e]
      clear e
      go_enter Try.func46, Try.ntmps46
      go_wp2
      go_ret
      exact ⟨rfl, rfl⟩
    · have e : decide (1 ≤ n ∧ n ≤ 4096) = false := by simp; omega
      rw [e]
      clear e
      go_enter Try.func46, Try.ntmps46
      go_wp2
      go_ret
      exact ⟨rfl, rfl⟩
  · have e : decide (1 ≤ n ∧ n ≤ 4096) = false := by simp; omega
    rw [e]
    clear e
    go_enter Try.func46, Try.ntmps46
    go_wp2
    go_ret
    exact ⟨rfl, rfl⟩

set_option maxHeartbeats 2000000 in
set_option maxRecDepth 100000 in
theorem chunk_any (w : World) (v : Value) (b : List Int) (hv : Tlv.BySl 0 w.heap.size w v b) :
    Calls Try.prog 15 #[v] w fun e w' => CAns w w' b e ∧ Below w.heap.size w w' := by
  have HV := hid hv
  obtain ⟨a, c, rfl, _⟩ := hv
  have HB0 : Hid (Below w.heap.size w (w.alloc (.cells #[.int .i64 0, .slice none 0 0] 31))) := (Below.refl _ w).alloc (Nat.le_refl _) _
  have HR := hid (chunkRight_any (w.alloc (.cells #[.int .i64 0, .slice none 0 0] 31)) a b.length c)
  obtain ⟨n, hn⟩ : ∃ n, b.length = n := ⟨_, rfl⟩
  have HN := hid hn
  rw [hn] at HV HR ⊢
  have hca : ∀ e w', (((1 ≤ n ∧ n ≤ 4096) ∧ ∃ a c, e = .returned (.tuple #[.agg #[.int .i64 1, .slice a n c], .int .i64 0]) ∧ Tlv.BySl w.heap.size w'.heap.size w' (.slice a n c) b) ∨ (¬ (1 ≤ n ∧ n ≤ 4096) ∧ e = .returned (.tuple #[.agg #[.int .i64 0, .slice none 0 0], .int .i64 1]))) → CAns w w' b e := fun e w' h => by
    unfold CAns
    rw [HN.out]
    exact h
  have HCA := hid hca
  clear hn hca
  by_cases h : 1 ≤ n ∧ n ≤ 4096
  · have hd : decide (1 ≤ n ∧ n ≤ 4096) = true := by simpa using h
    rw [hd] at HR
    have HH := hid h
    clear h hd
    have HCL := hid (Tlv.clone_bytes _ b _ (HV.out.agree (Agree.below HB0.out) (Nat.le_refl _) HB0.out.size))
    go_enter Try.func15, Try.ntmps15
    go_wp2_with fail
    refine HR.out.mono ?_
    rintro e w1 ⟨rfl, rfl⟩
    go_wp2_with fail
    refine HCL.out.mono ?_
    rintro e w2 ⟨v2, rfl, hv2, hb2⟩
    obtain ⟨a2, c2, rfl, _⟩ := id hv2
    rw [HN.out] at hv2 ⊢
    have HV2 := hid hv2
    have HB2 : Hid (Below w.heap.size w w2) := HB0.out.trans (hb2.mono HB0.out.size)
    have g0 : w2.cell? ⟨w.heap.size, 0, none⟩ = some (.int .i64 0) := by rw [hb2.cell (p := ⟨w.heap.size, 0, none⟩) (by simp)]; simp [go_sem]
    have g1 : w2.cell? ⟨w.heap.size, 1, none⟩ = some (.slice none 0 0) := by rw [hb2.cell (p := ⟨w.heap.size, 1, none⟩) (by simp)]; simp [go_sem]
    have gf : ∀ o, w2.frozen? ⟨w.heap.size, o, none⟩ = false := fun o => by rw [hb2.frozen (p := ⟨w.heap.size, o, none⟩) (by simp)]; simp [go_sem]
    have hg2 : w.heap.size < w2.heap.size := by have := hb2.size; simp at this; omega
    clear hb2 hv2 HCL HR
    go_wp2_with fail
    obtain ⟨q0, q1⟩ := set2_read (u0 := .int .i64 1) (u1 := .slice a2 n c2) g0 g1
    refine bodyPost_ret (v := .tuple #[.agg #[.int .i64 1, .slice a2 n c2], .int .i64 0]) (by simp [results, Try.results15, go_sem, q0, q1]) rfl ?_
    refine ⟨HCA.out _ _ (.inl ⟨HH.out, _, _, rfl, ?_⟩), (HB2.out.setCell (by simp) _).setCell (by simp) _⟩
    exact HV2.out.agree (((Agree.refl _ _ _).setCell (.inl (by simp)) _).setCell (.inl (by simp)) _) (by simp) (by simp)
  · have hd : decide (1 ≤ n ∧ n ≤ 4096) = false := by simpa using h
    rw [hd] at HR
    have HH := hid h
    clear h hd
    go_enter Try.func15, Try.ntmps15
    go_wp2_with fail
    refine HR.out.mono ?_
    rintro e w1 ⟨rfl, rfl⟩
    go_wp2_with fail
    refine bodyPost_ret (v := .tuple #[.agg #[.int .i64 0, .slice none 0 0], .int .i64 1]) (by simp [results, Try.results15, go_sem]) rfl ?_
    exact ⟨HCA.out _ _ (.inr ⟨HH.out, rfl⟩), HB0.out⟩
end Go.Proofs.Ytenfahecnkdhaaa.Nd
end

section
/-
  hash, of the program: the first bytes as a hash.
-/
namespace Go.Proofs.Ytenfahecnkdhaaa.Nd
open Go.RowKit
open Tlv (Tr Agree)
open Sim (hid Kp No)

/-- The first 32 bytes, noughts behind them where there are too few. -/
def h32 (bs : List Int) : List Int := bs.take 32 ++ List.replicate (32 - bs.length) 0
theorem h32_ok {bs : List Int} (h : ∀ x ∈ bs, 0 ≤ x ∧ x ≤ 255) : HOk (h32 bs) := by
  refine ⟨by simp [h32]; omega, fun x hx => ?_⟩
  rcases List.mem_append.1 hx with hx | hx
  · exact h x (List.mem_of_mem_take hx)
  · rw [List.eq_of_mem_replicate hx]
    omega
def zHash : List Value := List.replicate 32 (.int .u8 0)
theorem zHash_splice (bs : List Int) : splice zHash 0 (b8 (bs.take 32)) = b8 (h32 bs) := by
  unfold splice h32 zHash b8
  simp only [List.take_zero, List.nil_append, Nat.zero_add, List.length_map, List.length_take, List.drop_replicate, List.map_append, List.map_replicate]
  congr 2
  omega
theorem zHash_lit : zHash.toArray = #[.int .u8 0, .int .u8 0, .int .u8 0, .int .u8 0, .int .u8 0, .int .u8 0, .int .u8 0, .int .u8 0, .int .u8 0, .int .u8 0, .int .u8 0, .int .u8 0, .int .u8 0, .int .u8 0, .int .u8 0, .int .u8 0, .int .u8 0, .int .u8 0, .int .u8 0, .int .u8 0, .int .u8 0, .int .u8 0, .int .u8 0, .int .u8 0, .int .u8 0, .int .u8 0, .int .u8 0, .int .u8 0, .int .u8 0, .int .u8 0, .int .u8 0, .int .u8 0] := by rfl
theorem info1 : (Try.prog.info? 5).map (·.size) = some 1 := by kernel_rfl
theorem results_cell_one {P : Program} {fn : Func} {p : Tmp} {ty : TypeId} (h : fn.results = #[.cell p ty]) (tmps : Array Value) (w : World) (g o : Nat) (cs : List Value) (d : TypeDesc)
    (hp : tmps.getD p undef = .pointer (some ⟨g, o, none⟩)) (hc : w.rangeAt g o cs) (hu : P.underlying ty = some d) (hd : d.isRow = true) (hi : (P.info? ty).map (·.size) = some cs.length) :
    (results fn tmps).run P w = .ok (.agg cs.toArray) w := by
  have hp' : tmps[p]?.getD undef = .pointer (some ⟨g, o, none⟩) := by simpa using hp
  simp [results, h, hp', asAddr, run_loadVar_mid w g o ty cs d hc hu hd hi]
theorem row_range {w : World} {g : Nat} {C : List Value} {t : TypeId} (h : w.heap[g]? = some (.cells C.toArray t (0, 0))) : w.rangeAt g 0 C := fun j v hv => by
  rw [Nat.zero_add, cell_of_row w g j C.toArray t (0, 0) h]
  simpa using hv
theorem row_there {w : World} {g : Nat} {cs : Array Value} {t : TypeId} (h : w.heap[g]? = some (.cells cs t (0, 0))) (o n : Nat) (hn : o + n ≤ cs.size) : w.there g o n := fun j hj => by
  have hlt : o + j < cs.size := by omega
  rw [cell_of_row w g (o + j) cs t (0, 0) h, frozen_of_row w g _ cs t h]
  exact ⟨by simp [hlt], rfl⟩

theorem setCells_bel {B g : Nat} (h : B ≤ g) (w : World) (o : Nat) (cs : List Value) : Below B w (w.setCells g o cs) := by
  induction cs generalizing w o with
  | nil => exact Below.refl _ _
  | cons c cs ih => rw [World.setCells]; exact ((Below.refl B w).setCell (p := ⟨g, o, none⟩) h c).trans (ih _ _)

set_option maxHeartbeats 2000000 in
set_option maxRecDepth 100000 in
theorem hash_any (w : World) (v : Value) (bs : List Int) (hv : Tlv.BySl 0 w.heap.size w v bs) :
    Calls Try.prog 73 #[v] w fun e w' => e = .returned (.agg (b8 (h32 bs)).toArray) ∧ Below w.heap.size w w' := by
  obtain ⟨a, c, rfl, h2, h3, h4, h5, h6, h7⟩ := hv
  obtain ⟨n, hn⟩ : ∃ n, bs.length = n := ⟨_, rfl⟩
  rw [hn] at h2 h5 ⊢
  have HOK := hid (h32_ok h6)
  obtain ⟨W0, hW0⟩ : ∃ W0, w.alloc (.cells zHash.toArray 68) = W0 := ⟨_, rfl⟩
  have HW0 := hid hW0
  have HB0 : Hid (Below w.heap.size w W0) := by rw [Hid, ← hW0]; exact (Below.refl _ _).alloc (Nat.le_refl _) _
  have HG0 : Hid (W0.heap[w.heap.size]? = some (.cells zHash.toArray 68 (0, 0))) := by rw [Hid, ← hW0]; exact heap_alloc_new _ _
  obtain ⟨cs, hcs⟩ : ∃ cs, b8 (bs.take 32) = cs := ⟨_, rfl⟩
  have HSP : Hid (splice zHash 0 cs = b8 (h32 bs)) := by rw [← hcs]; exact zHash_splice bs
  have HCN : Hid (cs.length = Nat.min n 32) := by rw [Hid, ← hcs, b8_length, List.length_take, hn, Nat.min_comm]
  have HC1 : Hid (∀ v ∈ cs, v.oneCell' = true) := by rw [← hcs]; exact b8_one _
  have HPOS : Hid (0 < cs.length → ∃ ad, a = some ad ∧ ∀ j u, cs[j]? = some u → W0.cell? (ad.add j) = some u) := fun hc => by
    have hne : bs ≠ [] := fun e => by have := HCN.out; rw [e] at hn; simp at hn; rw [← hn] at this; simp at this; rw [this] at hc; simp at hc
    obtain ⟨b, o, rfl, _, hb, hcell⟩ := h7 hne
    refine ⟨_, rfl, fun j u hj => ?_⟩
    have hjl : j < cs.length := (List.getElem?_eq_some_iff.1 hj).1
    have hjn : j < bs.length := by have := HCN.out; rw [this] at hjl; exact Nat.lt_of_lt_of_le hjl (by rw [hn]; exact Nat.min_le_left _ _)
    have hj32 : j < 32 := by have := HCN.out; rw [this] at hjl; exact Nat.lt_of_lt_of_le hjl (Nat.min_le_right _ _)
    have e : (⟨b, o, none⟩ : Addr).add j = ⟨b, o + j, none⟩ := by unfold Addr.add; split <;> simp_all
    rw [e, HB0.out.cell (p := ⟨b, o + j, none⟩) hb, hcell j hjn]
    rw [← hcs] at hj
    simp only [b8, List.getElem?_map, List.getElem?_take, hj32, if_true, List.getElem?_eq_getElem hjn, Option.map_some, Option.some.injEq] at hj
    rw [← hj]
    simp [List.getElem?_eq_getElem hjn]
  have HIR : Hid ((Try.prog.info? 68).map (·.size) = some (b8 (h32 bs)).length) := by rw [Hid, b8_length, HOK.out.1]; exact infH
  have HRL : Hid ((b8 (h32 bs)).length = 32) := by rw [Hid, b8_length, HOK.out.1]
  have HR1 := hid (b8_one (h32 bs))
  obtain ⟨R, hR⟩ : ∃ R, b8 (h32 bs) = R := ⟨_, rfl⟩
  rw [hR] at HSP HIR HRL HR1 ⊢
  have HFIT : Hid (0 + cs.length ≤ zHash.length) := by rw [Hid, HCN.out, Nat.zero_add]; exact Nat.min_le_right _ _
  rw [zHash_lit] at hW0
  clear h2 h3 h4 h5 h6 h7 hn hcs hR
  go_enter Try.func73, Try.ntmps73
  go_wp2_with (first
    | (refine wpList_copy_splice (by rfl) _ _ 26 26 (by rfl) 5 Try.underlying26 info1 _ _ _ _ _ _ (by rfl) (by rfl) w.heap.size 0 zHash 68 HG0.out cs HCN.out (fun h => ⟨rfl, HPOS.out h⟩) HFIT.out HC1.out w.heap.size w HB0.out (Nat.le_refl _) ?_; intro w2 hg2 hb2; rw [HSP.out] at hg2)
    | (refine wpList_load_mid (by rfl) 68 _ (by rfl) w.heap.size 0 (by rfl) R _ (row_range hg2.out) Try.underlying68 rfl HIR.out ?_)
    | (refine wpList_store_mid (by rfl) 68 _ _ (by rfl) w.heap.size 0 R.toArray (by rfl) (by rfl) (row_there hg2.out 0 _ (by simp)) HIR.out (all_oneCell_toArray HR1.out) ?_))
  refine bodyPost_ret (results_cell_one rfl _ _ w.heap.size 0 R _ rfl (World.rangeAt_setCells_same _ _ _ _ (row_there hg2.out 0 _ (by simp))) Try.underlying68 rfl HIR.out) rfl ⟨rfl, ?_⟩
  exact hb2.trans (setCells_bel (Nat.le_refl _) _ _ _)
end Go.Proofs.Ytenfahecnkdhaaa.Nd
end

section
/-
  Rows of hashes that a call builds itself.
-/
namespace Go.Proofs.Ytenfahecnkdhaaa.Nd
open Go.RowKit
open Tlv (Tr Agree)
open Sim (hid Kp No)

def hcells (d : List (List Int)) : List Value := d.flatMap b8
theorem hcells_cons (e : List Int) (d : List (List Int)) : hcells (e :: d) = b8 e ++ hcells d := by simp [hcells]
theorem hcells_append (a b : List (List Int)) : hcells (a ++ b) = hcells a ++ hcells b := by simp [hcells]
theorem hcells_at : ∀ (d : List (List Int)), (∀ e ∈ d, HOk e) → ∀ (i j : Nat) (e : List Int), d[i]? = some e → j < 32 → (hcells d)[i * 32 + j]? = (b8 e)[j]?
  | [], _, i, j, e, hi, _ => by simp at hi
  | x :: d, h, 0, j, e, hi, hj => by
    simp only [List.getElem?_cons_zero, Option.some.injEq] at hi
    subst hi
    rw [hcells_cons, Nat.zero_mul, Nat.zero_add, List.getElem?_append_left (by rw [b8_length, (h x (by simp)).1]; exact hj)]
  | x :: d, h, i + 1, j, e, hi, hj => by
    rw [List.getElem?_cons_succ] at hi
    rw [hcells_cons, List.getElem?_append_right (by rw [b8_length, (h x (by simp)).1]; omega), b8_length, (h x (by simp)).1, show (i + 1) * 32 + j - 32 = i * 32 + j by omega]
    exact hcells_at d (fun y hy => h y (by simp [hy])) i j e hi hj
theorem infoHz : (Try.prog.info? 68).map (fun i => (i.zero, i.size, i.bytes)) = some (some (.agg zHash.toArray), 32, 32) := by kernel_rfl
theorem run_oneH {hs : List Int} (h : hs.length = 32) (w : World) : (Instr.buildSlice 22 1 #[(0, .agg (b8 hs).toArray)]).run Try.prog w = .ok (.slice (some ⟨w.heap.size, 0, none⟩) 1 1) (w.alloc (.cells (b8 hs).toArray 68)) := by
  obtain ⟨x0, x1, x2, x3, x4, x5, x6, x7, x8, x9, x10, x11, x12, x13, x14, x15, x16, x17, x18, x19, x20, x21, x22, x23, x24, x25, x26, x27, x28, x29, x30, x31, rfl⟩ := x32 h
  kernel_rfl
theorem app_runH (w : World) (ty : TypeId) (v vx : Value) (n m : Nat) (xs ys : List Value) (hown : Sim.Row w 68 32 v n xs) (hy : Sim.Src w vx m 32 ys) (hm : 0 < m) (hlen : n + m ≤ 2000000) :
    ∃ ad cap w', (Builtin.append_ #[22, 22] ty #[v, vx]).run Try.prog w = .ok (.slice ad (n + m) cap) w' ∧ Sim.Row w' 68 32 (.slice ad (n + m) cap) (n + m) (xs ++ ys) ∧ w.grownBy w' v.ownBlock ∧ ((Value.slice ad (n + m) cap).ownBlock = v.ownBlock ∨ (Value.slice ad (n + m) cap).ownBlock = some w.heap.size) := by
  obtain ⟨i0, hi, hz0, hz1', hz2⟩ := info_parts infoHz
  rcases hy with ⟨rfl, rfl, rfl⟩ | ⟨ad, c, rfl, hl, hc, h1⟩
  · omega
  · obtain ⟨v', w', hr, h8, h9, _, h10⟩ := run_append_own_at (P := Try.prog) w 0 22 ty 68 i0 (.agg zHash.toArray) 32 32 Try.underlying22 hi hz0 hz1' hz2 rfl (by omega) v n xs hown ad m c ys hl hc h1 (by unfold maxLen; omega) (by omega) (Nat.zero_le _)
    have h8' : Sim.Row w' 68 32 v' (n + m) (xs ++ ys) := h8
    obtain ⟨ad', cap', rfl, _⟩ := h8'.shape
    exact ⟨ad', cap', w', hr, h8, h9, h10⟩
theorem hv_of_row {ty : TypeId} {w : World} {v : Value} {d : List (List Int)} {P : Nat → Prop} (h : Sim.Row w ty 32 v d.length (hcells d)) (hd : ∀ e ∈ d, HOk e) (hP : ∀ x, v.ownBlock = some x → P x) : HV P w v d := by
  obtain ⟨a, cap, rfl, h2, h3, h4, h5⟩ := h.shape
  refine ⟨a, cap, rfl, h2, h3, fun e => ⟨List.length_eq_zero_iff.1 (h4 e).1, (h4 e).2⟩, hd, fun hne => ?_⟩
  cases a with
  | none => exact absurd (List.length_eq_zero_iff.1 (h4 rfl).1) hne
  | some x =>
    obtain ⟨g, o, sp⟩ := x
    obtain ⟨e1, e2⟩ := h5 _ rfl
    cases e1
    cases e2
    refine ⟨g, 0, rfl, hP g rfl, h.lt g rfl, fun i e hi => ⟨hd e (List.mem_of_getElem? hi), fun j u hj => ?_⟩⟩
    have hil := (List.getElem?_eq_some_iff.1 hi).1
    have hjl := (List.getElem?_eq_some_iff.1 hj).1
    rw [b8_length, (hd e (List.mem_of_getElem? hi)).1] at hjl
    rw [Nat.zero_add, h.cellAt (i * 32 + j) (by omega), hcells_at d hd i j e hi hjl]
    exact hj

theorem HV.lt {P : Nat → Prop} {w : World} {v : Value} {d : List (List Int)} (h : HV P w v d) : HV (fun g => g < w.heap.size ∧ P g) w v d := by
  obtain ⟨a, c, e, h2, h3, h4, h5, h6⟩ := h
  refine ⟨a, c, e, h2, h3, h4, h5, fun hne => ?_⟩
  obtain ⟨g, o, e1, hp, hr⟩ := h6 hne
  exact ⟨g, o, e1, ⟨hr.1, hp⟩, hr⟩
theorem HV.ok {P : Nat → Prop} {w : World} {v : Value} {d : List (List Int)} (h : HV P w v d) : ∀ e ∈ d, HOk e := by
  obtain ⟨_, _, _, _, _, _, h5, _⟩ := h
  exact h5
theorem HV.imp {P Q : Nat → Prop} {w : World} {v : Value} {d : List (List Int)} (h : HV P w v d) (k : ∀ g, P g → Q g) : HV Q w v d := by
  obtain ⟨a, c, e, h2, h3, h4, h5, h6⟩ := h
  refine ⟨a, c, e, h2, h3, h4, h5, fun hne => ?_⟩
  obtain ⟨g, o, e1, hp, hr⟩ := h6 hne
  exact ⟨g, o, e1, k g hp, hr⟩

/-- A row of hashes, of the call's own, that began at world u (whose variable may stand at u.heap.size): blocks from B on alone have been written. -/
def HMine (B : Nat) (w : World) (v : Value) (d : List (List Int)) : Prop := Sim.Row w 68 32 v d.length (hcells d) ∧ (∀ x, v.ownBlock = some x → B ≤ x) ∧ (∀ e ∈ d, HOk e)
theorem HMine.nil (B : Nat) (w : World) : HMine B w (.slice none 0 0) [] := ⟨Sim.Row.nil _ _ _, by intro x hx; simp [Value.ownBlock] at hx, by simp⟩
theorem HMine.hv {B : Nat} {w : World} {v : Value} {d : List (List Int)} (h : HMine B w v d) : HV (B ≤ ·) w v d := hv_of_row h.1 h.2.2 h.2.1
theorem HMine.kp {L : Nat → Prop} {B : Nat} {w w' : World} {v : Value} {d : List (List Int)} (h : HMine B w v d) (k : Kp L w w') (hL : ∀ x, B ≤ x → ¬ L x) : HMine B w' v d :=
  ⟨h.1.kp k (fun x hx => hL x (h.2.1 x hx)), h.2.1, h.2.2⟩

/-- One hash more. -/
theorem HMine.push {B k : Nat} {w : World} {ad : Option Addr} {cap : Nat} {d : List (List Int)} {h : List Int} (H : HMine B w (.slice ad k cap) d) (hk : d.length = k) (hh : HOk h) (hB : B ≤ w.heap.size) (hl : k + 1 ≤ 2000000) (ty : TypeId) :
    ∃ ad' cap' w', (Builtin.append_ #[22, 22] ty #[.slice ad k cap, .slice (some ⟨w.heap.size, 0, none⟩) 1 1]).run Try.prog (w.alloc (.cells (b8 h).toArray 68)) = .ok (.slice ad' (k + 1) cap') w' ∧
      HMine B w' (.slice ad' (k + 1) cap') (d ++ [h]) ∧ (w.alloc (.cells (b8 h).toArray 68)).grownBy w' (Value.slice ad k cap).ownBlock := by
  subst hk
  have hS : Sim.Src (w.alloc (.cells (b8 h).toArray 68)) (.slice (some ⟨w.heap.size, 0, none⟩) 1 1) 1 32 (b8 h) := Sim.Src.one w (b8 h) 32 68 (by rw [b8_length, hh.1]) (b8_one h)
  obtain ⟨ad', cap', w', hr, hrow, hg, hown⟩ := app_runH _ ty _ _ _ 1 _ _ (H.1.kept ((Kp.refl No w).alloc _)) hS (by omega) (by omega)
  refine ⟨ad', cap', w', hr, ⟨?_, fun x hx => ?_, fun e he => ?_⟩, hg⟩
  · rw [List.length_append, hcells_append]
    have : hcells [h] = b8 h := by simp [hcells]
    rw [this]
    exact hrow
  · rcases hown with e | e
    · exact H.2.1 x (by rw [← e]; exact hx)
    · rw [e] at hx
      cases hx
      simp
      omega
  · rcases List.mem_append.1 he with he | he
    · exact H.2.2 e he
    · rw [List.mem_singleton.1 he]
      exact hh

/-- The variable at block b holds a file: its size, and the hashes of the first k values. -/
def FI (w1 : World) (b : Nat) (s : Int) (d : List (List Int)) (v : Value) (wr : World) : Prop :=
  wr.cell? ⟨b, 0, none⟩ = some (.int .i64 s) ∧ wr.cell? ⟨b, 1, none⟩ = some v ∧ (∀ o, wr.frozen? ⟨b, o, none⟩ = false) ∧ b < wr.heap.size ∧ HMine (b + 1) wr v d ∧ Below w1.heap.size w1 wr

theorem FI.step {w1 wr W1 w2 : World} {b k cap : Nat} {ad : Option Addr} {s : Int} {d : List (List Int)} {h : List Int} (F : FI w1 b s d (.slice ad k cap) wr) (hk : d.length = k) (hw : w1.heap.size ≤ b) (h1 : Kp No wr W1) (h2 : Kp No W1 w2) (hh : HOk h) (hl : k + 1 ≤ 2000000) (ty : TypeId) :
    ∃ ad' cap' w4, (Builtin.append_ #[22, 22] ty #[.slice ad k cap, .slice (some ⟨w2.heap.size, 0, none⟩) 1 1]).run Try.prog (w2.alloc (.cells (b8 h).toArray 68)) = .ok (.slice ad' (k + 1) cap') w4 ∧
      w4.cell? ⟨b, 1, none⟩ = some (.slice ad k cap) ∧ w4.frozen? ⟨b, 1, none⟩ = false ∧ b < w4.heap.size ∧
      FI w1 b s (d ++ [h]) (.slice ad' (k + 1) cap') (w4.setCell ⟨b, 1, none⟩ (.slice ad' (k + 1) cap')) ∧ Kp (fun x => x = b ∨ (Value.slice ad k cap).ownBlock = some x) W1 w4 := by
  obtain ⟨h0, hc1, hf, hs, hm, hw1⟩ := F
  have hb : Kp No wr w2 := h1.andNone h2
  have hz := hb.size
  have hm2 : HMine (b + 1) w2 (.slice ad k cap) d := hm.kp hb (fun _ _ x => x)
  obtain ⟨ad', cap', w4, hrun, hC, hgr⟩ := hm2.push hk hh (by omega) hl ty
  have hnb : some b ≠ (Value.slice ad k cap).ownBlock := fun e => by have := hm.2.1 b e.symm; omega
  have hzg := hgr.size
  simp at hzg
  have cc : ∀ j, w4.cell? ⟨b, j, none⟩ = wr.cell? ⟨b, j, none⟩ := fun j => by
    rw [hgr.cell_far ⟨b, j, none⟩ (by simp; omega) hnb, World.cell?_alloc_past _ _ _ (by omega)]
    exact hb.cell (p := ⟨b, j, none⟩) hs (fun x => x)
  have cf : ∀ j, w4.frozen? ⟨b, j, none⟩ = false := fun j => by
    rw [hgr.frozen_far ⟨b, j, none⟩ (by simp; omega) hnb, World.frozen?_alloc_past _ _ _ (by omega), hb.frozen (p := ⟨b, j, none⟩) hs (fun x => x)]
    exact hf j
  have hKp : Kp (fun x => x = b ∨ (Value.slice ad k cap).ownBlock = some x) W1 w4 := ((h2.ofNo).alloc _).grown hgr (fun x hx => .inl (.inr hx))
  have hKr : Kp (fun x => x = b ∨ (Value.slice ad k cap).ownBlock = some x) wr w4 := ((hb.ofNo).alloc _).grown hgr (fun x hx => .inl (.inr hx))
  refine ⟨ad', cap', w4, hrun, (cc 1).trans hc1, cf 1, by omega, ⟨?_, ?_, fun o => ?_, ?_, ?_, ?_⟩, hKp⟩
  · rw [Sim.cell_other (by omega)]; exact (cc 0).trans h0
  · exact World.cell?_setCell_same _ _ _ ((cc 1).trans hc1)
  · rw [World.frozen?_setCell]; exact cf o
  · simp; omega
  · exact hC.kp (Kp.setCell (L := (· = b)) (p := ⟨b, 1, none⟩) (Kp.refl _ _) (.inl rfl) _) (fun x hx e => by subst e; omega)
  · have b1 : Below w1.heap.size w1 w4 := Kp.under hw1 hKr (fun x hx => by
      rcases hx with rfl | hx
      · exact hw
      · have := hm.2.1 x hx; omega) hw1.size
    exact b1.setCell hw _
/-- The hashes that values tell. -/
def kidsH {n : Nat} (ks : List (Tr n)) : List (List Int) := ks.map fun k => h32 k.hd.2.2
theorem kid_at {n B k : Nat} {w : World} {a : Option Addr} {l c : Nat} {ks : List (Tr (n + 1))} (h : Tlv.KSl 0 B w (Tlv.Rep 0 B w (n + 1)) (.slice a l c) ks) (hk : k < ks.length) :
    ∃ g o t sb sk, a = some ⟨g, o, none⟩ ∧ g < B ∧ ks[k]? = some t ∧ w.cell? ⟨g, o + k * 4, none⟩ = some (.int .i64 t.hd.1) ∧ w.cell? ⟨g, o + k * 4 + 1, none⟩ = some (.int .u64 t.hd.2.1) ∧
      w.cell? ⟨g, o + k * 4 + 2, none⟩ = some sb ∧ w.cell? ⟨g, o + k * 4 + 3, none⟩ = some sk ∧ Tlv.Rep 0 B w (n + 1) t sb sk := by
  obtain ⟨a', c', e, _, _, _, _, h7⟩ := h
  simp only [Value.slice.injEq] at e
  obtain ⟨rfl, _, _⟩ := e
  obtain ⟨g, o, e, _, hg, hc⟩ := h7 (by intro e; subst e; simp at hk)
  obtain ⟨t, ht⟩ : ∃ t, ks[k]? = some t := ⟨_, List.getElem?_eq_getElem hk⟩
  obtain ⟨sb, sk, h0, h1, h2, h3, hr⟩ := hc k t ht
  exact ⟨g, o, t, sb, sk, e, hg, ht, h0, h1, h2, h3, hr⟩

theorem hv_kept2 {P Q : Nat → Prop} {b : Nat} {w w' : World} {v : Value} {d : List (List Int)} (h : HV P w v d) (k : Kp (· = b) w w') (hq : ∀ g, P g → g ≠ b ∧ Q g) : HV Q w' v d := by
  obtain ⟨a, c, e, h2, h3, h4, h5, h6⟩ := h
  refine ⟨a, c, e, h2, h3, h4, h5, fun hne => ?_⟩
  obtain ⟨g, o, e1, hp, hr⟩ := h6 hne
  exact ⟨g, o, e1, (hq g hp).2, hr.kp k (hq g hp).1⟩

end Go.Proofs.Ytenfahecnkdhaaa.Nd
end

section
/-
  body, of the program: the value whose form an object's Body is.
-/
namespace Go.Proofs.Ytenfahecnkdhaaa.Nd
open Go.RowKit
open Tlv (Tr Agree)
open Sim (hid Kp No)

/-- The tree that a Body is. -/
def bodyT (bs : List Int) : Option (Tr 9) := if bs.length ≤ 5000 then Tlv.getT bs else none
def zVal : Value := .agg #[.int .i64 0, .int .u64 0, .slice none 0 0, .slice none 0 0]
/-- What body answers. -/
def BodyA (u w : World) (K0 K : Int) (bs : List Int) (e : Ending) : Prop :=
  (K0 ≠ K ∧ e = .returned (.tuple #[zVal, .int .i64 1])) ∨ (K0 = K ∧ bodyT bs = none ∧ e = .returned (.tuple #[zVal, .int .i64 3])) ∨
  (∃ t a3 l3 p3 a4 l4 p4, K0 = K ∧ bodyT bs = some t ∧ e = .returned (.tuple #[.agg #[.int .i64 t.hd.1, .int .u64 t.hd.2.1, .slice a3 l3 p3, .slice a4 l4 p4], .int .i64 0]) ∧ Tlv.Rep u.heap.size w.heap.size w 9 t (.slice a3 l3 p3) (.slice a4 l4 p4))

theorem set4_read {w : World} {b : Nat} {u0 u1 u2 u3 x0 x1 x2 x3 : Value} (h0 : w.cell? ⟨b, 0, none⟩ = some x0) (h1 : w.cell? ⟨b, 1, none⟩ = some x1) (h2 : w.cell? ⟨b, 2, none⟩ = some x2) (h3 : w.cell? ⟨b, 3, none⟩ = some x3) :
    ((((w.setCell ⟨b, 0, none⟩ u0).setCell ⟨b, 1, none⟩ u1).setCell ⟨b, 2, none⟩ u2).setCell ⟨b, 3, none⟩ u3).cell? ⟨b, 0, none⟩ = some u0 ∧
    ((((w.setCell ⟨b, 0, none⟩ u0).setCell ⟨b, 1, none⟩ u1).setCell ⟨b, 2, none⟩ u2).setCell ⟨b, 3, none⟩ u3).cell? ⟨b, 1, none⟩ = some u1 ∧
    ((((w.setCell ⟨b, 0, none⟩ u0).setCell ⟨b, 1, none⟩ u1).setCell ⟨b, 2, none⟩ u2).setCell ⟨b, 3, none⟩ u3).cell? ⟨b, 2, none⟩ = some u2 ∧
    ((((w.setCell ⟨b, 0, none⟩ u0).setCell ⟨b, 1, none⟩ u1).setCell ⟨b, 2, none⟩ u2).setCell ⟨b, 3, none⟩ u3).cell? ⟨b, 3, none⟩ = some u3 := by
  refine ⟨?_, ?_, ?_, ?_⟩
  · simp [go_sem, h0]
  · simp [go_sem, h1]
  · simp [go_sem, h2]
  · simp [go_sem, h3]

set_option maxHeartbeats 2000000 in
set_option maxRecDepth 100000 in
theorem body_any (w : World) (K0 K : Int) (v : Value) (bs : List Int) (hv : Tlv.BySl 0 w.heap.size w v bs) :
    Calls Try.prog 48 #[.agg #[.int .i64 K0, v], .int .i64 K] w fun e w' => BodyA w w' K0 K bs e ∧ Below w.heap.size w w' := by
  obtain ⟨a, c, rfl, hxx⟩ := id hv
  clear hxx
  obtain ⟨n, hn⟩ : ∃ n, bs.length = n := ⟨_, rfl⟩
  have HN := hid hn
  rw [hn] at hv ⊢
  have HBY := hid hv
  have HB0 : Hid (Below w.heap.size w ((w.alloc (.cells #[.int .i64 K0, .slice a n c] 31)).alloc (.cells #[.int .i64 0, .int .u64 0, .slice none 0 0, .slice none 0 0] 95))) := ((Below.refl _ _).alloc (Nat.le_refl _) _).alloc (by simp) _
  clear hv hn
  by_cases hk : K0 = K
  · subst hk
    by_cases hl : (n : Int) ≤ 5000
    · have hd : decide ((n : Int) ≤ 5000) = true := by simpa using hl
      have HT : Hid (bodyT bs = Tlv.getT bs) := by
        have : bs.length ≤ 5000 := by rw [HN.out]; omega
        rw [Hid, bodyT, if_pos this]
      go_enter Try.func48, Try.ntmps48
      go_wp2_with fail
      refine (fits_any _ a n c).mono ?_
      rintro e w1 ⟨he, rfl⟩
      rw [hd] at he
      subst he
      go_wp2_with fail
      refine (Tlv.get_any _ bs _ (HBY.out.agree (Agree.below HB0.out) (Nat.le_refl _) HB0.out.size)).mono ?_
      rintro e w2 ⟨hres, hb2⟩
      have HB2 : Hid (Below w.heap.size w w2) := HB0.out.trans (hb2.mono HB0.out.size)
      have g0 : w2.cell? ⟨w.heap.size + 1, 0, none⟩ = some (.int .i64 0) := by rw [hb2.cell (p := ⟨w.heap.size + 1, 0, none⟩) (by simp)]; simp [go_sem]
      have g1 : w2.cell? ⟨w.heap.size + 1, 1, none⟩ = some (.int .u64 0) := by rw [hb2.cell (p := ⟨w.heap.size + 1, 1, none⟩) (by simp)]; simp [go_sem]
      have g2 : w2.cell? ⟨w.heap.size + 1, 2, none⟩ = some (.slice none 0 0) := by rw [hb2.cell (p := ⟨w.heap.size + 1, 2, none⟩) (by simp)]; simp [go_sem]
      have g3 : w2.cell? ⟨w.heap.size + 1, 3, none⟩ = some (.slice none 0 0) := by rw [hb2.cell (p := ⟨w.heap.size + 1, 3, none⟩) (by simp)]; simp [go_sem]
      have gf : ∀ o, w2.frozen? ⟨w.heap.size + 1, o, none⟩ = false := fun o => by rw [hb2.frozen (p := ⟨w.heap.size + 1, o, none⟩) (by simp)]; simp [go_sem]
      have hg2 : w.heap.size + 1 < w2.heap.size := by have := hb2.size; simp at this; omega
      have HBB := hid hb2.size
      clear hb2
      rcases hres with ⟨hn', rfl⟩ | ⟨t, sb, sk, ht, rfl, hrep⟩
      · have HA : Hid (∀ w', BodyA w w' K0 K0 bs (.returned (.tuple #[zVal, .int .i64 3]))) := fun w' => .inr (.inl ⟨rfl, HT.out.trans hn', rfl⟩)
        clear hn'
        go_wp2_with fail
        obtain ⟨q0, q1, q2, q3⟩ := set4_read (u0 := .int .i64 0) (u1 := .int .u64 0) (u2 := .slice none 0 0) (u3 := .slice none 0 0) g0 g1 g2 g3
        refine bodyPost_ret (v := .tuple #[zVal, .int .i64 3]) (by simp [results, Try.results48, go_sem, q0, q1, q2, q3, zVal]) rfl ⟨HA.out _, ?_⟩
        exact (((HB2.out.setCell (by simp) _).setCell (by simp) _).setCell (by simp) _).setCell (by simp) _
      · obtain ⟨a3, l3, p3, a4, l4, p4, rfl, rfl⟩ := hrep.sl
        have HR := hid hrep
        have HTT : Hid (bodyT bs = some t) := HT.out.trans ht
        clear ht hrep
        obtain ⟨tg, htg⟩ : ∃ x, t.hd.1 = x := ⟨_, rfl⟩
        obtain ⟨nm, hnm⟩ : ∃ x, t.hd.2.1 = x := ⟨_, rfl⟩
        have HA : Hid (∀ w', Tlv.Rep w.heap.size w'.heap.size w' 9 t (.slice a3 l3 p3) (.slice a4 l4 p4) → BodyA w w' K0 K0 bs (.returned (.tuple #[.agg #[.int .i64 tg, .int .u64 nm, .slice a3 l3 p3, .slice a4 l4 p4], .int .i64 0]))) := fun w' hr => .inr (.inr ⟨t, _, _, _, _, _, _, rfl, HTT.out, by rw [htg, hnm], hr⟩)
        rw [htg, hnm]
        clear htg hnm
        go_wp2_with fail
        obtain ⟨q0, q1, q2, q3⟩ := set4_read (u0 := .int .i64 tg) (u1 := .int .u64 nm) (u2 := .slice a3 l3 p3) (u3 := .slice a4 l4 p4) g0 g1 g2 g3
        refine bodyPost_ret (v := .tuple #[.agg #[.int .i64 tg, .int .u64 nm, .slice a3 l3 p3, .slice a4 l4 p4], .int .i64 0]) (by simp [results, Try.results48, go_sem, q0, q1, q2, q3]) rfl ⟨HA.out _ ?_, ?_⟩
        · exact HR.out.agree (((((Agree.refl _ _ _).setCell (.inl (by simp)) _).setCell (.inl (by simp)) _).setCell (.inl (by simp)) _).setCell (.inl (by simp)) _) (by simp; omega) (by simp)
        · exact (((HB2.out.setCell (by simp) _).setCell (by simp) _).setCell (by simp) _).setCell (by simp) _
    · have hd : decide ((n : Int) ≤ 5000) = false := by simpa using hl
      have HA : Hid (∀ w', BodyA w w' K0 K0 bs (.returned (.tuple #[zVal, .int .i64 3]))) := fun w' => .inr (.inl ⟨rfl, by
        have : ¬ bs.length ≤ 5000 := by rw [HN.out]; omega
        rw [bodyT, if_neg this], rfl⟩)
      go_enter Try.func48, Try.ntmps48
      go_wp2_with fail
      refine (fits_any _ a n c).mono ?_
      rintro e w1 ⟨he, rfl⟩
      rw [hd] at he
      subst he
      go_wp2_with fail
      refine bodyPost_ret (v := .tuple #[zVal, .int .i64 3]) (by simp [results, Try.results48, go_sem, zVal]) rfl ⟨HA.out _, ?_⟩
      first | exact HB0.out | exact (((HB0.out.setCell (by simp) _).setCell (by simp) _).setCell (by simp) _).setCell (by simp) _
  · have HA : Hid (∀ w', BodyA w w' K0 K bs (.returned (.tuple #[zVal, .int .i64 1]))) := fun w' => .inl ⟨hk, rfl⟩
    have hkk : (K0 == K) = false := by simpa using hk
    have hkn : (K0 != K) = true := by simpa using hk
    go_enter Try.func48, Try.ntmps48
    go_wp2_with fail
    refine bodyPost_ret (v := .tuple #[zVal, .int .i64 1]) (by simp [results, Try.results48, go_sem, zVal]) rfl ⟨HA.out _, ?_⟩
    first | exact HB0.out | exact (((HB0.out.setCell (by simp) _).setCell (by simp) _).setCell (by simp) _).setCell (by simp) _
end Go.Proofs.Ytenfahecnkdhaaa.Nd
end

section
/-
  file, of the program: what a value's fields tell.
-/
namespace Go.Proofs.Ytenfahecnkdhaaa.Nd
open Go.RowKit
open Tlv (Tr Agree)
open Sim (hid Kp No)
set_option linter.unusedSimpArgs false

theorem FI.start (w1 : World) (s : Int) : FI w1 w1.heap.size s [] (.slice none 0 0) (w1.alloc (.cells #[.int .i64 s, .slice none 0 0] 35)) :=
  ⟨by simp, by simp, by simp, by simp, HMine.nil _ _, (Below.refl _ _).alloc (Nat.le_refl _) _⟩
set_option maxHeartbeats 4000000 in
set_option maxRecDepth 100000 in
theorem file_any (w : World) (v : Value) (t0 t1 : Tr 8) (hv : Tlv.KSl 0 w.heap.size w (Tlv.Rep 0 w.heap.size w 8) v [t0, t1]) (hl : t1.kd.length ≤ 1000000) :
    Calls Try.prog 49 #[v] w fun e w' => ∃ a l c, e = .returned (.agg #[.int .i64 (wrap64 t0.hd.2.1), .slice a l c]) ∧ HV (fun g => w.heap.size ≤ g) w' (.slice a l c) (kidsH t1.kd) ∧ Below w.heap.size w w' := by
  obtain ⟨a, c, rfl, hxx⟩ := id hv
  clear hxx
  obtain ⟨g, o, t, sb0, sk0, rfl, hg, ht, c00, c01, c02, c03, r0⟩ := kid_at hv (k := 0) (by simp)
  obtain ⟨g', o', t', sb1, sk1, e, hg', ht', c10, c11, c12, c13, r1⟩ := kid_at hv (k := 1) (by simp)
  simp only [Option.some.injEq, Addr.mk.injEq] at e
  obtain ⟨rfl, rfl, hxx⟩ := e
  clear hxx
  simp only [List.getElem?_cons_zero, List.getElem?_cons_succ, Option.some.injEq] at ht ht'
  subst ht
  subst ht'
  clear c00 c02 c03 r0 hv c10 c11 c12 hg'
  simp only [Nat.zero_mul, Nat.one_mul, Nat.add_zero, Nat.add_assoc, Nat.reduceAdd, List.length_cons, List.length_nil] at c01 c13 ⊢
  obtain ⟨q, hq⟩ : ∃ q, t0.hd.2.1 = q := ⟨_, rfl⟩
  rw [hq] at c01 ⊢
  clear hq
  obtain ⟨hxa, hxb, hxc, hks⟩ := r1
  clear hxa hxb hxc
  obtain ⟨a1, p1, rfl, hxx⟩ := id hks
  clear hxx
  obtain ⟨ks, hks'⟩ : ∃ ks, t1.kd = ks := ⟨_, rfl⟩
  rw [hks'] at hks hl c13 ⊢
  clear hks' t1 t0
  obtain ⟨n, hn⟩ : ∃ n, ks.length = n := ⟨_, rfl⟩
  have HN := hid hn
  rw [hn] at hks hl c13
  have HKS := hid hks
  clear hn hks
  go_enter Try.func49, Try.ntmps49
  go_wp2_with fail
  go_loopw [17] (fun i wr => ∃ (k : Nat) (av : Option Addr) (cv : Nat), i = .int .i64 (k : Int) ∧ k ≤ n ∧ Hid (FI (w.alloc (.cells #[.int .i64 0, .slice none 0 0] 35)) (w.heap.size + 1) (wrap64 q) ((kidsH ks).take k) (.slice av k cv) wr)) (fun i _ => n - (intOf i).toNat)
  case atStart => exact ⟨0, none, 0, rfl, Nat.zero_le _, show FI _ _ _ _ _ _ from by simpa using FI.start (w.alloc (.cells #[.int .i64 0, .slice none 0 0] 35)) (wrap64 q)⟩
  case round =>
    obtain ⟨k, av, cv, rfl, hkn, HS⟩ := hrel
    have HB : Hid (Below w.heap.size w wr) := ((Below.refl _ _).alloc (Nat.le_refl _) _).trans (HS.out.2.2.2.2.2.mono (by simp))
    by_cases hlt : k < n
    · have hltI : (k : Int) < (n : Int) := by omega
      have hwk : IntKind.i64.wrap ((k : Int) + 1) = ((k + 1 : Nat) : Int) := by rw [IntKind.wrap_i64]; omega
      obtain ⟨g2, o2, t, sb, sk, rfl, hg2, ht, d0, d1, d2, d3, hr⟩ := kid_at HKS.out (k := k) (by rw [HN.out]; exact hlt)
      obtain ⟨hxa, hxb, hby, ⟨ak, ck, rfl, hxc⟩⟩ := hr
      clear hxa hxb hxc
      obtain ⟨ab, cb, rfl, hxx⟩ := id hby
      clear hxx
      rw [← HB.out.cell (p := ⟨g2, _, none⟩) hg2] at d0 d1 d2 d3
      have hg2r : g2 < wr.heap.size := Nat.lt_of_lt_of_le hg2 HB.out.size
      have HNX : Hid ((kidsH ks).take k ++ [h32 t.hd.2.2] = (kidsH ks).take (k + 1)) := by
        rw [Hid, List.take_add_one]
        simp [kidsH, ht]
      have HLK : Hid (∀ k, k ≤ n → ((kidsH ks).take k).length = k) := fun j hj => by
        have := HN.out
        simp [kidsH]
        omega
      have HOKH : Hid (HOk (h32 t.hd.2.2)) := h32_ok (Tlv.BySl.bytes hby)
      have hbr : Tlv.BySl 0 wr.heap.size wr (.slice ab t.hd.2.2.length cb) t.hd.2.2 := bySl_lift hby HB.out
      obtain ⟨tg, htg⟩ : ∃ x, t.hd.1 = x := ⟨_, rfl⟩
      obtain ⟨nm, hnm⟩ : ∃ x, t.hd.2.1 = x := ⟨_, rfl⟩
      obtain ⟨bs, hbs⟩ : ∃ x, t.hd.2.2 = x := ⟨_, rfl⟩
      obtain ⟨lk, hlk⟩ : ∃ x, t.kd.length = x := ⟨_, rfl⟩
      rw [htg] at d0
      rw [hnm] at d1
      rw [hbs] at hbr d2 HNX HOKH
      rw [hlk] at d3
      obtain ⟨lb, hlb⟩ : ∃ lb, bs.length = lb := ⟨_, rfl⟩
      rw [hlb] at hbr d2
      clear hby ht htg hnm hbs hlk t hlb
      obtain ⟨W1, hW1⟩ : ∃ W1, wr.alloc (.cells #[.int .i64 tg, .int .u64 nm, .slice ab lb cb, .slice ak lk ck] 95) = W1 := ⟨_, rfl⟩
      have HK1 : Hid (Kp No wr W1) := by rw [Hid, ← hW1]; exact (Kp.refl No wr).alloc _
      have hz1 : W1.heap.size = wr.heap.size + 1 := by rw [← hW1]; simp
      have HBY : Hid (Tlv.BySl 0 W1.drew.heap.size W1.drew (.slice ab lb cb) bs) := hbr.agree (by rw [← hW1]; exact ((Agree.refl _ _ _).alloc (Nat.le_refl _) _).drew) (Nat.le_refl _) (by simp [hz1])
      have hlb1 : W1.cell? ⟨wr.heap.size, 2, none⟩ = some (.slice ab lb cb) := by rw [← hW1]; simp
      have HLB : Hid (∀ V, Kp (fun x => x = w.heap.size + 1 ∨ (Value.slice av k cv).ownBlock = some x) W1 V → V.cell? ⟨wr.heap.size, 2, none⟩ = some (.slice ab lb cb)) := fun V hV => by
        refine (hV.cell (p := ⟨wr.heap.size, 2, none⟩) (by rw [hz1]; simp) (fun hx => ?_)).trans hlb1
        rcases hx with hx | hx
        · have h1 := HS.out.2.2.2.1
          have h2 : wr.heap.size = w.heap.size + 1 := hx
          omega
        · have h1 := HS.out.2.2.2.2.1.1.lt wr.heap.size hx
          omega
      have c3 : ∀ V, Kp No W1 V → V.cell? ⟨w.heap.size + 1, 1, none⟩ = some (.slice av k cv) := fun V hV => ((HK1.out.andNone hV).cell (p := ⟨w.heap.size + 1, 1, none⟩) HS.out.2.2.2.1 (fun x => x)).trans HS.out.2.1
      clear hbr hlb1 hz1
      go_wp2_with fail
      refine wp_region_held_drew (S := fun V => Kp (fun x => x = w.heap.size + 1 ∨ (Value.slice av k cv).ownBlock = some x) W1 V) (by kernel_rfl) ((Kp.refl _ _).drew) (fun hHeld => ?_)
      refine wpAnyH_take (i := 0) (oi := { dst := some 21, op := Op.fieldAddr 35 (Operand.tmp 3) 1, type := 0, pos := "file.go:65", after := #[], guard := none }) (v := .pointer (some ⟨w.heap.size + 1, 1, none⟩)) rfl (by kernel_rfl) (by kernel_rfl) (by kernel_rfl) (fun _ _ _ h => h) (Or.inl ⟨by rfl, fun w' hw' => by (clear hw'; go_simp)⟩) hHeld ?_
      simp only [Act.put, List.setIfInBounds_toArray, List.set_cons_zero, List.set_cons_succ]
      refine wpAnyH_take (i := 2) (oi := { dst := some 23, op := Op.fieldAddr 95 (Operand.tmp 5) 2, type := 0, pos := "file.go:65", after := #[], guard := none }) (v := .pointer (some ⟨wr.heap.size, 2, none⟩)) rfl (by kernel_rfl) (by kernel_rfl) (by kernel_rfl) (fun _ _ _ h => h) (Or.inl ⟨by rfl, fun w' hw' => by (clear hw'; go_simp)⟩) hHeld ?_
      simp only [Act.put, List.setIfInBounds_toArray, List.set_cons_zero, List.set_cons_succ]
      refine wpAnyH_take (i := 3) (oi := { dst := some 24, op := Op.load 26 (Operand.tmp 23), type := 26, pos := "file.go:65", after := #[{ on := 2, ground := Ground.data }], guard := none }) (v := .slice ab lb cb) rfl (by kernel_rfl) (by kernel_rfl) (by kernel_rfl) (fun _ _ _ h => h) (Or.inl ⟨by rfl, fun w' hw' => by (have q := HLB.out _ hw'; clear hw'; go_simp)⟩) hHeld ?_
      simp only [Act.put, List.setIfInBounds_toArray, List.set_cons_zero, List.set_cons_succ]
      refine wpAnyH_ready (rs := [1, 4]) (by kernel_rfl) (by simp) ?_
      refine (AllReadyH.cons (o := { dst := some 22, op := Op.load 22 (Operand.tmp 21), type := 22, pos := "file.go:65", after := #[{ on := 0, ground := Ground.data }], guard := none }) rfl (fun K hK => ?_) (AllReadyH.cons (o := { dst := some 25, op := Op.call { callee := Callee.value (Operand.func 73), args := #[Operand.tmp 24], argTypes := #[26] }, type := 68, pos := "file.go:65", after := #[{ on := 3, ground := Ground.data }], guard := none }) rfl (fun K hK => ?_) AllReadyH.nil))
      · have q3 := c3 W1.drew ((Kp.refl No W1).drew)
        go_simp
        refine hK.out _ _ (((Kp.refl No W1).drew).ofNo) (fun hh => ?_)
        clear hK K hHeld
        have hHeld := hh
        clear hh
        try simp only [Act.put, List.setIfInBounds_toArray, List.set_cons_zero, List.set_cons_succ]
        refine wpAnyH_ready (rs := [4]) (by kernel_rfl) (by simp) ?_
        refine (AllReadyH.cons (o := { dst := some 25, op := Op.call { callee := Callee.value (Operand.func 73), args := #[Operand.tmp 24], argTypes := #[26] }, type := 68, pos := "file.go:65", after := #[{ on := 3, ground := Ground.data }], guard := none }) rfl (fun K hK => ?_) AllReadyH.nil)
        go_simp
        refine (hash_any _ _ _ HBY.out).mono ?_
        rintro e' w2 ⟨rfl, hb2⟩
        have hb2' : Below W1.heap.size W1 w2 := (Below.refl _ _).drew.trans hb2
        have HK2 : Hid (Kp No W1 w2) := Kp.below hb2'
        obtain ⟨ad2, cap2, w4, hap, k3, kf, ks4, hvi, hkp⟩ := HS.out.step (HLK.out k hkn) (by simp) HK1.out HK2.out HOKH.out (by omega) 22
        rw [HNX.out] at hvi
        have HAP := hid hap
        have HVI := hid hvi
        have HKP := hid hkp
        clear hap hvi hkp hb2 hb2'
        go_wp2_with fail
        refine hK.out _ _ (HK2.out.ofNo) (fun hh => ?_)
        clear hK K hHeld
        have hHeld := hh
        clear hh
        try simp only [Act.put, List.setIfInBounds_toArray, List.set_cons_zero, List.set_cons_succ]
        refine wpAnyH_ready (rs := [5]) (by kernel_rfl) (by simp) ?_
        refine (AllReadyH.cons (o := { dst := some 26, op := Op.buildSlice 22 1 #[(0, Operand.tmp 25)], type := 22, pos := "file.go:65", after := #[{ on := 4, ground := Ground.data }], guard := none }) rfl (fun K hK => ?_) AllReadyH.nil)
        rw [if_pos (by rfl)]
        refine wp_valE (exec_sliceE 22 _ rfl (.agg (b8 (h32 bs)).toArray) _ rfl (run_oneH HOKH.out.1 _)) ?_
        refine hK.out _ _ ((HK2.out.alloc _).ofNo) (fun hh => ?_)
        clear hK K hHeld
        have hHeld := hh
        clear hh
        try simp only [Act.put, List.setIfInBounds_toArray, List.set_cons_zero, List.set_cons_succ]
        refine wpAnyH_ready (rs := [6]) (by kernel_rfl) (by simp) ?_
        refine (AllReadyH.cons (o := { dst := some 27, op := Op.call { callee := Callee.builtin Builtin.append, args := #[Operand.tmp 22, Operand.tmp 26], argTypes := #[22, 22] }, type := 22, pos := "file.go:65", after := #[{ on := 1, ground := Ground.data }, { on := 5, ground := Ground.data }, { on := 4, ground := Ground.chain }], guard := none }) rfl (fun K hK => ?_) AllReadyH.nil)
        rw [if_pos (by rfl)]
        refine wp_valE (exec_appE _ _ 22 rfl (.slice av k cv) (.slice (some ⟨w2.heap.size, 0, none⟩) 1 1) _ rfl rfl HAP.out) ?_
        refine hK.out _ _ (HKP.out) (fun hh => ?_)
        clear hK K hHeld
        have hHeld := hh
        clear hh
        try simp only [Act.put, List.setIfInBounds_toArray, List.set_cons_zero, List.set_cons_succ]
        refine wpAnyH_take (i := 7) (oi := { dst := some 28, op := Op.fieldAddr 35 (Operand.tmp 3) 1, type := 0, pos := "file.go:65", after := #[{ on := 0, ground := Ground.phase }, { on := 1, ground := Ground.phase }, { on := 2, ground := Ground.phase }, { on := 3, ground := Ground.phase }, { on := 4, ground := Ground.phase }, { on := 5, ground := Ground.phase }, { on := 6, ground := Ground.phase }], guard := none }) (v := .pointer (some ⟨w.heap.size + 1, 1, none⟩)) rfl (by kernel_rfl) (by kernel_rfl) (by kernel_rfl) (fun _ _ _ h => h) (Or.inl ⟨by rfl, fun w' hw' => by (clear hw'; go_simp)⟩) hHeld ?_
        simp only [Act.put, List.setIfInBounds_toArray, List.set_cons_zero, List.set_cons_succ]
        refine wpAnyH_ready (rs := [8]) (by kernel_rfl) (by simp) ?_
        refine (AllReadyH.cons (o := { dst := none, op := Op.store 22 (Operand.tmp 28) (Operand.tmp 27), type := 0, pos := "file.go:65", after := #[{ on := 7, ground := Ground.data }, { on := 6, ground := Ground.data }, { on := 6, ground := Ground.chain }, { on := 0, ground := Ground.phase }, { on := 1, ground := Ground.phase }, { on := 2, ground := Ground.phase }, { on := 3, ground := Ground.phase }, { on := 4, ground := Ground.phase }, { on := 5, ground := Ground.phase }, { on := 6, ground := Ground.phase }], guard := none }) rfl (fun K hK => ?_) AllReadyH.nil)
        go_simp
        refine hK.out _ _ (HKP.out.setCell (p := ⟨w.heap.size + 1, 1, none⟩) (.inl (.inl rfl)) _) (fun hh => ?_)
        clear hK K hHeld
        have hHeld := hh
        clear hh
        try simp only [Act.put, List.setIfInBounds_toArray, List.set_cons_zero, List.set_cons_succ]
        refine wpAnyH_done (by kernel_rfl) ?_ _
        clear hHeld
        go_wp2_with fail
        go_round
        case rel => exact ⟨k + 1, ad2, cap2, by first | rfl | go_num, by omega, HVI.out⟩
        case measure => simp [intOf]; omega
      · go_simp
        refine (hash_any _ _ _ HBY.out).mono ?_
        rintro e' w2 ⟨rfl, hb2⟩
        have hb2' : Below W1.heap.size W1 w2 := (Below.refl _ _).drew.trans hb2
        have HK2 : Hid (Kp No W1 w2) := Kp.below hb2'
        obtain ⟨ad2, cap2, w4, hap, k3, kf, ks4, hvi, hkp⟩ := HS.out.step (HLK.out k hkn) (by simp) HK1.out HK2.out HOKH.out (by omega) 22
        rw [HNX.out] at hvi
        have HAP := hid hap
        have HVI := hid hvi
        have HKP := hid hkp
        clear hap hvi hkp hb2 hb2'
        go_wp2_with fail
        refine hK.out _ _ (HK2.out.ofNo) (fun hh => ?_)
        clear hK K hHeld
        have hHeld := hh
        clear hh
        try simp only [Act.put, List.setIfInBounds_toArray, List.set_cons_zero, List.set_cons_succ]
        refine wpAnyH_ready (rs := [1, 5]) (by kernel_rfl) (by simp) ?_
        refine (AllReadyH.cons (o := { dst := some 22, op := Op.load 22 (Operand.tmp 21), type := 22, pos := "file.go:65", after := #[{ on := 0, ground := Ground.data }], guard := none }) rfl (fun K hK => ?_) (AllReadyH.cons (o := { dst := some 26, op := Op.buildSlice 22 1 #[(0, Operand.tmp 25)], type := 22, pos := "file.go:65", after := #[{ on := 4, ground := Ground.data }], guard := none }) rfl (fun K hK => ?_) AllReadyH.nil))
        · have q3 := c3 w2 (HK2.out)
          go_simp
          refine hK.out _ _ (HK2.out.ofNo) (fun hh => ?_)
          clear hK K hHeld
          have hHeld := hh
          clear hh
          try simp only [Act.put, List.setIfInBounds_toArray, List.set_cons_zero, List.set_cons_succ]
          refine wpAnyH_ready (rs := [5]) (by kernel_rfl) (by simp) ?_
          refine (AllReadyH.cons (o := { dst := some 26, op := Op.buildSlice 22 1 #[(0, Operand.tmp 25)], type := 22, pos := "file.go:65", after := #[{ on := 4, ground := Ground.data }], guard := none }) rfl (fun K hK => ?_) AllReadyH.nil)
          rw [if_pos (by rfl)]
          refine wp_valE (exec_sliceE 22 _ rfl (.agg (b8 (h32 bs)).toArray) _ rfl (run_oneH HOKH.out.1 _)) ?_
          refine hK.out _ _ ((HK2.out.alloc _).ofNo) (fun hh => ?_)
          clear hK K hHeld
          have hHeld := hh
          clear hh
          try simp only [Act.put, List.setIfInBounds_toArray, List.set_cons_zero, List.set_cons_succ]
          refine wpAnyH_ready (rs := [6]) (by kernel_rfl) (by simp) ?_
          refine (AllReadyH.cons (o := { dst := some 27, op := Op.call { callee := Callee.builtin Builtin.append, args := #[Operand.tmp 22, Operand.tmp 26], argTypes := #[22, 22] }, type := 22, pos := "file.go:65", after := #[{ on := 1, ground := Ground.data }, { on := 5, ground := Ground.data }, { on := 4, ground := Ground.chain }], guard := none }) rfl (fun K hK => ?_) AllReadyH.nil)
          rw [if_pos (by rfl)]
          refine wp_valE (exec_appE _ _ 22 rfl (.slice av k cv) (.slice (some ⟨w2.heap.size, 0, none⟩) 1 1) _ rfl rfl HAP.out) ?_
          refine hK.out _ _ (HKP.out) (fun hh => ?_)
          clear hK K hHeld
          have hHeld := hh
          clear hh
          try simp only [Act.put, List.setIfInBounds_toArray, List.set_cons_zero, List.set_cons_succ]
          refine wpAnyH_take (i := 7) (oi := { dst := some 28, op := Op.fieldAddr 35 (Operand.tmp 3) 1, type := 0, pos := "file.go:65", after := #[{ on := 0, ground := Ground.phase }, { on := 1, ground := Ground.phase }, { on := 2, ground := Ground.phase }, { on := 3, ground := Ground.phase }, { on := 4, ground := Ground.phase }, { on := 5, ground := Ground.phase }, { on := 6, ground := Ground.phase }], guard := none }) (v := .pointer (some ⟨w.heap.size + 1, 1, none⟩)) rfl (by kernel_rfl) (by kernel_rfl) (by kernel_rfl) (fun _ _ _ h => h) (Or.inl ⟨by rfl, fun w' hw' => by (clear hw'; go_simp)⟩) hHeld ?_
          simp only [Act.put, List.setIfInBounds_toArray, List.set_cons_zero, List.set_cons_succ]
          refine wpAnyH_ready (rs := [8]) (by kernel_rfl) (by simp) ?_
          refine (AllReadyH.cons (o := { dst := none, op := Op.store 22 (Operand.tmp 28) (Operand.tmp 27), type := 0, pos := "file.go:65", after := #[{ on := 7, ground := Ground.data }, { on := 6, ground := Ground.data }, { on := 6, ground := Ground.chain }, { on := 0, ground := Ground.phase }, { on := 1, ground := Ground.phase }, { on := 2, ground := Ground.phase }, { on := 3, ground := Ground.phase }, { on := 4, ground := Ground.phase }, { on := 5, ground := Ground.phase }, { on := 6, ground := Ground.phase }], guard := none }) rfl (fun K hK => ?_) AllReadyH.nil)
          go_simp
          refine hK.out _ _ (HKP.out.setCell (p := ⟨w.heap.size + 1, 1, none⟩) (.inl (.inl rfl)) _) (fun hh => ?_)
          clear hK K hHeld
          have hHeld := hh
          clear hh
          try simp only [Act.put, List.setIfInBounds_toArray, List.set_cons_zero, List.set_cons_succ]
          refine wpAnyH_done (by kernel_rfl) ?_ _
          clear hHeld
          go_wp2_with fail
          go_round
          case rel => exact ⟨k + 1, ad2, cap2, by first | rfl | go_num, by omega, HVI.out⟩
          case measure => simp [intOf]; omega
        · rw [if_pos (by rfl)]
          refine wp_valE (exec_sliceE 22 _ rfl (.agg (b8 (h32 bs)).toArray) _ rfl (run_oneH HOKH.out.1 _)) ?_
          refine hK.out _ _ ((HK2.out.alloc _).ofNo) (fun hh => ?_)
          clear hK K hHeld
          have hHeld := hh
          clear hh
          try simp only [Act.put, List.setIfInBounds_toArray, List.set_cons_zero, List.set_cons_succ]
          refine wpAnyH_ready (rs := [1]) (by kernel_rfl) (by simp) ?_
          refine (AllReadyH.cons (o := { dst := some 22, op := Op.load 22 (Operand.tmp 21), type := 22, pos := "file.go:65", after := #[{ on := 0, ground := Ground.data }], guard := none }) rfl (fun K hK => ?_) AllReadyH.nil)
          have q3 := c3 (w2.alloc (.cells (b8 (h32 bs)).toArray 68)) ((HK2.out.alloc _))
          go_simp
          refine hK.out _ _ ((HK2.out.alloc _).ofNo) (fun hh => ?_)
          clear hK K hHeld
          have hHeld := hh
          clear hh
          try simp only [Act.put, List.setIfInBounds_toArray, List.set_cons_zero, List.set_cons_succ]
          refine wpAnyH_ready (rs := [6]) (by kernel_rfl) (by simp) ?_
          refine (AllReadyH.cons (o := { dst := some 27, op := Op.call { callee := Callee.builtin Builtin.append, args := #[Operand.tmp 22, Operand.tmp 26], argTypes := #[22, 22] }, type := 22, pos := "file.go:65", after := #[{ on := 1, ground := Ground.data }, { on := 5, ground := Ground.data }, { on := 4, ground := Ground.chain }], guard := none }) rfl (fun K hK => ?_) AllReadyH.nil)
          rw [if_pos (by rfl)]
          refine wp_valE (exec_appE _ _ 22 rfl (.slice av k cv) (.slice (some ⟨w2.heap.size, 0, none⟩) 1 1) _ rfl rfl HAP.out) ?_
          refine hK.out _ _ (HKP.out) (fun hh => ?_)
          clear hK K hHeld
          have hHeld := hh
          clear hh
          try simp only [Act.put, List.setIfInBounds_toArray, List.set_cons_zero, List.set_cons_succ]
          refine wpAnyH_take (i := 7) (oi := { dst := some 28, op := Op.fieldAddr 35 (Operand.tmp 3) 1, type := 0, pos := "file.go:65", after := #[{ on := 0, ground := Ground.phase }, { on := 1, ground := Ground.phase }, { on := 2, ground := Ground.phase }, { on := 3, ground := Ground.phase }, { on := 4, ground := Ground.phase }, { on := 5, ground := Ground.phase }, { on := 6, ground := Ground.phase }], guard := none }) (v := .pointer (some ⟨w.heap.size + 1, 1, none⟩)) rfl (by kernel_rfl) (by kernel_rfl) (by kernel_rfl) (fun _ _ _ h => h) (Or.inl ⟨by rfl, fun w' hw' => by (clear hw'; go_simp)⟩) hHeld ?_
          simp only [Act.put, List.setIfInBounds_toArray, List.set_cons_zero, List.set_cons_succ]
          refine wpAnyH_ready (rs := [8]) (by kernel_rfl) (by simp) ?_
          refine (AllReadyH.cons (o := { dst := none, op := Op.store 22 (Operand.tmp 28) (Operand.tmp 27), type := 0, pos := "file.go:65", after := #[{ on := 7, ground := Ground.data }, { on := 6, ground := Ground.data }, { on := 6, ground := Ground.chain }, { on := 0, ground := Ground.phase }, { on := 1, ground := Ground.phase }, { on := 2, ground := Ground.phase }, { on := 3, ground := Ground.phase }, { on := 4, ground := Ground.phase }, { on := 5, ground := Ground.phase }, { on := 6, ground := Ground.phase }], guard := none }) rfl (fun K hK => ?_) AllReadyH.nil)
          go_simp
          refine hK.out _ _ (HKP.out.setCell (p := ⟨w.heap.size + 1, 1, none⟩) (.inl (.inl rfl)) _) (fun hh => ?_)
          clear hK K hHeld
          have hHeld := hh
          clear hh
          try simp only [Act.put, List.setIfInBounds_toArray, List.set_cons_zero, List.set_cons_succ]
          refine wpAnyH_done (by kernel_rfl) ?_ _
          clear hHeld
          go_wp2_with fail
          go_round
          case rel => exact ⟨k + 1, ad2, cap2, by first | rfl | go_num, by omega, HVI.out⟩
          case measure => simp [intOf]; omega
    · have hltI : ¬ (k : Int) < (n : Int) := by omega
      have hkn' : k = n := by omega
      subst hkn'
      have hF := HS.out
      have ek : (kidsH ks).take k = kidsH ks := List.take_of_length_le (by simp [kidsH, HN.out])
      rw [ek] at hF
      obtain ⟨f0, f1, ff, fs, fm, fb⟩ := hF
      have r0 : wr.cell? ⟨w.heap.size, 0, none⟩ = some (.int .i64 0) := by rw [fb.cell (p := ⟨w.heap.size, 0, none⟩) (by simp)]; simp [go_sem]
      have r1 : wr.cell? ⟨w.heap.size, 1, none⟩ = some (.slice none 0 0) := by rw [fb.cell (p := ⟨w.heap.size, 1, none⟩) (by simp)]; simp [go_sem]
      have rf : ∀ o, wr.frozen? ⟨w.heap.size, o, none⟩ = false := fun o => by rw [fb.frozen (p := ⟨w.heap.size, o, none⟩) (by simp)]; simp [go_sem]
      have rs : w.heap.size < wr.heap.size := by omega
      have HFM := hid fm.hv
      clear fb fm ek HS hlt
      go_wp2_with fail
      obtain ⟨q0, q1⟩ := set2_read (u0 := .int .i64 (wrap64 q)) (u1 := .slice av k cv) r0 r1
      refine bodyPost_ret (v := .agg #[.int .i64 (wrap64 q), .slice av k cv]) (by simp [results, Try.results49, go_sem, q0, q1]) rfl ⟨av, k, cv, rfl, ?_, ?_⟩
      · have hkk : Kp (· = w.heap.size) wr ((wr.setCell ⟨w.heap.size, 0, none⟩ (.int .i64 (wrap64 q))).setCell ⟨w.heap.size, 1, none⟩ (.slice av k cv)) := ((Kp.refl (· = w.heap.size) _).setCell (p := ⟨w.heap.size, 0, none⟩) (.inl rfl) _).setCell (p := ⟨w.heap.size, 1, none⟩) (.inl rfl) _
        exact hv_kept2 HFM.out hkk (fun g hg => ⟨by omega, by omega⟩)
      · exact (HB.out.setCell (by simp) _).setCell (by simp) _
end Go.Proofs.Ytenfahecnkdhaaa.Nd
end
