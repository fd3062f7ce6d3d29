/- Of the proof: the texts SgSmall, SgRPutM, TlvRForm, TlvRefForm, FrRPut, one behind the other. -/
import Derived.Test.YtampnikdmgojjaaGreatB14
import Derived.Test.YtampnikdmgojjaaGreatB13
import Derived.Test.YtampnikdmgojjaaGreatB16
import Derived.Test.YtampnikdmgojjaaGreatB7
import Derived.Test.YtampnikdmgojjaaGreatB11
import Derived.Test.YtampnikdmgojjaaGreatB9
import Derived.Deep.LoopGhost
import Derived.Test.YtampnikdmgojjaaGreatB10
section
/-
  The document's small, and an entry that is made of a value's fields: its memory.
-/
namespace Go.Proofs.YtampnikdmgojjaaGreat.Sg
open Go.RowKit
open Tlv (Tr Agree AgreeS RepS BySlS KSlS)
open Sim (hid Kp No)

set_option maxHeartbeats 1000000 in
theorem small_any (tag num : Int) (sb sk : Value) (w : World) (h0 : 0 ≤ num) (h1 : num ≤ 18446744073709551615) (hs : ∃ a l c a' l' c', sb = .slice a l c ∧ sk = .slice a' l' c') :
    Calls Tryz.prog 39 #[.agg #[.int .i64 tag, .int .u64 num, sb, sk]] w fun e w' => e = .returned (.int .i64 (smallI tag num)) ∧ Kp No w w' := by
  obtain ⟨a, l, c, a', l', c', rfl, rfl⟩ := hs
  have HB : Hid (Kp No w (w.alloc (.cells #[.int .i64 tag, .int .u64 num, .slice a l c, .slice a' l' c'] 94))) := (Kp.refl No w).alloc _
  obtain ⟨z, hz⟩ : ∃ z, smallI tag num = z := ⟨_, rfl⟩
  rw [hz]
  by_cases ht : tag = 1
  · subst ht
    by_cases hn : num ≤ 1000000000
    · have hz2 : z = num := by rw [← hz, smallI, if_pos ⟨rfl, hn⟩]
      have hd : decide (1000000000 < num) = false := by simp; omega
      have hn2 : ¬ (1000000000 < num) := by omega
      have hwk : IntKind.i64.wrap num = num := by rw [IntKind.wrap_i64]; omega
      subst hz2
      clear hz
      go_enter Tryz.func39, Tryz.ntmps39
      go_wp2_with fail
      go_ret
      exact ⟨rfl, HB.out⟩
    · have hz2 : z = -1 := by rw [← hz, smallI, if_neg (fun h => hn h.2)]
      have hd : decide (1000000000 < num) = true := by simp; omega
      have hn2 : 1000000000 < num := by omega
      subst hz2
      clear hz
      go_enter Tryz.func39, Tryz.ntmps39
      go_wp2_with fail
      go_ret
      exact ⟨rfl, HB.out⟩
  · have hz2 : z = -1 := by rw [← hz, smallI, if_neg (fun h => ht h.1)]
    have hd : (tag != 1) = true := by simpa using ht
    subst hz2
    clear hz
    go_enter Tryz.func39, Tryz.ntmps39
    go_wp2_with fail
    go_ret
    exact ⟨rfl, HB.out⟩

theorem zeroR (w : World) : (zeroValue 91).run Tryz.prog w = .ok (.agg zE.toArray) w := by kernel_rfl
theorem builtRw (p q r : Int) : Tryz.prog.built 91 [(1, .agg #[.int .i64 p, .int .i64 q, .int .i64 r])] = some (entC (z32, p, q, r)).toArray := by kernel_rfl
theorem infRE (x : Ent) (h : EOk x) : (Tryz.prog.info? 91).map (·.size) = some (entC x).length := by rw [entC_length h]; kernel_rfl
/-- An entry laid where a variable was made a while ago. -/
theorem half_store {W1 X Y : World} {Z : List Value} {p q r : Int} (hZ : Z.length = 35) (h1 : Kp No W1 X) (h2 : Kp No (X.alloc (.cells Z.toArray 91)) Y) :
    Y.there X.heap.size 0 35 ∧ HalfE W1 (Y.setCells X.heap.size 0 (entC (z32, p, q, r))) (z32, p, q, r) X.heap.size ∧ Kp No W1 (Y.setCells X.heap.size 0 (entC (z32, p, q, r))) := by
  have hz := h2.size
  simp at hz
  have ht : (X.alloc (.cells Z.toArray 91)).there X.heap.size 0 35 := by
    have h := there_new X Z 91
    rwa [hZ] at h
  have hY : Y.there X.heap.size 0 35 := there_below ht h2.toBelow' (by simp)
  have hk : Kp No W1 Y := (h1.alloc _).andNone h2
  have hl : (entC (z32, p, q, r)).length = 35 := entC_length (z32_ok p q r)
  have hk2 : Kp No W1 (Y.setCells X.heap.size 0 (entC (z32, p, q, r))) := hk.trans (setCells_kp _ X.heap.size 0 _) (fun x hx => .inr (by rw [hx]; exact h1.size))
  refine ⟨hY, ⟨hk2.toBelow', h1.size, by rw [setCells_size]; omega, World.rangeAt_setCells_same _ _ _ _ (by rw [hl]; exact hY), World.there_setCells hY _ _ _⟩, hk2⟩
/-- The first j bytes of a name, noughts behind them. -/
def padTo (bn : List Int) (j : Nat) : List Int := bn.take j ++ List.replicate (32 - j) 0
theorem padTo_zero (bn : List Int) : padTo bn 0 = z32 := by simp [padTo, z32]
theorem padTo_full {bn : List Int} (h : bn.length = 32) : padTo bn 32 = bn := by rw [padTo, List.take_of_length_le (by omega)]; simp
theorem padTo_ok {bn : List Int} (hl : bn.length = 32) (h : ∀ x ∈ bn, 0 ≤ x ∧ x ≤ 255) {j : Nat} (hj : j ≤ 32) (p q r : Int) : EOk (padTo bn j, p, q, r) := by
  refine ⟨by simp [padTo]; omega, fun x hx => ?_⟩
  rcases List.mem_append.1 hx with hx | hx
  · exact h x (List.mem_of_mem_take hx)
  · have := (List.mem_replicate.1 hx).2; subst this; decide
theorem half_next {W1 W : World} {bn : List Int} {p q r : Int} {g j : Nat} (h : HalfE W1 W (padTo bn j, p, q, r) g) (hl : bn.length = 32) (hj : j < 32) :
    W.cell? ⟨g, j, none⟩ = some (.int .u8 0) ∧ W.frozen? ⟨g, j, none⟩ = false ∧ g < W.heap.size ∧ HalfE W1 (W.setCell ⟨g, j, none⟩ (.int .u8 (bn.getD j 0))) (padTo bn (j + 1), p, q, r) g ∧ W1.heap.size ≤ g := by
  obtain ⟨h1, h2, h3, h4, h5⟩ := h
  have hn : ∀ i, i < 32 → (entC (padTo bn j, p, q, r))[i]? = some (.int .u8 ((padTo bn j).getD i 0)) := fun i hi => by
    have hpl : (padTo bn j).length = 32 := by simp [padTo]; omega
    unfold entC
    rw [List.getElem?_append_left (by rw [b8_length]; show i < (padTo bn j).length; omega)]
    simp [b8, List.getElem?_eq_getElem (show i < (padTo bn j).length by omega)]
  have hcj : W.cell? ⟨g, j, none⟩ = some (.int .u8 0) := by
    have := h4 j _ (hn j hj)
    rw [Nat.zero_add] at this
    rw [this]
    have : (padTo bn j).getD j 0 = 0 := by
      rw [padTo, List.getD_eq_getElem?_getD, List.getElem?_append_right (by simp; omega)]
      simp [List.getElem?_replicate]
      split <;> rfl
    rw [this]
  have hfr := (h5 j (by omega)).2
  rw [Nat.zero_add] at hfr
  refine ⟨hcj, hfr, h3, ⟨h1.trans ?_, h2, by simpa using h3, fun i v hv => ?_, fun i hi => ?_⟩, h2⟩
  · exact (((Kp.refl (fun x => x = g) W).setCell (p := ⟨g, j, none⟩) (.inl rfl) _ : Kp (fun x => x = g) W _).under (Below.refl _ _) (fun x hx => by omega) (Nat.le_of_lt (Nat.lt_of_le_of_lt h2 h3)))
  · rw [Nat.zero_add]
    have hil : i < 35 := by
      have := (List.getElem?_eq_some_iff.1 hv).1
      rwa [show (entC (padTo bn (j + 1), p, q, r)).length = 35 by unfold entC; simp [b8_length, padTo]; omega] at this
    by_cases hij : i = j
    · subst hij
      rw [World.cell?_setCell_same W ⟨g, i, none⟩ _ (u := .int .u8 0) hcj, ← hv]
      unfold entC
      rw [List.getElem?_append_left (by rw [b8_length]; simp [padTo]; omega)]
      have : (padTo bn (i + 1))[i]? = some (bn.getD i 0) := by
        rw [padTo, List.getElem?_append_left (by simp; omega), List.getElem?_take_of_lt (by omega), List.getElem?_eq_getElem (by omega)]
        simp [List.getElem?_eq_getElem (show i < bn.length by omega)]
      simp [b8, this]
    · rw [World.cell?_setCell_other W ⟨g, j, none⟩ ⟨g, i, none⟩ _ (by simp only [ne_eq, Addr.mk.injEq, and_true, true_and]; omega)]
      have := h4 i v (by
        rw [← hv]
        unfold entC
        by_cases hi : i < 32
        · rw [List.getElem?_append_left (by rw [b8_length]; simp [padTo]; omega), List.getElem?_append_left (by rw [b8_length]; simp [padTo]; omega)]
          have : (padTo bn j)[i]? = (padTo bn (j + 1))[i]? := by
            rw [padTo, padTo]
            by_cases h : i < j
            · rw [List.getElem?_append_left (by simp; omega), List.getElem?_append_left (by simp; omega), List.getElem?_take_of_lt h, List.getElem?_take_of_lt (by omega)]
            · rw [List.getElem?_append_right (by simp; omega), List.getElem?_append_right (by simp; omega), List.getElem?_replicate, List.getElem?_replicate]
              simp only [List.length_take]
              rw [if_pos (by omega), if_pos (by omega)]
          simp [b8, this]
        · rw [List.getElem?_append_right (by rw [b8_length]; simp [padTo]; omega), List.getElem?_append_right (by rw [b8_length]; simp [padTo]; omega)]
          simp only [b8_length]
          rw [show (padTo bn j).length = 32 by simp [padTo]; omega, show (padTo bn (j + 1)).length = 32 by simp [padTo]; omega])
      rw [Nat.zero_add] at this
      exact this
  · obtain ⟨q1, q2⟩ := h5 i hi
    refine ⟨?_, by rw [World.frozen?_setCell]; exact q2⟩
    rw [Nat.zero_add] at q1 ⊢
    by_cases hij : i = j
    · subst hij
      rw [World.cell?_setCell_same W ⟨g, i, none⟩ _ (u := .int .u8 0) hcj]
      rfl
    · rw [World.cell?_setCell_other W ⟨g, j, none⟩ ⟨g, i, none⟩ _ (by simp only [ne_eq, Addr.mk.injEq, and_true, true_and]; omega)]
      exact q1
end Go.Proofs.YtampnikdmgojjaaGreat.Sg
end

section
/-
  The document's number, and a list of the document's values that grows: its memory.
-/
namespace Go.Proofs.YtampnikdmgojjaaGreat.Sg
open Go.RowKit
open Tlv (Tr Agree AgreeS RepS cellsK cell4)
open Sim (hid Kp No)

theorem infoV : (Tryz.prog.info? 94).map (fun i => (i.zero, i.size, i.bytes)) = some (some (.agg #[.int .i64 0, .int .u64 0, .slice none 0 0, .slice none 0 0]), 4, 64) := by kernel_rfl

set_option maxHeartbeats 1000000 in
theorem rnum_any (n : Int) (w : World) (h0 : 0 ≤ n) (h1 : n ≤ 1000000) : Calls Tryz.prog 31 #[.int .i64 n] w fun e w' => e = .returned (.agg #[.int .i64 1, .int .u64 n, .slice none 0 0, .slice none 0 0]) ∧ Kp No w w' := by
  have hwk : IntKind.u64.wrap n = n := by rw [IntKind.wrap_u64]; omega
  clear h0 h1
  go_enter Tryz.func31, Tryz.ntmps31
  go_wp2
  refine bodyPost_ret (v := .agg #[.int .i64 1, .int .u64 n, .slice none 0 0, .slice none 0 0]) (by simp [results, Tryz.results31, go_sem]) rfl ⟨rfl, ?_⟩
  exact (Kp.refl No w).alloc _

/-- A row of values of the call's own; what they hold lies in other blocks. -/
def KInv {n : Nat} (Z : Nat → Prop) (base : Nat) (ts : List (Tr n)) (v : Value) (w : World) : Prop :=
  ∃ ps : List (Value × Value), ps.length = ts.length ∧ w.ownsRow base 94 4 v ts.length (cellsK ts ps) ∧ ∀ (j : Nat) (t : Tr n) (p : Value × Value), ts[j]? = some t → ps[j]? = some p → RepS (fun b => Z b ∧ b < w.heap.size ∧ v.ownBlock ≠ some b) w n t p.1 p.2
theorem KInv.nil {n : Nat} (Z : Nat → Prop) (base : Nat) (w : World) : KInv Z base ([] : List (Tr n)) (.slice none 0 0) w := ⟨[], rfl, World.ownsRow_nil _ _ _ _, by simp⟩
theorem cell4_one {n : Nat} {t : Tr n} {S : Nat → Prop} {w : World} {sb sk : Value} (h : RepS S w n t sb sk) : ∀ u ∈ cell4 t (sb, sk), u.oneCell' = true := by
  obtain ⟨_, _, _, _, _, _, rfl, rfl⟩ := h.sl
  intro u hu
  simp only [cell4, List.mem_cons, List.not_mem_nil, or_false] at hu
  rcases hu with rfl | rfl | rfl | rfl <;> rfl
theorem KInv.kp {Z : Nat → Prop} {n base : Nat} {ts : List (Tr n)} {v : Value} {w w' : World} (h : KInv Z base ts v w) (k : Kp No w w') : KInv Z base ts v w' := by
  obtain ⟨ps, h1, h2, h3⟩ := h
  refine ⟨ps, h1, ⟨h2.1, ?_⟩, fun j t p ht hp => (h3 j t p ht hp).agree (fun b hb => k.block b hb.2.1 (fun x => x)) (fun b hb => ⟨hb.1, Nat.lt_of_lt_of_le hb.2.1 k.size, hb.2.2⟩)⟩
  rcases h2.2 with hn | ⟨g, cap, cur, rfl, hb, hgg, rest⟩
  · exact .inl hn
  · exact .inr ⟨g, cap, cur, rfl, hb, by rw [k.block g (Array.getElem?_eq_some_iff.1 hgg).1 (fun x => x)]; exact hgg, rest⟩
theorem KInv.push {Z : Nat → Prop} {n base k cv : Nat} {ts : List (Tr n)} {t : Tr n} {av : Option Addr} {sb sk : Value} (w : World) (hk : ts.length = k) (h : KInv Z base ts (.slice av k cv) w) (hb : base ≤ w.heap.size) (hr : RepS (fun b => Z b ∧ b < w.heap.size ∧ (Value.slice av k cv).ownBlock ≠ some b) w n t sb sk) (hl : k + 1 ≤ 2000000) (ty : TypeId) :
    ∃ g' cap w', (Builtin.append_ #[92, 92] ty #[.slice av k cv, .slice (some ⟨w.heap.size, 0, none⟩) 1 1]).run Tryz.prog (w.alloc (.cells #[.int .i64 t.hd.1, .int .u64 t.hd.2.1, sb, sk] 94)) = .ok (.slice (some ⟨g', 0, none⟩) (k + 1) cap) w' ∧
      KInv Z base (ts ++ [t]) (.slice (some ⟨g', 0, none⟩) (k + 1) cap) w' ∧ (w.alloc (.cells #[.int .i64 t.hd.1, .int .u64 t.hd.2.1, sb, sk] 94)).grownBy w' (Value.slice av k cv).ownBlock ∧ base ≤ g' := by
  obtain ⟨i0, hi, hz0, hz1, hz2⟩ := info_parts infoV
  have kA : Kp No w (w.alloc (.cells #[.int .i64 t.hd.1, .int .u64 t.hd.2.1, sb, sk] 94)) := (Kp.refl No w).alloc _
  obtain ⟨ps, hl2, hown0, hkid⟩ := h
  have hown : (w.alloc (.cells #[.int .i64 t.hd.1, .int .u64 t.hd.2.1, sb, sk] 94)).ownsRow base 94 4 (.slice av k cv) ts.length (cellsK ts ps) := by
    refine ⟨hown0.1, ?_⟩
    rcases hown0.2 with hn | ⟨g, cap, cur, e, hb, hgg, rest⟩
    · exact .inl hn
    · exact .inr ⟨g, cap, cur, e, hb, by rw [kA.block g (Array.getElem?_eq_some_iff.1 hgg).1 (fun x => x)]; exact hgg, rest⟩
  rw [hk] at hown
  obtain ⟨g', cap, w', hrun, ho, hgr, hat, hlt'⟩ := run_append_lies (P := Tryz.prog) (w.alloc (.cells #[.int .i64 t.hd.1, .int .u64 t.hd.2.1, sb, sk] 94)) 92 ty base 94 i0 _ 4 64 Tryz.underlying92 hi hz0 hz1 hz2 rfl (by decide) (.slice av k cv) k (cellsK ts ps) hown ⟨w.heap.size, 0, none⟩ 1 1 (cell4 t (sb, sk)) rfl
    (World.news_of_block (cs := #[.int .i64 t.hd.1, .int .u64 t.hd.2.1, sb, sk]) (t := 94) (fr := (0, 0)) (heap_alloc_new w _)) (cell4_one hr) (by omega) (by unfold maxLen; omega) (by omega) (by simp; omega) _ rfl
  have hgS : ∀ b, (Z b ∧ b < w.heap.size ∧ (Value.slice av k cv).ownBlock ≠ some b) → w'.heap[b]? = w.heap[b]? ∧ Z b ∧ b < w'.heap.size ∧ (Value.slice (some ⟨g', 0, none⟩) (k + 1) cap).ownBlock ≠ some b := fun b hb => by
    have hz := hgr.size
    simp at hz
    refine ⟨(hgr.block b (by simp; omega) (fun e => hb.2.2 e.symm)).trans (kA.block b hb.2.1 (fun x => x)), hb.1, by omega, fun e => ?_⟩
    simp only [Value.ownBlock, Option.some.injEq] at e
    subst e
    rcases hat with hat | hat
    · exact hb.2.2 hat
    · simp at hat; omega
  refine ⟨g', cap, w', hrun, ⟨ps ++ [(sb, sk)], by simp [hl2], ?_, ?_⟩, hgr, ?_⟩
  · rw [Tlv.cellsK_snoc _ _ _ _ hl2, List.length_append, hk]
    exact ho
  · intro j t' p hj hp
    by_cases hltj : j < ts.length
    · rw [List.getElem?_append_left hltj] at hj
      rw [List.getElem?_append_left (by omega)] at hp
      exact (hkid j t' p hj hp).agree (fun b hb => (hgS b hb).1) (fun b hb => (hgS b hb).2)
    · have : j = ts.length := by
        have := (List.getElem?_eq_some_iff.1 hj).1
        simp at this
        omega
      subst this
      rw [List.getElem?_append_right (Nat.le_refl _)] at hj
      rw [List.getElem?_append_right (by omega)] at hp
      simp at hj
      simp [hl2] at hp
      subst hj
      subst hp
      exact hr.agree (fun b hb => (hgS b hb).1) (fun b hb => (hgS b hb).2)
  · exact (World.ownsRow.lt ho g' rfl).1
theorem KInv.set {Z : Nat → Prop} {n base x j : Nat} {ts : List (Tr n)} {v : Value} {w : World} (h : KInv Z base ts v w) (hx : x < base) (hZ : ¬ Z x) (u : Value) : KInv Z base ts v (w.setCell ⟨x, j, none⟩ u) := by
  have k : Kp (fun y => y = x) w (w.setCell ⟨x, j, none⟩ u) := (Kp.refl (fun y => y = x) w).setCell (p := ⟨x, j, none⟩) (.inl rfl) u
  obtain ⟨ps, h1, h2, h3⟩ := h
  refine ⟨ps, h1, ⟨h2.1, ?_⟩, fun j t p ht hp => (h3 j t p ht hp).agree (fun b hb => k.block b hb.2.1 (fun e => hZ (e ▸ hb.1))) (fun b hb => ⟨hb.1, Nat.lt_of_lt_of_le hb.2.1 k.size, hb.2.2⟩)⟩
  rcases h2.2 with hn | ⟨g, cap, cur, rfl, hb, hgg, rest⟩
  · exact .inl hn
  · exact .inr ⟨g, cap, cur, rfl, hb, by rw [k.block g (Array.getElem?_eq_some_iff.1 hgg).1 (by omega)]; exact hgg, rest⟩

/-- The variable at block w1.heap.size holds a list's value: the first k entries'. -/
def RI (w1 : World) (d : List Ent) (k : Nat) (v : Value) (wr : World) : Prop :=
  wr.cell? ⟨w1.heap.size, 0, none⟩ = some (.int .i64 3) ∧ wr.cell? ⟨w1.heap.size, 1, none⟩ = some (.int .u64 0) ∧ wr.cell? ⟨w1.heap.size, 2, none⟩ = some (.slice none 0 0) ∧ wr.cell? ⟨w1.heap.size, 3, none⟩ = some v ∧
    (∀ o, wr.frozen? ⟨w1.heap.size, o, none⟩ = false) ∧ w1.heap.size < wr.heap.size ∧ KInv (fun b => b ≠ w1.heap.size) (w1.heap.size + 1) ((d.map entT).take k) v wr ∧ Kp No w1 wr
theorem RI.start (w1 : World) (d : List Ent) : RI w1 d 0 (.slice none 0 0) (w1.alloc (.cells #[.int .i64 3, .int .u64 0, .slice none 0 0, .slice none 0 0] 94)) :=
  ⟨by simp, by simp, by simp, by simp, by simp, by simp, by simpa using KInv.nil _ _ _, (Kp.refl No w1).alloc _⟩
theorem KInv.lt {Z : Nat → Prop} {n base : Nat} {ts : List (Tr n)} {v : Value} {w : World} (h : KInv Z base ts v w) : ∀ r, v.ownBlock = some r → base ≤ r ∧ r < w.heap.size := by
  obtain ⟨ps, _, h2, _⟩ := h
  exact World.ownsRow.lt h2
theorem RI.step {w1 wr W2 : World} {d : List Ent} {k cv : Nat} {av : Option Addr} {e : Ent} {sb sk : Value} (h : RI w1 d k (.slice av k cv) wr) (hk : Kp No wr W2) (hr : RepS (fun b => b ≠ w1.heap.size ∧ b < W2.heap.size ∧ (Value.slice av k cv).ownBlock ≠ some b) W2 2 (entT e) sb sk) (he : d[k]? = some e) (hl : k + 1 ≤ 2000000) (ty : TypeId) :
    ∃ g' cap w4, (Builtin.append_ #[92, 92] ty #[.slice av k cv, .slice (some ⟨W2.heap.size, 0, none⟩) 1 1]).run Tryz.prog (W2.alloc (.cells #[.int .i64 3, .int .u64 0, sb, sk] 94)) = .ok (.slice (some ⟨g', 0, none⟩) (k + 1) cap) w4 ∧
      w4.cell? ⟨w1.heap.size, 3, none⟩ = some (.slice av k cv) ∧ w4.frozen? ⟨w1.heap.size, 3, none⟩ = false ∧ w1.heap.size < w4.heap.size ∧
      RI w1 d (k + 1) (.slice (some ⟨g', 0, none⟩) (k + 1) cap) (w4.setCell ⟨w1.heap.size, 3, none⟩ (.slice (some ⟨g', 0, none⟩) (k + 1) cap)) ∧ Kp (fun x => x = w1.heap.size ∨ (Value.slice av k cv).ownBlock = some x) W2 w4 := by
  obtain ⟨h0, h1, h2, h3, hf, hs, hc, hw⟩ := h
  have hlk : ((d.map entT).take k).length = k := by
    have := (List.getElem?_eq_some_iff.1 he).1
    rw [List.length_take, List.length_map]
    omega
  have hz1 := hk.size
  have hc2 := hc.kp hk
  obtain ⟨g', cap, w4, hrun, hC, hgr, hg'⟩ := KInv.push W2 hlk hc2 (by omega) hr hl ty
  have hne : ∀ r, (Value.slice av k cv).ownBlock = some r → w1.heap.size + 1 ≤ r := fun r hr => (hc.lt r hr).1
  have hnb : some w1.heap.size ≠ (Value.slice av k cv).ownBlock := fun e => by have := hne _ e.symm; omega
  have hzg := hgr.size
  simp at hzg
  have cc : ∀ j, w4.cell? ⟨w1.heap.size, j, none⟩ = wr.cell? ⟨w1.heap.size, j, none⟩ := fun j => by
    rw [hgr.cell_far ⟨w1.heap.size, j, none⟩ (by simp; omega) hnb, World.cell?_alloc_past _ _ _ (by omega)]
    exact hk.cell (p := ⟨w1.heap.size, j, none⟩) hs (fun x => x)
  have cf : ∀ j, w4.frozen? ⟨w1.heap.size, j, none⟩ = false := fun j => by
    rw [hgr.frozen_far ⟨w1.heap.size, j, none⟩ (by simp; omega) hnb, World.frozen?_alloc_past _ _ _ (by omega), hk.frozen (p := ⟨w1.heap.size, j, none⟩) hs (fun x => x)]
    exact hf j
  have htake : (d.map entT).take (k + 1) = (d.map entT).take k ++ [entT e] := by
    rw [List.take_add_one, List.getElem?_map, he]
    rfl
  have hKp : Kp (fun x => x = w1.heap.size ∨ (Value.slice av k cv).ownBlock = some x) W2 w4 := ((Kp.refl _ W2).alloc _).grown hgr (fun x hx => .inl (.inr hx))
  refine ⟨g', cap, w4, hrun, (cc 3).trans h3, cf 3, by omega, ⟨?_, ?_, ?_, ?_, fun o => ?_, ?_, ?_, ?_⟩, hKp⟩
  · rw [Sim.cell_other (by omega)]; exact (cc 0).trans h0
  · rw [Sim.cell_other (by omega)]; exact (cc 1).trans h1
  · rw [Sim.cell_other (by omega)]; exact (cc 2).trans h2
  · exact World.cell?_setCell_same _ _ _ ((cc 3).trans h3)
  · rw [World.frozen?_setCell]; exact cf o
  · simp; omega
  · rw [htake]
    exact hC.set (by omega) (fun h => h rfl) _
  · have k1 : Kp No w1 w4 := (hw.andNone hk).trans hKp (fun x hx => by
      rcases hx with rfl | hx
      · exact .inr (Nat.le_refl _)
      · exact .inr (Nat.le_of_succ_le (hne x hx)))
    exact k1.setCell (p := ⟨w1.heap.size, 3, none⟩) (.inr (Nat.le_refl _)) _

/-- An entry's value of the document's, as it was just laid: its four values at gs, its name in block g. -/
theorem four_S {w : World} {gs g : Nat} (nm : List Int) (p q r : Int) (vn : Value) (h0 : 0 ≤ p ∧ p ≤ 1000000) (h1 : 0 ≤ q ∧ q ≤ 1000000) (h2 : 0 ≤ r ∧ r ≤ 1000000) (S : Nat → Prop) (hg : S g) (hgs : S gs) (bn : Tlv.BySlS (fun b => b = g) w vn nm)
    (hc : ∀ j, j < 16 → w.cell? ⟨gs, j, none⟩ = (#[.int .i64 2, .int .u64 0, vn, .slice none 0 0, .int .i64 1, .int .u64 p, .slice none 0 0, .slice none 0 0, .int .i64 1, .int .u64 q, .slice none 0 0, .slice none 0 0, .int .i64 1, .int .u64 r, .slice none 0 0, .slice none 0 0] : Array Value)[j]?) :
    RepS S w 2 (entT (nm, p, q, r)) (.slice none 0 0) (.slice (some ⟨gs, 0, none⟩) 4 4) := by
  have num : ∀ x : Int, 0 ≤ x → x ≤ 1000000 → RepS S w 1 (Tr.mk 1 x [] []) (.slice none 0 0) (.slice none 0 0) := fun x a b => ⟨a, Int.le_trans b (by decide), Tlv.BySlS.none _ _, Tlv.KSlS.none _ _ _⟩
  have bnS : Tlv.BySlS S w vn nm := bn.agree (fun _ _ => rfl) (fun b hb => by rw [hb]; exact hg)
  refine ⟨Int.le_refl 0, (by decide : (0 : Int) ≤ 18446744073709551615), Tlv.BySlS.none _ _, _, 4, rfl, Nat.le_refl _, by decide, by simp, (by decide : (4 : Nat) ≤ 2199023255552), fun _ => ⟨gs, 0, rfl, hgs, fun j t hj => ?_⟩⟩
  have hj' : [(Tr.mk 2 0 nm [] : Tr 1), Tr.mk 1 p [] [], Tr.mk 1 q [] [], Tr.mk 1 r [] []][j]? = some t := hj
  match j, hj' with
  | 0, hj =>
    simp only [List.getElem?_cons_zero, Option.some.injEq] at hj
    subst hj
    exact ⟨_, _, hc 0 (by omega), hc 1 (by omega), hc 2 (by omega), hc 3 (by omega), Int.le_refl 0, (by decide : (0 : Int) ≤ 18446744073709551615), bnS, Tlv.KSlS.none _ _ _⟩
  | 1, hj =>
    simp only [List.getElem?_cons_succ, List.getElem?_cons_zero, Option.some.injEq] at hj
    subst hj
    exact ⟨_, _, hc 4 (by omega), hc 5 (by omega), hc 6 (by omega), hc 7 (by omega), num p h0.1 h0.2⟩
  | 2, hj =>
    simp only [List.getElem?_cons_succ, List.getElem?_cons_zero, Option.some.injEq] at hj
    subst hj
    exact ⟨_, _, hc 8 (by omega), hc 9 (by omega), hc 10 (by omega), hc 11 (by omega), num q h1.1 h1.2⟩
  | 3, hj =>
    simp only [List.getElem?_cons_succ, List.getElem?_cons_zero, Option.some.injEq] at hj
    subst hj
    exact ⟨_, _, hc 12 (by omega), hc 13 (by omega), hc 14 (by omega), hc 15 (by omega), num r h2.1 h2.2⟩
end Go.Proofs.YtampnikdmgojjaaGreat.Sg
end

section
/-
  Plain mathematics: the form as the reference makes it is the form.
-/
namespace Go.Proofs.YtampnikdmgojjaaGreat.Tlv

/-- A list's forms behind one another, as the reference puts them together. -/
def rformL {α : Type} (f : α → Option (List Int)) : List Int → List α → Option (List Int)
  | acc, [] => some acc
  | acc, k :: ks => match f k with
    | none => none
    | some x => if 65535 < acc.length then none else rformL f (acc ++ x) ks

/-- What is behind the first three bytes, as the reference makes it. -/
def rbody {n : Nat} (f : Tr n → Option (List Int)) (t : Tr (n + 1)) (deep : Nat) : Option (List Int) :=
  if t.hd.1 = 1 then (if t.hd.2.2 ≠ [] ∨ t.kd ≠ [] then none else some (numB (nsz t.hd.2.1).toNat t.hd.2.1))
  else if t.hd.1 = 2 then (if t.hd.2.1 ≠ 0 ∨ t.kd ≠ [] then none else some t.hd.2.2)
  else if t.hd.1 = 3 then (if t.hd.2.1 ≠ 0 ∨ t.hd.2.2 ≠ [] ∨ deep = 0 then none else rformL f [] t.kd)
  else none

/-- The form, as the reference makes it. -/
def rform : (n : Nat) → Tr n → Nat → Option (List Int)
  | 0, t, _ => by cases t
  | n + 1, t, deep => match rbody (fun k => rform n k (deep - 1)) t deep with
    | none => none
    | some b => if 65535 < b.length then none else some (t.hd.1 :: ((b.length : Int) / 256) :: ((b.length : Int) % 256) :: b)

theorem form_len (n : Nat) (t : Tr n) : (formOf n t).length = 3 + (bodyOf n t).length := by simp [formOf]; omega

theorem rformL_le {α : Type} {f : α → Option (List Int)} : ∀ (ks : List α) (acc r : List Int), rformL f acc ks = some r → acc.length ≤ r.length
  | [], acc, r, h => by simp only [rformL, Option.some.injEq] at h; subst h; exact Nat.le_refl _
  | k :: ks, acc, r, h => by
    simp only [rformL] at h
    split at h
    · simp at h
    · rename_i x hx
      split at h
      · simp at h
      · have := rformL_le ks _ _ h
        simp at this
        omega

theorem rformL_yes {n d : Nat} {f : Tr n → Option (List Int)} (hf : ∀ k, f k = if (bsz n k 65535 d).2 then some (formOf n k) else none) : ∀ (ks : List (Tr n)) (acc : List Int),
    (lszGo (bsz n) 65535 ((d : Int) + 1) acc.length ks).2 = true → rformL f acc ks = some (acc ++ (ks.map (formOf n)).flatten)
  | [], acc, _ => by simp [rformL]
  | k :: ks, acc, h => by
    simp only [lszGo] at h
    split at h
    · rename_i hk
      rw [show (d : Int) + 1 - 1 = d by omega] at hk h
      have hfit := bsz_fits _ _ _ _ hk
      have hlen := bsz_len _ _ _ _ hk
      have hk2 := bsz_mono n k _ 65535 d hk (by omega) (by omega)
      have hl := form_len n k
      simp only [rformL]
      rw [hf k, if_pos hk2]
      simp only
      have e : (((acc.length + (3 + (bodyOf n k).length) : Nat)) : Int) = (acc.length : Int) + (3 + (bsz n k (65535 - (acc.length : Int) - 3) d).1) := by omega
      rw [if_neg (by omega), rformL_yes hf ks (acc ++ formOf n k) (by rw [List.length_append, hl, e]; exact h)]
      simp
    · simp at h

theorem rformL_no {n d : Nat} {f : Tr n → Option (List Int)} (hf : ∀ k, f k = if (bsz n k 65535 d).2 then some (formOf n k) else none) : ∀ (ks : List (Tr n)) (acc r : List Int),
    rformL f acc ks = some r → r.length ≤ 65535 → (lszGo (bsz n) 65535 ((d : Int) + 1) acc.length ks).2 = true
  | [], _, _, _, _ => rfl
  | k :: ks, acc, r, h, hr => by
    simp only [rformL] at h
    rw [hf k] at h
    by_cases hk : (bsz n k 65535 d).2 = true
    · rw [if_pos hk] at h
      simp only at h
      split at h
      · simp at h
      · have hle := rformL_le ks _ _ h
        have ih := rformL_no hf ks _ _ h hr
        have hl := form_len n k
        rw [List.length_append, hl] at hle ih
        have hk2 := bsz_mono n k _ (65535 - (acc.length : Int) - 3) d hk (by omega) (by omega)
        have hlen := bsz_len _ _ _ _ hk2
        simp only [lszGo]
        rw [show (d : Int) + 1 - 1 = d by omega, if_pos hk2]
        have e : (((acc.length + (3 + (bodyOf n k).length) : Nat)) : Int) = (acc.length : Int) + (3 + (bsz n k (65535 - (acc.length : Int) - 3) d).1) := by omega
        rw [← e]
        exact ih
    · rw [if_neg hk] at h
      simp at h

theorem rform_eq : ∀ (n : Nat) (t : Tr n) (d : Nat), rform n t d = if (bsz n t 65535 d).2 then some (formOf n t) else none
  | 0, t, _ => by cases t
  | n + 1, t, d => by
    have fin : ∀ b, bodyOf (n + 1) t = b → (t.hd.1 :: ((b.length : Int) / 256) :: ((b.length : Int) % 256) :: b) = formOf (n + 1) t := by
      intro b e
      simp only [formOf]
      rw [e]
    by_cases ho : oeB t.hd.1 t.hd.2.1 t.hd.2.2.length t.kd.length = true
    · obtain ⟨o1, o2, o3⟩ := oeB_iff.1 ho
      have hbs : t.hd.1 ≠ 2 → t.hd.2.2 = [] := fun h => List.eq_nil_of_length_eq_zero (by omega)
      have hkd : t.hd.1 ≠ 3 → t.kd = [] := fun h => List.eq_nil_of_length_eq_zero (by omega)
      rw [bsz_yes (by omega) ho]
      simp only [rform, rbody]
      by_cases h1 : t.hd.1 = 1
      · rw [if_pos h1, if_pos h1, if_neg (by simp [hbs (by omega), hkd (by omega)])]
        have hb := bodyOf_1 h1
        have := nsz_bd t.hd.2.1
        simp only
        rw [if_neg (by rw [numB_length]; omega), fin _ hb, if_pos (by simp; omega)]
      · rw [if_neg h1, if_neg h1]
        by_cases h2 : t.hd.1 = 2
        · rw [if_pos h2, if_pos h2, if_neg (by simp [hkd (by omega)]; omega)]
          have hb := bodyOf_2 h2
          simp only
          rw [fin _ hb]
          by_cases hl : 65535 < t.hd.2.2.length
          · rw [if_pos hl, if_neg (by simp; omega)]
          · rw [if_neg hl, if_pos (by simp; omega)]
        · rw [if_neg h2, if_neg h2]
          by_cases h3 : t.hd.1 = 3
          · rw [if_pos h3, if_pos h3]
            unfold lsz
            by_cases hd : d = 0
            · subst hd
              simp
            · rw [if_neg (by simp [hbs (by omega), hd]; omega), if_neg (show ¬ ((d : Int) = 0) by omega)]
              obtain ⟨d', rfl⟩ : ∃ d', d = d' + 1 := ⟨d - 1, by omega⟩
              have hb := bodyOf_kids h3
              have hf : ∀ k, (fun k => rform n k (d' + 1 - 1)) k = if (bsz n k 65535 d').2 then some (formOf n k) else none := fun k => rform_eq n k d'
              have hcast : (((d' + 1 : Nat)) : Int) = (d' : Int) + 1 := by omega
              rw [hcast]
              by_cases hg : (lszGo (bsz n) 65535 ((d' : Int) + 1) 0 t.kd).2 = true
              · rw [if_pos hg, rformL_yes hf t.kd [] hg]
                have hbd := lszGo_bd (bsz_fits n) 65535 ((d' : Int) + 1) t.kd 0 (by omega) (by omega) hg
                have hln := (lszGo_len (bsz_len n) 65535 ((d' : Int) + 1) t.kd 0 hg).1
                simp only [List.nil_append]
                rw [if_neg (by omega), fin _ hb]
              · rw [if_neg hg]
                split
                · rfl
                · rename_i r hr
                  by_cases hl : 65535 < r.length
                  · rw [if_pos hl]
                  · exact absurd (rformL_no hf t.kd [] r hr (by omega)) hg
          · rw [if_neg h3, if_neg h3]
            rfl
    · have ho' : oeB t.hd.1 t.hd.2.1 t.hd.2.2.length t.kd.length = false := by simpa using ho
      rw [bsz_no (.inr ho'), if_neg (by simp)]
      have hno : ¬ ((t.hd.1 = 1 ∨ t.hd.2.1 = 0) ∧ (t.hd.1 = 2 ∨ t.hd.2.2.length = 0) ∧ (t.hd.1 = 3 ∨ t.kd.length = 0)) := fun h => ho (oeB_iff.2 h)
      have hb0 : t.hd.2.2 = [] ↔ t.hd.2.2.length = 0 := List.length_eq_zero_iff.symm
      have hk0 : t.kd = [] ↔ t.kd.length = 0 := List.length_eq_zero_iff.symm
      have : rbody (fun k => rform n k (d - 1)) t d = none := by
        unfold rbody
        split
        · rw [if_pos (by rw [ne_eq, ne_eq, hb0, hk0]; omega)]
        · split
          · rw [if_pos (by rw [ne_eq, ne_eq, hk0]; omega)]
          · split
            · rw [if_pos (by rw [ne_eq, ne_eq, hb0]; omega)]
            · rfl
      simp only [rform]
      rw [this]

end Go.Proofs.YtampnikdmgojjaaGreat.Tlv
end

section
/-
  What the reference's form makes of a tree.
-/
namespace Go.Proofs.YtampnikdmgojjaaGreat.Tlv
open Go.RowKit
attribute [local go_sem ↓] Go.wp_at_zero Go.wp_at_succ

/-- What is behind the first three bytes, by the value's parts. -/
def rbodyC {α : Type} (f : α → Option (List Int)) (tag num : Int) (bs : List Int) (ks : List α) (deep : Nat) : Option (List Int) :=
  if tag = 1 then (if bs ≠ [] ∨ ks ≠ [] then none else some (numB (nsz num).toNat num))
  else if tag = 2 then (if num ≠ 0 ∨ ks ≠ [] then none else some bs)
  else if tag = 3 then (if num ≠ 0 ∨ bs ≠ [] ∨ deep = 0 then none else rformL f [] ks)
  else none

theorem rform_parts {n : Nat} (t : Tr (n + 1)) (d : Nat) : rform (n + 1) t d = match rbodyC (fun k => rform n k (d - 1)) t.hd.1 t.hd.2.1 t.hd.2.2 t.kd d with
    | none => none
    | some b => if 65535 < b.length then none else some (t.hd.1 :: ((b.length : Int) / 256) :: ((b.length : Int) % 256) :: b) := rfl

def FormOk (n : Nat) : Prop := ∀ (B0 : Nat) (t : Tr n) (d : Nat) (sb sk : Value) (w : World), B0 ≤ w.heap.size → RepS (fun b => b < B0) w n t sb sk → d ≤ 8 →
  Calls Tryz.prog 57 #[.agg #[.int .i64 t.hd.1, .int .u64 t.hd.2.1, sb, sk], .int .i64 d] w fun e w' => ((rform n t d = none ∧ e = .returned (.tuple #[.slice none 0 0, .bool false])) ∨
    (∃ (r : List Int) (a : Option Addr) (c : Nat), rform n t d = some r ∧ e = .returned (.tuple #[.slice a r.length c, .bool true]) ∧ BySl 0 w'.heap.size w' (.slice a r.length c) r)) ∧ Below w.heap.size w w'

theorem ownsRow_lit (w : World) (l : List Value) (base : Nat) (hb : base ≤ w.heap.size) (hm : l.length ≤ maxLen) : (w.alloc (.cells l.toArray 5)).ownsRow base 5 1 (.slice (some ⟨w.heap.size, 0, none⟩) l.length l.length) l.length l :=
  ⟨by omega, .inr ⟨w.heap.size, l.length, l.toArray, rfl, hb, heap_alloc_new w _, Nat.le_refl _, hm, by simp, by simp⟩⟩

theorem rform_len : ∀ {n : Nat} {t : Tr n} {d : Nat} {r : List Int}, rform n t d = some r → 0 < r.length ∧ r.length ≤ 65538
  | 0, t, _, _, _ => by cases t
  | n + 1, t, d, r, h => by
    rw [rform_parts] at h
    split at h
    · cases h
    · split at h
      · cases h
      · simp only [Option.some.injEq] at h
        subst h
        simp
        omega

set_option maxHeartbeats 2000000 in
set_option maxRecDepth 100000 in
theorem form_step (n : Nat) (ih : FormOk n) : FormOk (n + 1) := by
  intro B0 t d sb sk w hB hrep hd
  have IH := hid ih
  clear ih
  obtain ⟨hn0, hn1, hby, hks⟩ := hrep
  have HB := hid hby
  have HK := hid hks
  obtain ⟨ab, cb, rfl, hrb⟩ := hby
  obtain ⟨ak, ck, rfl, hrk⟩ := hks
  have hbl : t.hd.2.2.length ≤ 140737488355328 := by obtain ⟨_, _, _, h, _⟩ := hrb; exact h
  have HBB : Hid (∀ x ∈ t.hd.2.2, 0 ≤ x ∧ x ≤ 255) := by obtain ⟨_, _, _, _, h, _⟩ := hrb; exact h
  clear hrb hrk
  have hkl : t.kd.length ≤ 2199023255552 := by obtain ⟨_, _, _, _, _, _, h, _⟩ := HK.out; exact h
  obtain ⟨R, hR⟩ : ∃ R, rform (n + 1) t d = R := ⟨_, rfl⟩
  rw [hR]
  rw [rform_parts] at hR
  have HNone : Hid (rbodyC (fun k => rform n k (d - 1)) t.hd.1 t.hd.2.1 t.hd.2.2 t.kd d = none → R = none) := fun h => by rw [h] at hR; exact hR.symm
  have HSome : Hid (∀ b, rbodyC (fun k => rform n k (d - 1)) t.hd.1 t.hd.2.1 t.hd.2.2 t.kd d = some b → R = if 65535 < b.length then none else some (t.hd.1 :: ((b.length : Int) / 256) :: ((b.length : Int) % 256) :: b)) := fun b h => by rw [h] at hR; exact hR.symm
  clear hR
  generalize t.kd = ks at *
  generalize t.hd.2.2 = bs at *
  generalize t.hd.2.1 = num at *
  generalize t.hd.1 = tag at *
  clear t
  obtain ⟨L1, hL1⟩ : ∃ L, bs.length = L := ⟨_, rfl⟩
  obtain ⟨L2, hL2⟩ : ∃ L, ks.length = L := ⟨_, rfl⟩
  have HL1 := hid hL1
  have HL2 := hid hL2
  rw [hL1] at hbl HB ⊢
  rw [hL2] at hkl HK ⊢
  clear hL1 hL2
  obtain ⟨i0, hi, hz0, hz1, hz2⟩ := info_parts Tryz.info5
  go_enter Tryz.func57, Tryz.ntmps57
  go_upto_block 0 with fail
  obtain ⟨W0, hW0⟩ : ∃ W0, W0 = w.alloc (Obj.cells #[Value.int .i64 tag, Value.int .u64 num, Value.slice ab L1 cb, Value.slice ak L2 ck] 94) := ⟨_, rfl⟩
  have x0 : W0.cell? ⟨w.heap.size, 0, none⟩ = some (.int .i64 tag) := by rw [hW0]; simp [go_sem]
  have x1 : W0.cell? ⟨w.heap.size, 1, none⟩ = some (.int .u64 num) := by rw [hW0]; simp [go_sem]
  have x2 : W0.cell? ⟨w.heap.size, 2, none⟩ = some (.slice ab L1 cb) := by rw [hW0]; simp [go_sem]
  have x3 : W0.cell? ⟨w.heap.size, 3, none⟩ = some (.slice ak L2 ck) := by rw [hW0]; simp [go_sem]
  have HZ0 : Hid (W0.heap.size = w.heap.size + 1) := by rw [Hid, hW0]; simp
  have HW0 : Hid (Below w.heap.size w W0) := by rw [Hid, hW0]; exact (Below.refl _ _).alloc (Nat.le_refl _) _
  rw [← hW0]
  clear hW0
  go_cut [6, 7, 8, 9, 10, 13, 37, 52] (fun s6 _ _ _ _ _ _ _ wx => ∃ (M : Nat) (body : List Int) (a : Option Addr) (c : Nat), s6 = .slice a M c ∧ wx.cell? ⟨w.heap.size, 0, none⟩ = some (.int .i64 tag) ∧ M ≤ 140737488355328 ∧ (tag = 1 ∨ tag = 2 ∨ tag = 3) ∧
    Hid (body.length = M ∧ rbodyC (fun k => rform n k (d - 1)) tag num bs ks d = some body ∧ BySl 0 wx.heap.size wx (.slice a M c) body ∧ Below w.heap.size w wx))
  case first =>
    by_cases h1 : tag = 1
    · as_aux_lemma =>
        obtain ⟨K, hK⟩ : ∃ K, (nsz num).toNat = K := ⟨_, rfl⟩
        have HKK := hid hK
        have hK8 : K ≤ 8 := by have := nsz_bd num; omega
        have HSP := hid (nsz_spec num hn0 hn1)
        clear hK
        subst h1
        obtain ⟨N, rfl⟩ : ∃ N : Nat, num = N := ⟨num.toNat, by omega⟩
        have hN : N ≤ 18446744073709551615 := by omega
        go_wp2_with fail
        go_loopg [6, 7] K (fun g s6 s7 wr => ∃ (k q : Nat) (a : Option Addr) (c : Nat), s6 = .slice a k c ∧ s7 = .int .u64 (q : Int) ∧ q ≤ 18446744073709551615 ∧ k ≤ K ∧ K - k ≤ g ∧
          wr.cell? ⟨w.heap.size, 0, none⟩ = some (.int .i64 1) ∧ wr.cell? ⟨w.heap.size, 2, none⟩ = some (.slice ab L1 cb) ∧ wr.cell? ⟨w.heap.size, 3, none⟩ = some (.slice ak L2 ck) ∧ Hid (q = N / 256 ^ k ∧ BySl 0 wr.heap.size wr (.slice a k c) (numB k N) ∧ Below w.heap.size w wr ∧ w.heap.size + 1 ≤ wr.heap.size))
        case atStart => exact ⟨0, N, none, 0, rfl, rfl, hN, Nat.zero_le _, Nat.le_refl _, x0, x2, x3, by simp, BySl.none _ _ _, HW0.out, Nat.le_of_eq HZ0.out.symm⟩
        case round =>
          obtain ⟨k, q, a, c, rfl, rfl, hq1, hkK, hkg, f0, f2, f3, HI⟩ := hrel
          clear x0 x1 x2 x3
          by_cases hq : 0 < q
          · have hkK' : k < K := by
              apply Nat.lt_of_le_of_ne hkK
              intro e
              subst e
              have h1 := HSP.out.1
              rw [HKK.out] at h1
              have h2 := HI.out.1
              rw [Nat.div_eq_of_lt (by exact_mod_cast h1)] at h2
              omega
            have hown := hid (ownsRow_lit wr [.int .u8 ((q : Int) % 256)] wr.heap.size (Nat.le_refl _) (by unfold maxLen; simp))
            have belT : Hid (Below wr.heap.size wr (wr.alloc (Obj.cells #[Value.int IntKind.u8 ((q : Int) % 256)] 5))) := (Below.refl _ _).alloc (Nat.le_refl _) _
            have hz1' := HI.out.2.2.2
            have hnb : Hid (numB (k + 1) N = ((q : Int) % 256) :: numB k N) := by
              rw [Hid, numB, HI.out.1]
              simp
            have hq2 : Hid (q / 256 = N / 256 ^ (k + 1)) := by rw [Hid, HI.out.1, Nat.div_div_eq_div_mul, Nat.pow_succ]
            have hq3 : q / 256 ≤ 18446744073709551615 := by omega
            have hbb : Hid (∀ x ∈ numB (k + 1) N, 0 ≤ x ∧ x ≤ 255) := numB_byte _ _
            obtain ⟨gk', rfl⟩ : ∃ g', gk = g' + 1 := ⟨gk - 1, by omega⟩
            cases a with
            | none =>
              obtain ⟨hk0, hc0⟩ : k = 0 ∧ c = 0 := by
                obtain ⟨a', c', e, _, _, h4, _⟩ := HI.out.2.1
                simp only [Value.slice.injEq] at e
                obtain ⟨rfl, e2, rfl⟩ := e
                obtain ⟨h, h'⟩ := h4 rfl
                rw [h] at e2
                exact ⟨e2, h'⟩
              subst hk0 hc0
              go_wp2_with (at_builtin; go_must (refine wpList_append_own_none rfl _ _ 23 rfl wr.heap.size 5 i0 1 Tryz.underlying23 hi _ 1 _ rfl hown.out rfl ?_))
              go_wp2_with fail
              go_roundg gk'
              case measure => omega
              case rel =>
                have h2 := BySl.own (base := wr.heap.size) (bs := numB 1 N) (by rw [numB_length, hnb.out]; exact hown.out) (by rw [numB_length]; omega) hbb.out
                exact ⟨1, q / 256, some ⟨wr.heap.size, 0, none⟩, 1, rfl, by go_num, hq3, by omega, by omega, (World.cell?_alloc_past _ _ _ (by omega)).trans f0, (World.cell?_alloc_past _ _ _ (by omega)).trans f2, (World.cell?_alloc_past _ _ _ (by omega)).trans f3, hq2.out, by have h3 := h2.agree (Agree.refl _ _ _) (Nat.zero_le _) (Nat.le_refl _); exact h3, HI.out.2.2.1.trans (belT.out.mono (by omega)), by simp; omega⟩
            | some ad =>
              have hnl : Hid (((numB k N).map (Value.int .u8)).length = k * 1) := by rw [Hid, List.length_map, numB_length]; omega
              have hnews := hid (bytes_news HI.out.2.1 belT.out)
              have hone := hid (bytes_one (numB k N))
              go_wp2_with (at_builtin; go_must (refine wpList_append_own _ rfl _ _ 23 rfl wr.heap.size 5 i0 (.int .u8 0) 1 1 Tryz.underlying23 hi hz0 hz1 hz2 rfl (by decide) _ 1 _ rfl hown.out ad k c ((numB k N).map (Value.int .u8)) rfl hnl.out hnews.out hone.out (by unfold maxLen; omega) (by omega) (by simp) ?_))
              intro v2 w5 hown5 hgrow5 hnil5
              obtain ⟨a2, c2, rfl⟩ := ownsRow_form' hown5
              have HOWN5 := hid hown5
              have bel5 : Hid (Below wr.heap.size wr w5) := belT.out.grown hgrow5 (by simp) (fun r e => by simp only [Value.ownBlock, Option.some.injEq] at e; omega)
              clear hown5 hgrow5 hnil5 hnl hnews hone
              go_wp2_with fail
              go_roundg gk'
              case measure => omega
              case rel =>
                have h2 := BySl.own (base := wr.heap.size) (w := w5) (v := .slice a2 (1 + k) c2) (bs := numB (k + 1) N) (by rw [numB_length, hnb.out, Nat.add_comm k 1]; exact HOWN5.out) (by rw [numB_length]; omega) hbb.out
                have h3 := h2.agree (Agree.refl _ _ _) (Nat.zero_le _) (Nat.le_refl _)
                have h4 := bel5.out.size
                rw [Nat.add_comm 1 k] at h3
                exact ⟨k + 1, q / 256, a2, c2, by rw [Nat.add_comm 1 k], by go_num, hq3, by omega, by omega, (bel5.out.cell (p := ⟨w.heap.size, 0, none⟩) (by simp; omega)).trans f0, (bel5.out.cell (p := ⟨w.heap.size, 2, none⟩) (by simp; omega)).trans f2, (bel5.out.cell (p := ⟨w.heap.size, 3, none⟩) (by simp; omega)).trans f3, hq2.out, h3, HI.out.2.2.1.trans (bel5.out.mono (by omega)), by omega⟩
          · have hkK' : Hid (k = K) := by
              rw [Hid]
              apply Nat.le_antisymm hkK
              apply Nat.le_of_not_lt
              intro hlt
              obtain ⟨j, hj⟩ : ∃ j, K = j + 1 := ⟨K - 1, by omega⟩
              have h1 := HSP.out.2 j (by rw [HKK.out, hj])
              have h1' : 256 ^ j ≤ N := by exact_mod_cast h1
              have h2 : 256 ^ k ≤ N := Nat.le_trans (Nat.pow_le_pow_right (by omega) (by omega)) h1'
              have h3 := Nat.div_pos h2 (Nat.pow_pos (by omega))
              have h4 := HI.out.1
              omega
            have hq0 : q = 0 := by omega
            subst hq0
            have hlk := HKK.out
            by_cases hL1 : L1 = 0
            · by_cases hL2 : L2 = 0
              · subst hL1 hL2
                have HRB : Hid (rbodyC (fun k => rform n k (d - 1)) 1 (N : Int) bs ks d = some (numB K N)) := by
                  have e1 : bs = [] := List.length_eq_zero_iff.1 HL1.out
                  have e2 : ks = [] := List.length_eq_zero_iff.1 HL2.out
                  rw [Hid, rbodyC, if_pos rfl, if_neg (by simp [e1, e2]), HKK.out]
                clear hlk
                go_wp2_with fail
                go_meet
                exact ⟨k, numB K N, a, c, rfl, f0, by omega, by simp, by rw [numB_length, hkK'.out], HRB.out, by have h := HI.out.2.1; rw [hkK'.out] at h ⊢; exact h, HI.out.2.2.1⟩
              · have HR : Hid (R = none) := HNone.out (by rw [rbodyC, if_pos rfl, if_pos (.inr (fun e => by have := HL2.out; rw [e] at this; simp at this; omega))])
                have hkI : 0 < L2 := by omega
                subst hL1
                clear hlk
                go_wp2_with fail
                go_ret2
                exact ⟨.inl ⟨HR.out, rfl⟩, HI.out.2.2.1⟩
            · have HR : Hid (R = none) := HNone.out (by rw [rbodyC, if_pos rfl, if_pos (.inl (fun e => by have := HL1.out; rw [e] at this; simp at this; omega))])
              have hkI : 0 < L1 := by omega
              clear hlk
              go_wp2_with fail
              go_ret2
              exact ⟨.inl ⟨HR.out, rfl⟩, HI.out.2.2.1⟩
    · by_cases h2 : tag = 2
      · as_aux_lemma =>
          subst h2
          have hown := hid (World.ownsRow_nil W0 W0.heap.size 5 1)
          by_cases hn : num = 0
          case neg =>
            have HR : Hid (R = none) := HNone.out (by rw [rbodyC, if_neg (by omega), if_pos rfl, if_pos (.inl hn)])
            cases ab with
            | none =>
              obtain ⟨hl0, hb0, hc0⟩ : L1 = 0 ∧ bs = [] ∧ cb = 0 := by
                obtain ⟨a', c', e, _, _, h4, _⟩ := HB.out
                simp only [Value.slice.injEq] at e
                obtain ⟨rfl, e2, rfl⟩ := e
                obtain ⟨h, h'⟩ := h4 rfl
                subst h
                exact ⟨e2, rfl, h'⟩
              subst hl0 hb0 hc0
              go_wp2_with (at_builtin; go_must (refine wpList_append_own_none rfl _ _ 23 rfl W0.heap.size 5 i0 1 Tryz.underlying23 hi _ 0 _ rfl hown.out rfl ?_))
              go_wp2_with fail
              go_ret2
              exact ⟨.inl ⟨HR.out, rfl⟩, HW0.out⟩
            | some ad =>
              have hnl : Hid ((bs.map (Value.int .u8)).length = L1 * 1) := by rw [Hid, List.length_map, HL1.out]; omega
              have hnews := hid (bytes_news (HB.out.to (B := w.heap.size) (fun b h => by omega)) HW0.out)
              have hone := hid (bytes_one bs)
              go_wp2_with (at_builtin; go_must (refine wpList_append_own _ rfl _ _ 23 rfl W0.heap.size 5 i0 (.int .u8 0) 1 1 Tryz.underlying23 hi hz0 hz1 hz2 rfl (by decide) _ 0 _ rfl hown.out ad L1 cb (bs.map (Value.int .u8)) rfl hnl.out hnews.out hone.out (by unfold maxLen; omega) (by omega) (Nat.le_refl _) ?_))
              intro v2 w5 hown5 hgrow5 hnil5
              obtain ⟨a2, c2, rfl⟩ := ownsRow_form' hown5
              have HOWN5 := hid hown5
              have bel5 : Hid (Below w.heap.size w w5) := HW0.out.grown hgrow5 HW0.out.size (fun r e => by simp [Value.ownBlock] at e)
              have v0 := hgrow5.cell x0 (by simp [Value.ownBlock])
              have v1 := hgrow5.cell x1 (by simp [Value.ownBlock])
              have v3 := hgrow5.cell x3 (by simp [Value.ownBlock])
              clear hown5 hgrow5 hnil5 hnl hnews hone x0 x1 x2 x3
              go_wp2_with fail
              go_ret2
              exact ⟨.inl ⟨HR.out, rfl⟩, bel5.out⟩
          subst hn
          by_cases hk : L2 = 0
          case neg =>
            have hkn : Hid (ks ≠ []) := fun e => by have := HL2.out; rw [e] at this; simp at this; omega
            have hkI : 0 < L2 := by omega
            have HR : Hid (R = none) := HNone.out (by rw [rbodyC, if_neg (by omega), if_pos rfl, if_pos (.inr hkn.out)])
            cases ab with
            | none =>
              obtain ⟨hl0, hb0, hc0⟩ : L1 = 0 ∧ bs = [] ∧ cb = 0 := by
                obtain ⟨a', c', e, _, _, h4, _⟩ := HB.out
                simp only [Value.slice.injEq] at e
                obtain ⟨rfl, e2, rfl⟩ := e
                obtain ⟨h, h'⟩ := h4 rfl
                subst h
                exact ⟨e2, rfl, h'⟩
              subst hl0 hb0 hc0
              go_wp2_with (at_builtin; go_must (refine wpList_append_own_none rfl _ _ 23 rfl W0.heap.size 5 i0 1 Tryz.underlying23 hi _ 0 _ rfl hown.out rfl ?_))
              go_wp2_with fail
              go_ret2
              exact ⟨.inl ⟨HR.out, rfl⟩, HW0.out⟩
            | some ad =>
              have hnl : Hid ((bs.map (Value.int .u8)).length = L1 * 1) := by rw [Hid, List.length_map, HL1.out]; omega
              have hnews := hid (bytes_news (HB.out.to (B := w.heap.size) (fun b h => by omega)) HW0.out)
              have hone := hid (bytes_one bs)
              go_wp2_with (at_builtin; go_must (refine wpList_append_own _ rfl _ _ 23 rfl W0.heap.size 5 i0 (.int .u8 0) 1 1 Tryz.underlying23 hi hz0 hz1 hz2 rfl (by decide) _ 0 _ rfl hown.out ad L1 cb (bs.map (Value.int .u8)) rfl hnl.out hnews.out hone.out (by unfold maxLen; omega) (by omega) (Nat.le_refl _) ?_))
              intro v2 w5 hown5 hgrow5 hnil5
              obtain ⟨a2, c2, rfl⟩ := ownsRow_form' hown5
              have HOWN5 := hid hown5
              have bel5 : Hid (Below w.heap.size w w5) := HW0.out.grown hgrow5 HW0.out.size (fun r e => by simp [Value.ownBlock] at e)
              have v0 := hgrow5.cell x0 (by simp [Value.ownBlock])
              have v1 := hgrow5.cell x1 (by simp [Value.ownBlock])
              have v3 := hgrow5.cell x3 (by simp [Value.ownBlock])
              clear hown5 hgrow5 hnil5 hnl hnews hone x0 x1 x2 x3
              go_wp2_with fail
              go_ret2
              exact ⟨.inl ⟨HR.out, rfl⟩, bel5.out⟩
          subst hk
          have hkn : ks = [] := List.length_eq_zero_iff.1 HL2.out
          have HRB : Hid (rbodyC (fun k => rform n k (d - 1)) 2 0 bs ks d = some bs) := by rw [Hid, rbodyC, if_neg (by omega), if_pos rfl, if_neg (by simp [hkn])]
          clear hkn
          cases ab with
          | none =>
            obtain ⟨hl0, hb0, hc0⟩ : L1 = 0 ∧ bs = [] ∧ cb = 0 := by
              obtain ⟨a', c', e, _, _, h4, _⟩ := HB.out
              simp only [Value.slice.injEq] at e
              obtain ⟨rfl, e2, rfl⟩ := e
              obtain ⟨h, h'⟩ := h4 rfl
              subst h
              exact ⟨e2, rfl, h'⟩
            subst hl0 hb0 hc0
            go_wp2_with (at_builtin; go_must (refine wpList_append_own_none rfl _ _ 23 rfl W0.heap.size 5 i0 1 Tryz.underlying23 hi _ 0 _ rfl hown.out rfl ?_))
            go_wp2_with fail
            go_meet
            exact ⟨0, [], none, 0, rfl, x0, Nat.zero_le _, by simp, rfl, HRB.out, BySl.none _ _ _, HW0.out⟩
          | some ad =>
            have hnl : Hid ((bs.map (Value.int .u8)).length = L1 * 1) := by rw [Hid, List.length_map, HL1.out]; omega
            have hnews := hid (bytes_news (HB.out.to (B := w.heap.size) (fun b h => by omega)) HW0.out)
            have hone := hid (bytes_one bs)
            go_wp2_with (at_builtin; go_must (refine wpList_append_own _ rfl _ _ 23 rfl W0.heap.size 5 i0 (.int .u8 0) 1 1 Tryz.underlying23 hi hz0 hz1 hz2 rfl (by decide) _ 0 _ rfl hown.out ad L1 cb (bs.map (Value.int .u8)) rfl hnl.out hnews.out hone.out (by unfold maxLen; omega) (by omega) (Nat.le_refl _) ?_))
            intro v2 w5 hown5 hgrow5 hnil5
            obtain ⟨a2, c2, rfl⟩ := ownsRow_form' hown5
            have HOWN5 := hid hown5
            have bel5 : Hid (Below w.heap.size w w5) := HW0.out.grown hgrow5 HW0.out.size (fun r e => by simp [Value.ownBlock] at e)
            have v0 := hgrow5.cell x0 (by simp [Value.ownBlock])
            have v1 := hgrow5.cell x1 (by simp [Value.ownBlock])
            have v3 := hgrow5.cell x3 (by simp [Value.ownBlock])
            clear hown5 hgrow5 hnil5 hnl hnews hone x0 x1 x2 x3
            go_wp2_with fail
            go_meet
            exact ⟨L1, bs, a2, c2, rfl, v0, hbl, by simp, HL1.out, HRB.out, (BySl.own (by rw [HL1.out]; exact HOWN5.out) (by rw [HL1.out]; exact hbl) HBB.out).agree (Agree.refl _ _ _) (Nat.zero_le _) (Nat.le_refl _), bel5.out⟩
      · by_cases h3 : tag = 3
        · as_aux_lemma =>
            subst h3
            by_cases hn : num = 0
            case neg =>
              have HR : Hid (R = none) := HNone.out (by rw [rbodyC, if_neg (by omega), if_neg (by omega), if_pos rfl, if_pos (.inl hn)])
              go_wp2_with fail
              go_ret2
              exact ⟨.inl ⟨HR.out, rfl⟩, HW0.out⟩
            subst hn
            by_cases hL1 : L1 = 0
            case neg =>
              have HR : Hid (R = none) := HNone.out (by rw [rbodyC, if_neg (by omega), if_neg (by omega), if_pos rfl, if_pos (.inr (.inl (fun e => by have := HL1.out; rw [e] at this; simp at this; omega)))])
              have hkI : 0 < L1 := by omega
              go_wp2_with fail
              go_ret2
              exact ⟨.inl ⟨HR.out, rfl⟩, HW0.out⟩
            subst hL1
            by_cases hd0 : d = 0
            case pos =>
              have HR : Hid (R = none) := HNone.out (by rw [rbodyC, if_neg (by omega), if_neg (by omega), if_pos rfl, if_pos (.inr (.inr hd0))])
              have hdb : ((d : Int) == 0) = true := by simp; omega
              go_wp2_with fail
              go_ret2
              exact ⟨.inl ⟨HR.out, rfl⟩, HW0.out⟩
            have hdb : ((d : Int) == 0) = false := by simp; omega
            obtain ⟨d', HD⟩ : ∃ d', Hid (d = d' + 1) := ⟨d - 1, by rw [Hid]; omega⟩
            have hdw : IntKind.i64.wrap ((d : Int) - 1) = d' := by have := HD.out; rw [IntKind.wrap_i64]; omega
            have hd8 : d' ≤ 8 := by have := HD.out; omega
            obtain ⟨RB, hRB⟩ : ∃ RB, rbodyC (fun k => rform n k (d - 1)) 3 0 bs ks d = RB := ⟨_, rfl⟩
            have HRL : Hid (rformL (fun k => rform n k d') [] ks = RB) := by
              have e : bs = [] := List.length_eq_zero_iff.1 HL1.out
              rw [Hid, ← hRB, rbodyC, if_neg (by omega), if_neg (by omega), if_pos rfl, if_neg (by simp [e, hd0]), HD.out, Nat.add_sub_cancel]
            have HRB := hid hRB
            rw [hRB] at HNone
            have hown0 := hid (World.ownsRow_nil W0 (w.heap.size + 1) 5 1)
            clear hRB hd0 HSome
            go_wp2_with fail
            go_loopw [6, 8] (fun s6 s8 wr => ∃ (i M : Nat) (a : Option Addr) (c : Nat) (acc : List Int), s6 = .slice a M c ∧ s8 = .int .i64 i ∧ i ≤ L2 ∧ M ≤ 140000 ∧ wr.cell? ⟨w.heap.size, 0, none⟩ = some (.int .i64 3) ∧ wr.cell? ⟨w.heap.size, 3, none⟩ = some (.slice ak L2 ck) ∧
              Hid (acc.length = M ∧ rformL (fun k => rform n k d') acc (ks.drop i) = RB ∧ wr.ownsRow (w.heap.size + 1) 5 1 (.slice a M c) M (acc.map (Value.int .u8)) ∧ (∀ x ∈ acc, 0 ≤ x ∧ x ≤ 255) ∧ Below w.heap.size w wr ∧ w.heap.size + 1 ≤ wr.heap.size)) (fun _ s8 _ => L2 - (intOf s8).toNat)
            case atStart => exact ⟨0, 0, none, 0, [], rfl, rfl, Nat.zero_le _, Nat.zero_le _, x0, x3, rfl, HRL.out, hown0.out, by simp, HW0.out, Nat.le_of_eq HZ0.out.symm⟩
            case round =>
              obtain ⟨i, M, a, c, acc, rfl, rfl, hiL, hM, f0, f3, HI⟩ := hrel
              clear x0 x1 x2 x3
              have hws := HI.out.2.2.2.2.2
              have hbelw := hid HI.out.2.2.2.2.1
              by_cases hlt : i < L2
              · have hlt' : i < ks.length := by rw [HL2.out]; exact hlt
                obtain ⟨_, _, ea, _, _, _, _, h7⟩ := HK.out
                simp only [Value.slice.injEq] at ea
                obtain ⟨rfl, hx, rfl⟩ := ea
                clear hx
                obtain ⟨b, o, rfl, hSb, hc⟩ := h7 (by intro e; subst e; simp at hlt')
                obtain ⟨sb, sk, c0, c1, c2, c3, hrep⟩ := hc i ks[i] (List.getElem?_eq_getElem hlt')
                clear hc h7
                obtain ⟨a1, l1, q1, a2, l2, q2, rfl, rfl⟩ := hrep.sl
                have hbw : b < w.heap.size := by omega
                have hR := hid (hrep.agree (AgreeS.below hbelw.out (fun b hb => by omega)) (fun _ h => h))
                clear hrep
                have d0 := (hbelw.out.cell (p := ⟨b, o + i * 4, none⟩) hbw).trans c0
                have d1 := (hbelw.out.cell (p := ⟨b, o + i * 4 + 1, none⟩) hbw).trans c1
                have d2 := (hbelw.out.cell (p := ⟨b, o + i * 4 + 2, none⟩) hbw).trans c2
                have d3 := (hbelw.out.cell (p := ⟨b, o + i * 4 + 3, none⟩) hbw).trans c3
                clear c0 c1 c2 c3
                have hdrop : Hid (ks.drop i = ks[i] :: ks.drop (i + 1)) := List.drop_eq_getElem_cons hlt'
                generalize ks[i] = t1 at *
                have hiI0 : (0 : Int) ≤ (i : Int) := by omega
                have hiI1 : (i : Int) < (L2 : Int) := by omega
                go_wp2_with fail
                refine (IH.out B0 t1 d' _ _ wr (by omega) hR.out hd8).mono ?_
                rintro e w2 ⟨hres, hb2⟩
                have HB2 := hid hb2
                have hs2 := hb2.size
                have F0 := (hb2.cell (p := ⟨w.heap.size, 0, none⟩) (by show w.heap.size < wr.heap.size; omega)).trans f0
                have F3 := (hb2.cell (p := ⟨w.heap.size, 3, none⟩) (by show w.heap.size < wr.heap.size; omega)).trans f3
                clear hb2 d0 d1 d2 d3 f0 f3
                have belw2 : Hid (Below w.heap.size w w2) := hbelw.out.trans (HB2.out.mono (by omega))
                rcases hres with ⟨hn, rfl⟩ | ⟨r, ar, cr, hs, rfl, hr⟩
                · have HR : Hid (R = none) := HNone.out (by rw [← HI.out.2.1, hdrop.out, rformL, hn])
                  clear hn
                  go_wp2_with fail
                  go_ret2
                  exact ⟨.inl ⟨HR.out, rfl⟩, belw2.out⟩
                obtain ⟨hr0, hr1⟩ := rform_len hs
                obtain ⟨Q, hQ⟩ : ∃ Q, r.length = Q := ⟨_, rfl⟩
                have HQ := hid hQ
                have HSS := hid hs
                have HRR := hid hr
                rw [hQ] at hr0 hr1 HRR ⊢
                clear hQ hs hr
                by_cases h65 : 65535 < M
                · have HR : Hid (R = none) := HNone.out (by rw [← HI.out.2.1, hdrop.out, rformL, HSS.out]; simp only; rw [if_pos (by rw [HI.out.1]; exact h65)])
                  have hq : decide ((65535 : Int) < M) = true := by simp; omega
                  go_wp2_with fail
                  go_ret2
                  exact ⟨.inl ⟨HR.out, rfl⟩, belw2.out⟩
                have hq : decide ((65535 : Int) < M) = false := by simp; omega
                obtain ⟨ad, rfl⟩ : ∃ ad, ar = some ad := by
                  cases ar with
                  | some ad => exact ⟨ad, rfl⟩
                  | none =>
                    obtain ⟨a', c', e, _, _, h4, _⟩ := HRR.out
                    simp only [Value.slice.injEq] at e
                    obtain ⟨e1, _, _⟩ := e
                    obtain ⟨h, _⟩ := h4 e1.symm
                    have := HQ.out
                    rw [h] at this
                    simp at this
                    omega
                have hown := hid (ownsRow_agree HI.out.2.2.1 (Agree.below HB2.out))
                have ltA := hid hown.out.lt
                have hnl : Hid ((r.map (Value.int .u8)).length = Q * 1) := by rw [Hid, List.length_map, HQ.out]; omega
                have hnews := hid (bytes_news HRR.out (Below.refl _ _))
                have hone := hid (bytes_one r)
                go_wp2_with (at_builtin; go_must (refine wpList_append_own _ rfl _ _ 23 rfl (w.heap.size + 1) 5 i0 (.int .u8 0) 1 1 Tryz.underlying23 hi hz0 hz1 hz2 rfl (by decide) _ M _ rfl hown.out ad Q cr (r.map (Value.int .u8)) rfl hnl.out hnews.out hone.out (by unfold maxLen; omega) (by omega) (by omega) ?_))
                intro v2 w5 hown5 hgrow5 hnil5
                obtain ⟨a5, c5, rfl⟩ := ownsRow_form' hown5
                have HOWN5 := hid hown5
                have hs5 := hgrow5.size
                have bel5 : Hid (Below (w.heap.size + 1) w2 w5) := (Below.refl _ _).grown hgrow5 (by omega) (fun r e => (ltA.out r e).1)
                have G0 := (bel5.out.cell (p := ⟨w.heap.size, 0, none⟩) (by simp)).trans F0
                have G3 := (bel5.out.cell (p := ⟨w.heap.size, 3, none⟩) (by simp)).trans F3
                clear hown5 hgrow5 hnil5 hnl hnews hone F0 F3 hown
                go_wp2_with fail
                go_roundw
                case rel =>
                  refine ⟨i + 1, M + Q, a5, c5, acc ++ r, rfl, by go_num, by omega, by omega, G0, G3, by rw [List.length_append, HI.out.1, HQ.out], ?_, by rw [List.map_append]; exact HOWN5.out, ?_, belw2.out.trans (bel5.out.mono (by omega)), by omega⟩
                  · have h := HI.out.2.1
                    rw [hdrop.out, rformL, HSS.out] at h
                    simp only at h
                    rw [if_neg (by rw [HI.out.1]; omega)] at h
                    exact h
                  · intro x hx
                    rcases List.mem_append.1 hx with hx | hx
                    · exact HI.out.2.2.2.1 x hx
                    · exact HRR.out.bytes x hx
                case measure => simp [intOf]; omega
              · have hi2 : i = L2 := by omega
                have HRBs : Hid (rbodyC (fun k => rform n k (d - 1)) 3 0 bs ks d = some acc) := by
                  have h := HI.out.2.1
                  rw [List.drop_of_length_le (by rw [HL2.out]; omega), rformL] at h
                  rw [Hid, HRB.out, ← h]
                have hiI1 : ¬ (i : Int) < (L2 : Int) := by omega
                have HBY : Hid (BySl 0 wr.heap.size wr (.slice a M c) acc) := by
                  have h2 := BySl.own (base := w.heap.size + 1) (w := wr) (v := .slice a M c) (bs := acc) (by rw [HI.out.1]; exact HI.out.2.2.1) (by rw [HI.out.1]; omega) HI.out.2.2.2.1
                  exact h2.agree (Agree.refl _ _ _) (Nat.zero_le _) (Nat.le_refl _)
                clear hi2
                go_wp2_with fail
                go_meet
                exact ⟨M, acc, a, c, rfl, f0, by omega, by simp, HI.out.1, HRBs.out, HBY.out, hbelw.out⟩
        · have HR : Hid (R = none) := HNone.out (by rw [rbodyC, if_neg h1, if_neg h2, if_neg h3])
          go_wp2_with fail
          go_ret2
          exact ⟨.inl ⟨HR.out, rfl⟩, HW0.out⟩
  case rest =>
    obtain ⟨M, body, a, c, rfl, y0, hM, htag, HC⟩ := hcut
    as_aux_lemma =>
      by_cases hlt : 65535 < M
      · have hq : decide ((65535 : Int) < M) = true := by simp; omega
        have HR : Hid (R = none) := by rw [Hid, HSome.out _ HC.out.2.1, HC.out.1, if_pos hlt]
        go_wp2_with fail
        go_ret2
        exact ⟨.inl ⟨HR.out, rfl⟩, HC.out.2.2.2⟩
      · have hq : decide ((65535 : Int) < M) = false := by simp; omega
        have HR : Hid (R = some (tag :: ((M : Int) / 256) :: ((M : Int) % 256) :: body)) := by rw [Hid, HSome.out _ HC.out.2.1, HC.out.1, if_neg hlt]
        have hlen : Hid ((tag :: ((M : Int) / 256) :: ((M : Int) % 256) :: body).length = 3 + M) := by rw [Hid]; simp only [List.length_cons, HC.out.1]; omega
        have hown := hid (ownsRow_lit wc [.int .u8 tag, .int .u8 ((M : Int) / 256), .int .u8 ((M : Int) % 256)] wc.heap.size (Nat.le_refl _) (by unfold maxLen; simp))
        have hbytes : Hid (∀ x ∈ (tag :: ((M : Int) / 256) :: ((M : Int) % 256) :: body), 0 ≤ x ∧ x ≤ 255) := by
          intro x hx
          simp only [List.mem_cons] at hx
          rcases hx with rfl | rfl | rfl | hx
          · omega
          · omega
          · omega
          · exact HC.out.2.2.1.bytes x hx
        have belT : Hid (Below wc.heap.size wc (wc.alloc (Obj.cells #[Value.int IntKind.u8 tag, Value.int IntKind.u8 ((M : Int) / 256), Value.int IntKind.u8 ((M : Int) % 256)] 5))) := (Below.refl _ _).alloc (Nat.le_refl _) _
        have HBC := hid HC.out.2.2.2
        cases a with
        | none =>
          obtain ⟨hM0, hb0, hc0⟩ : M = 0 ∧ body = [] ∧ c = 0 := by
            obtain ⟨a', c', e, _, _, h4, _⟩ := HC.out.2.2.1
            simp only [Value.slice.injEq] at e
            obtain ⟨rfl, e2, rfl⟩ := e
            obtain ⟨h, h'⟩ := h4 rfl
            subst h
            exact ⟨e2, rfl, h'⟩
          subst hM0 hb0 hc0
          go_wp2_with (at_builtin; go_must (refine wpList_append_own_none rfl _ _ 23 rfl wc.heap.size 5 i0 1 Tryz.underlying23 hi _ 3 _ rfl hown.out rfl ?_))
          go_wp2_with fail
          go_ret2
          refine ⟨.inr ⟨_, some ⟨wc.heap.size, 0, none⟩, 3, HR.out, rfl, ?_⟩, HBC.out.trans (belT.out.mono HBC.out.size)⟩
          have h2 := BySl.own (base := wc.heap.size) (bs := tag :: (((0 : Nat) : Int) / 256) :: (((0 : Nat) : Int) % 256) :: []) hown.out (by simp) hbytes.out
          exact h2.agree (Agree.refl _ _ _) (Nat.zero_le _) (Nat.le_refl _)
        | some ad =>
          have hnl : Hid ((body.map (Value.int .u8)).length = M * 1) := by rw [Hid, List.length_map, HC.out.1]; omega
          have hnews := hid (bytes_news HC.out.2.2.1 belT.out)
          have hone := hid (bytes_one body)
          go_wp2_with (at_builtin; go_must (refine wpList_append_own _ rfl _ _ 23 rfl wc.heap.size 5 i0 (.int .u8 0) 1 1 Tryz.underlying23 hi hz0 hz1 hz2 rfl (by decide) _ 3 _ rfl hown.out ad M c (body.map (Value.int .u8)) rfl hnl.out hnews.out hone.out (by unfold maxLen; omega) (by omega) (by simp) ?_))
          intro v2 w5 hown5 hgrow5 hnil5
          obtain ⟨a2, c2, rfl⟩ := ownsRow_form' hown5
          have HOWN5 := hid hown5
          have bel5 : Hid (Below wc.heap.size wc w5) := belT.out.grown hgrow5 (by simp) (fun r e => by simp only [Value.ownBlock, Option.some.injEq] at e; omega)
          clear hown5 hgrow5 hnil5 hnl hnews hone
          go_wp2_with fail
          go_ret2
          refine ⟨.inr ⟨_, a2, c2, HR.out, by rw [hlen.out]; rfl, ?_⟩, HBC.out.trans (bel5.out.mono HBC.out.size)⟩
          rw [hlen.out]
          have h2 := BySl.own (base := wc.heap.size) (w := w5) (v := .slice a2 (3 + M) c2) (bs := tag :: ((M : Int) / 256) :: ((M : Int) % 256) :: body) (by rw [hlen.out]; exact HOWN5.out) (by rw [hlen.out]; omega) hbytes.out
          exact h2.agree (Agree.refl _ _ _) (Nat.zero_le _) (Nat.le_refl _)

theorem form_any : ∀ n, FormOk n
  | 0 => fun _ t => by cases t
  | n + 1 => form_step n (form_any n)

end Go.Proofs.YtampnikdmgojjaaGreat.Tlv
end

section
/-
  What the reference's Put answers.
-/
namespace Go.Proofs.YtampnikdmgojjaaGreat
open Go.RowKit
open Tlv (Tr BySlS AgreeS Agree)
open Crc (hid Kept Tab)

/-- Bytes leave some block alone. -/
theorem anyCrc {L B : Nat} {w : World} {v : Value} {xs : List Int} (h : Tlv.BySl L B w v xs) (h2 : 2 ≤ w.heap.size) (hB : B ≤ w.heap.size) : ∃ b, b < w.heap.size ∧ Crc.BySl b w v (nats xs) := by
  by_cases hx : xs = []
  · subst hx
    obtain ⟨a, cap, rfl, h2', h3, h4, h5, h6, h7⟩ := h
    exact ⟨0, by omega, a, cap, rfl, by simp [nats], h3, fun e => ⟨rfl, (h4 e).2⟩, by simp [nats], by simp [nats], fun h => absurd rfl h⟩
  · obtain ⟨a, cap, e, _, _, _, _, _, h7⟩ := id h
    obtain ⟨g, o, e2, _, hg, _⟩ := h7 hx
    have key : ∀ b, b ≠ g → Crc.BySl b w v (nats xs) := by
      intro b hb
      refine toCrc (S := fun x => x = g) ?_ (fun x hx => by subst hx; exact ⟨fun e => hb e.symm, by omega⟩)
      obtain ⟨a1, cap1, e1, q2, q3, q4, q5, q6, q7⟩ := h
      refine ⟨a1, cap1, e1, q2, q3, q4, q5, q6, fun hne => ?_⟩
      obtain ⟨g1, o1, r1, _, _, r3⟩ := q7 hne
      refine ⟨g1, o1, r1, ?_, r3⟩
      rw [e1] at e
      simp only [Value.slice.injEq] at e
      rw [e.1, e2] at r1
      simp only [Option.some.injEq, Addr.mk.injEq] at r1
      exact r1.1.symm
    by_cases h0 : g = 0
    · exact ⟨1, by omega, key 1 (by omega)⟩
    · exact ⟨0, by omega, key 0 (by omega)⟩

set_option maxHeartbeats 1000000 in
theorem refPut01 {n : Nat} (t : Tr n) (sb sk : Value) (w : World) (h : Tlv.RepS (fun b => b < w.heap.size) w n t sb sk) (hr : (Tlv.bsz n t 65535 8).2 = true) :
    Calls Tryz.prog 32 #[.agg #[.int .i64 t.hd.1, .int .u64 t.hd.2.1, sb, sk]] w fun e w' => ∃ a c, e = .returned (.tuple #[.slice a (Tlv.formOf n t).length c, .int .i64 0]) ∧ Tlv.BySl 0 w'.heap.size w' (.slice a (Tlv.formOf n t).length c) (Tlv.formOf n t) ∧ Below w.heap.size w w' := by
  obtain ⟨a1, l1, p1, a2, l2, p2, rfl, rfl⟩ := h.sl
  have H := hid h
  clear h
  have HE : Hid (Tlv.rform n t 8 = some (Tlv.formOf n t)) := by rw [Hid]; have := Tlv.rform_eq n t 8; rwa [if_pos (by simpa using hr)] at this
  clear hr
  go_enter Tryz.func32, Tryz.ntmps32
  go_wp2_with fail
  have k1 : Below w.heap.size w (w.alloc (Obj.cells #[.int .i64 t.hd.1, .int .u64 t.hd.2.1, .slice a1 l1 p1, .slice a2 l2 p2] 94)) := (Below.refl _ _).alloc (Nat.le_refl _) _
  refine (Tlv.form_any n w.heap.size t 8 _ _ _ (by simp) (H.out.agree (AgreeS.below k1 (fun _ h => h)) (fun _ h => h)) (by omega)).mono ?_
  rintro e w1 ⟨hres, hb1⟩
  have HB : Hid (Below w.heap.size w w1) := k1.trans (hb1.mono (by simp))
  clear k1 hb1
  rcases hres with ⟨hn, rfl⟩ | ⟨r, a, c, hs, rfl, hr⟩
  · have e := HE.out
    rw [hn] at e
    cases e
  · have HX : Hid (r = Tlv.formOf n t) := by
      have e := HE.out
      rw [hs] at e
      exact Option.some.inj e
    have HRR := hid hr
    clear hs hr
    go_wp2_with fail
    go_ret2
    rw [← HX.out]
    exact ⟨a, c, rfl, HRR.out, HB.out⟩


/-- A record's value of the reference's, as it was just laid: at g its own cells, at gs the three. -/
def Laid3 (w W : World) (k : Int) (nm bs : List Int) (g gs : Nat) : Prop :=
  Below w.heap.size w W ∧ w.heap.size + 2 ≤ W.heap.size ∧ W.cell? ⟨g, 0, none⟩ = some (.int .i64 3) ∧ W.cell? ⟨g, 1, none⟩ = some (.int .u64 0) ∧ W.cell? ⟨g, 2, none⟩ = some (.slice none 0 0) ∧ W.cell? ⟨g, 3, none⟩ = some (.slice (some ⟨gs, 0, none⟩) 3 3) ∧
    Tlv.RepS (fun b => b < W.heap.size) W 2 (recT k nm bs) (.slice none 0 0) (.slice (some ⟨gs, 0, none⟩) 3 3)

theorem laid3_of {w W : World} {k : Int} {nm bs : List Int} {vn vb : Value} {g gs : Nat} (hb : Below w.heap.size w W) (h0 : 0 ≤ k) (h1 : k ≤ 9) (hgs : gs < W.heap.size) (h2 : w.heap.size + 2 ≤ W.heap.size)
    (c4 : ∀ j u, (#[.int .i64 3, .int .u64 0, .slice none 0 0, .slice (some ⟨gs, 0, none⟩) 3 3] : Array Value)[j]? = some u → W.cell? ⟨g, j, none⟩ = some u)
    (c12 : ∀ j u, (#[.int .i64 1, .int .u64 k, .slice none 0 0, .slice none 0 0, .int .i64 2, .int .u64 0, vn, .slice none 0 0, .int .i64 2, .int .u64 0, vb, .slice none 0 0] : Array Value)[j]? = some u → W.cell? ⟨gs, j, none⟩ = some u)
    (bn : Tlv.BySl 0 w.heap.size w vn nm) (bb : Tlv.BySl 0 w.heap.size w vb bs) : Laid3 w W k nm bs g gs := by
  have hA : Agree 0 w.heap.size w W := Agree.below hb
  have hz := hb.size
  refine ⟨hb, h2, c4 0 _ rfl, c4 1 _ rfl, c4 2 _ rfl, c4 3 _ rfl, ?_⟩
  have z : Tlv.Rep 0 W.heap.size W 2 (recT k nm bs) (.slice none 0 0) (.slice (some ⟨gs, 0, none⟩) 3 3) := by
    refine ⟨by simp [recT, Tr.mk, Tlv.Tr.hd], by simp [recT, Tr.mk, Tlv.Tr.hd], Tlv.BySl.none _ _ _, _, 3, rfl, Nat.le_refl _, by decide, by simp, (by decide : (3 : Nat) ≤ 2199023255552), fun _ => ⟨gs, 0, rfl, Nat.zero_le _, hgs, fun j t hj => ?_⟩⟩
    have hj' : [(Tr.mk 1 k [] [] : Tr 1), Tr.mk 2 0 nm [], Tr.mk 2 0 bs []][j]? = some t := hj
    match j, hj' with
    | 0, hj =>
      simp only [List.getElem?_cons_zero, Option.some.injEq] at hj
      subst hj
      exact ⟨_, _, c12 0 _ rfl, c12 1 _ rfl, c12 2 _ rfl, c12 3 _ rfl, rep1 _ h0 (by omega)⟩
    | 1, hj =>
      simp only [List.getElem?_cons_succ, List.getElem?_cons_zero, Option.some.injEq] at hj
      subst hj
      exact ⟨_, _, c12 4 _ rfl, c12 5 _ rfl, c12 6 _ rfl, c12 7 _ rfl, rep2 (bn.agree hA (Nat.le_refl _) hz)⟩
    | 2, hj =>
      simp only [List.getElem?_cons_succ, List.getElem?_cons_zero, Option.some.injEq] at hj
      subst hj
      exact ⟨_, _, c12 8 _ rfl, c12 9 _ rfl, c12 10 _ rfl, c12 11 _ rfl, rep2 (bb.agree hA (Nat.le_refl _) hz)⟩
  exact z.toS.agree (fun _ _ => rfl) (fun b hb => hb.2)

end Go.Proofs.YtampnikdmgojjaaGreat
end
