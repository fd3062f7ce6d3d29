/-
  What readList of tlv answers, by what read answers.
-/
import Derived.Test.YthbhdbjjobfchaaTlvReadNum
import Derived.Deep.LoopGhost
namespace Go.Proofs.Ythbhdbjjobfchaa.Tlv
open Go.RowKit

/-- What read does with bytes, where lists may be nested d deep. -/
def ReadOk (d : Nat) : Prop := ∀ (v : Value) (bs : List Int) (w : World), BySl 0 w.heap.size w v bs → Calls Try.prog 65 #[v, .int .i64 d] w fun e w' =>
  ((rd d bs = none ∧ e = .returned (.tuple #[.agg #[.int .i64 0, .int .u64 0, .slice none 0 0, .slice none 0 0], .int .i64 0, .bool false])) ∨
    (∃ (t : Tr (d + 1)) (m : Nat) (sb sk : Value), rd d bs = some (t, m) ∧ e = .returned (.tuple #[.agg #[.int .i64 t.hd.1, .int .u64 t.hd.2.1, sb, sk], .int .i64 m, .bool true]) ∧ Rep w.heap.size w'.heap.size w' (d + 1) t sb sk)) ∧ Below w.heap.size w w'

/-- What is left of bytes behind the first m. -/
theorem bySl_rest {L B : Nat} {w : World} {a : Option Addr} {cap : Nat} {bs : List Int} (h : BySl L B w (.slice a bs.length cap) bs) (m : Nat) (hm : m ≤ bs.length) {b o : Nat} (ha : a = some ⟨b, o, none⟩) :
    BySl L B w (.slice (if cap = m then some ⟨b, o, none⟩ else some ⟨b, o + m, none⟩) (bs.length - m) (cap - m)) (bs.drop m) := by
  obtain ⟨a', cap', e, h2, h3, h4, h5, h6, h7⟩ := h
  simp only [Value.slice.injEq, true_and] at e
  obtain ⟨rfl, rfl⟩ := e
  subst ha
  refine ⟨_, _, by rw [List.length_drop], by rw [List.length_drop]; omega, by omega, fun e => by split at e <;> simp at e, by rw [List.length_drop]; omega, fun x hx => h6 x (List.mem_of_mem_drop hx), fun hne => ?_⟩
  have hlt : m < bs.length := by
    have := List.length_pos_iff.2 hne
    rw [List.length_drop] at this
    omega
  obtain ⟨b', o', e, hL, hB, hc⟩ := h7 (by intro e; subst e; simp at hlt)
  simp only [Option.some.injEq, Addr.mk.injEq, and_true] at e
  obtain ⟨rfl, rfl⟩ := e
  rw [if_neg (by omega)]
  refine ⟨b, o + m, rfl, hL, hB, fun i hi => ?_⟩
  rw [List.length_drop] at hi
  rw [Nat.add_assoc, hc (m + i) (by omega)]
  simp

theorem rdList_step {α : Type} {f : List Int → Option (α × Nat)} {k : Nat} {bs : List Int} {v : α} {m : Nat} (hne : bs ≠ []) (h : f bs = some (v, m)) : rdList f (k + 1) bs = (rdList f k (bs.drop m)).map (v :: ·) := by
  cases bs with
  | nil => exact absurd rfl hne
  | cons b bs => simp only [rdList, h]

theorem rdList_fail {α : Type} {f : List Int → Option (α × Nat)} {k : Nat} {bs : List Int} (hne : bs ≠ []) (h : f bs = none) : rdList f (k + 1) bs = none := by
  cases bs with
  | nil => exact absurd rfl hne
  | cons b bs => simp only [rdList, h]

set_option maxHeartbeats 2000000 in
set_option maxRecDepth 100000 in
theorem readList_any {d : Nat} (hd : ReadOk d) (hd8 : d ≤ 8) (v : Value) (bs : List Int) (w : World) (h : BySl 0 w.heap.size w v bs) (hl : bs.length ≤ 65535) :
    Calls Try.prog 77 #[v, .int .i64 ((d : Int) + 1)] w fun e w' => ((rdList (rd d) bs.length bs = none ∧ e = .returned (.tuple #[.slice none 0 0, .bool false])) ∨
      (∃ (ks : List (Tr (d + 1))) (sk : Value), rdList (rd d) bs.length bs = some ks ∧ e = .returned (.tuple #[sk, .bool true]) ∧ KSl w.heap.size w'.heap.size w' (Rep w.heap.size w'.heap.size w' (d + 1)) sk ks)) ∧ Below w.heap.size w w' := by
  obtain ⟨a, cap, rfl, hr⟩ := id h
  clear hr
  have H := hid h
  clear h
  obtain ⟨R, hR⟩ : ∃ R, rdList (rd d) bs.length bs = R := ⟨_, rfl⟩
  rw [hR]
  have HR := hid hR
  clear hR
  have hdz : (((d : Int) + 1) == 0) = false := by simp; omega
  obtain ⟨i0, hi, hz0, hz1, hz2⟩ := info_parts Try.info88
  go_enter Try.func77, Try.ntmps77
  go_wp2_with fail
  go_loopg [0, 6] bs.length (fun k x y wr => ∃ (a : Option Addr) (cap : Nat) (rest : List Int) (ts : List (Tr (d + 1))), x = .slice a rest.length cap ∧ rest.length ≤ k ∧ k ≤ bs.length ∧
    Hid (BySl 0 w.heap.size wr (.slice a rest.length cap) rest ∧ CInv w.heap.size ts y wr ∧ Below w.heap.size w wr ∧ ts.length + k ≤ bs.length ∧ (rdList (rd d) k rest).map (ts ++ ·) = R))
  case atStart => exact ⟨a, cap, bs, [], rfl, Nat.le_refl _, Nat.le_refl _, H.out, CInv.nil _ _, Below.refl _ _, by simp, by rw [HR.out]; cases R <;> simp⟩
  case round =>
    obtain ⟨a1, cap1, rest, ts, rfl, hk1, hk2, HI⟩ := hrel
    obtain ⟨av, cv, hy⟩ := HI.out.2.1.form
    subst hy
    have hws := HI.out.2.2.1.size
    by_cases hne : rest = []
    · subst hne
      go_wp2_with fail
      go_ret2
      refine ⟨.inr ⟨ts, _, ?_, rfl, HI.out.2.1.done (by have := HI.out.2.2.2.1; omega)⟩, HI.out.2.2.1⟩
      rw [← HI.out.2.2.2.2]
      cases gk <;> simp [rdList]
    · have hpos : 0 < rest.length := List.length_pos_iff.2 hne
      obtain ⟨b, o, ha, hbw⟩ : ∃ b o, a1 = some ⟨b, o, none⟩ ∧ b < w.heap.size := by
        obtain ⟨_, _, e, _, _, _, _, _, h7⟩ := HI.out.1
        simp only [Value.slice.injEq, true_and] at e
        obtain ⟨rfl, rfl⟩ := e
        obtain ⟨b, o, e, _, hb, _⟩ := h7 hne
        exact ⟨b, o, e, hb⟩
      subst ha
      have hcap : rest.length ≤ cap1 := by
        obtain ⟨_, _, e, h2, _⟩ := HI.out.1
        simp only [Value.slice.injEq, true_and] at e
        obtain ⟨rfl, rfl⟩ := e
        exact h2
      have hcap2 : cap1 ≤ 9223372036854775807 := by
        obtain ⟨_, _, e, _, h3, _⟩ := HI.out.1
        simp only [Value.slice.injEq, true_and] at e
        obtain ⟨rfl, rfl⟩ := e
        exact h3
      have hbsl := hid (HI.out.1.agree (L' := 0) (B' := wr.heap.size) (Agree.refl _ _ _) (Nat.le_refl _) hws)
      go_wp2_with fail
      refine (hd _ rest wr hbsl.out).mono ?_
      rintro e w1 ⟨hres, hb1⟩
      have Hb1 := hid hb1
      have hz := hb1.size
      clear hb1
      rcases hres with ⟨hnone, rfl⟩ | ⟨t, m, sb, sk, hsome, rfl, hr1⟩
      · have HN := hid hnone
        clear hnone
        go_wp2_with fail
        go_ret2
        refine ⟨.inl ⟨?_, rfl⟩, ?_⟩
        · rw [← HI.out.2.2.2.2]
          obtain ⟨k', rfl⟩ : ∃ k', gk = k' + 1 := ⟨gk - 1, by omega⟩
          rw [rdList_fail hne HN.out]
          rfl
        · exact (HI.out.2.2.1.trans (Hb1.out.mono hws)).alloc (by omega) _
      · have hm := rd_pos hsome
        have HS := hid hsome
        obtain ⟨a3, l3, p3, a4, l4, p4, rfl, rfl⟩ := hr1.sl
        have Hr1 := hid hr1
        clear hsome hr1
        have inv1 : CInv w.heap.size ts (.slice av ts.length cv) ((w1.alloc (Obj.cells #[Value.int .i64 t.hd.1, Value.int .u64 t.hd.2.1, Value.slice a3 l3 p3, Value.slice a4 l4 p4] 88)).alloc (Obj.cells #[Value.int .i64 t.hd.1, Value.int .u64 t.hd.2.1, Value.slice a3 l3 p3, Value.slice a4 l4 p4] 88)) :=
          HI.out.2.1.agree ((((Agree.below Hb1.out).alloc (by omega) _).alloc (by simp; omega) _)) (by simp; omega)
        have hr2 : Hid (Rep wr.heap.size w1.heap.size ((w1.alloc (Obj.cells #[Value.int .i64 t.hd.1, Value.int .u64 t.hd.2.1, Value.slice a3 l3 p3, Value.slice a4 l4 p4] 88)).alloc (Obj.cells #[Value.int .i64 t.hd.1, Value.int .u64 t.hd.2.1, Value.slice a3 l3 p3, Value.slice a4 l4 p4] 88)) (d + 1) t (.slice a3 l3 p3) (.slice a4 l4 p4)) :=
          Hr1.out.agree (((Agree.refl _ _ _).alloc (Nat.le_refl _) _).alloc (by simp) _) (by simp) (Nat.le_refl _)
        have hlt0 := hid HI.out.2.1.lt
        obtain ⟨ps, hl, hown, hkid⟩ := inv1
        have HO := hid hown
        have HKid := hid hkid
        have HL := hid hl
        clear hown hkid hl
        have htl := HI.out.2.2.2.1
        go_wp2_with (at_builtin; go_must (refine wpList_append_lies _ rfl _ _ 86 rfl w.heap.size 88 i0 _ 4 64 Try.underlying86 hi hz0 hz1 hz2 rfl (by decide) _ ts.length (cellsK ts ps) rfl HO.out ⟨w1.heap.size + 1, 0, none⟩ 1 1 (cell4 t (.slice a3 l3 p3, .slice a4 l4 p4)) rfl rfl ?_ ?_ (by omega) (by unfold maxLen; omega) (by omega) (by simp; omega) (w1.heap.size + 1 + 1) (by simp) ?_))
        · exact World.news_of_block (cs := #[Value.int .i64 t.hd.1, Value.int .u64 t.hd.2.1, Value.slice a3 l3 p3, Value.slice a4 l4 p4]) (t := 88) (fr := (0, 0)) (by have h := heap_alloc_new (w1.alloc (Obj.cells #[Value.int .i64 t.hd.1, Value.int .u64 t.hd.2.1, Value.slice a3 l3 p3, Value.slice a4 l4 p4] 88)) (Obj.cells #[Value.int .i64 t.hd.1, Value.int .u64 t.hd.2.1, Value.slice a3 l3 p3, Value.slice a4 l4 p4] 88); simpa using h)
        · intro u hu
          simp only [cell4, List.mem_cons, List.not_mem_nil, or_false] at hu
          rcases hu with rfl | rfl | rfl | rfl <;> rfl
        intro g' cap' w2 hown2 hgrow2 hat2 hlt2
        have inv2 : Hid (CInv w.heap.size (ts ++ [t]) (.slice (some ⟨g', 0, none⟩) (ts.length + 1) cap') w2) :=
          CInv.push (g := g') (cap := cap') HL.out HKid.out hr2.out hws (by simp; omega) (fun r e => .inl (hlt0.out r e).2) hown2 hgrow2 (by simpa using hat2)
        have bel2 : Hid (Below w.heap.size w w2) := (((HI.out.2.2.1.trans (Hb1.out.mono hws)).alloc (by omega) _).alloc (by simp; omega) _).grown hgrow2 (by simp; omega) (fun r e => (hlt0.out r e).1)
        have byl2 : Hid (BySl 0 w.heap.size w2 (.slice (if cap1 = m then some ⟨b, o, none⟩ else some ⟨b, o + m, none⟩) (rest.length - m) (cap1 - m)) (rest.drop m)) := by
          have hA : Agree 0 w.heap.size wr w2 := fun r h1 h2 => (bel2.out.block r h2).trans (HI.out.2.2.1.block r h2).symm
          exact (bySl_rest HI.out.1 m hm.2 rfl).agree hA (Nat.le_refl _) (Nat.le_refl _)
        clear hown2 hgrow2 hat2
        obtain ⟨k', rfl⟩ : ∃ k', gk = k' + 1 := ⟨gk - 1, by omega⟩
        have hrel' : Hid ((rdList (rd d) k' (rest.drop m)).map (ts ++ [t] ++ ·) = R) := by
          have e := HI.out.2.2.2.2
          rw [rdList_step hne HS.out, Option.map_map] at e
          rw [Hid, ← e]
          congr 1
          funext x
          simp
        go_wp2_with fail
        · have hcm : cap1 = m := by assumption
          have B2 := byl2.out
          rw [if_pos hcm, hcm, Nat.sub_self] at B2
          go_roundg k'
          case measure => omega
          case rel => exact ⟨_, _, rest.drop m, ts ++ [t], by rw [List.length_drop], by rw [List.length_drop]; omega, by omega, by rw [List.length_drop]; exact B2, by have := inv2.out; simpa using this, bel2.out, by simp; omega, hrel'.out⟩
        · have hcm : ¬ cap1 = m := by assumption
          have B2 := byl2.out
          rw [if_neg hcm] at B2
          go_roundg k'
          case measure => omega
          case rel => exact ⟨_, _, rest.drop m, ts ++ [t], by rw [List.length_drop], by rw [List.length_drop]; omega, by omega, by rw [List.length_drop]; exact B2, by have := inv2.out; simpa using this, bel2.out, by simp; omega, hrel'.out⟩

end Go.Proofs.Ythbhdbjjobfchaa.Tlv
