/-
  How values lie in memory, told by whichever blocks they lie in: for values that share memory with others.
-/
import Derived.Test.YthbhdbjjobfchaaTlvKids
namespace Go.Proofs.Ythbhdbjjobfchaa.Tlv
open Go.RowKit

def BySlS (S : Nat → Prop) (w : World) (v : Value) (bs : List Int) : Prop :=
  ∃ a cap, v = .slice a bs.length cap ∧ bs.length ≤ cap ∧ cap ≤ maxLen ∧ (a = none → bs = [] ∧ cap = 0) ∧ bs.length ≤ 140737488355328 ∧ (∀ x ∈ bs, 0 ≤ x ∧ x ≤ 255) ∧
    (bs ≠ [] → ∃ b o, a = some ⟨b, o, none⟩ ∧ S b ∧ ∀ i, i < bs.length → w.cell? ⟨b, o + i, none⟩ = some (.int .u8 (bs.getD i 0)))

def KSlS {n : Nat} (S : Nat → Prop) (w : World) (R : Tr n → Value → Value → Prop) (v : Value) (ks : List (Tr n)) : Prop :=
  ∃ a cap, v = .slice a ks.length cap ∧ ks.length ≤ cap ∧ cap ≤ maxLen ∧ (a = none → ks = [] ∧ cap = 0) ∧ ks.length ≤ 2199023255552 ∧
    (ks ≠ [] → ∃ b o, a = some ⟨b, o, none⟩ ∧ S b ∧ ∀ j t, ks[j]? = some t → ∃ sb sk, w.cell? ⟨b, o + j * 4, none⟩ = some (.int .i64 t.hd.1) ∧ w.cell? ⟨b, o + j * 4 + 1, none⟩ = some (.int .u64 t.hd.2.1) ∧
      w.cell? ⟨b, o + j * 4 + 2, none⟩ = some sb ∧ w.cell? ⟨b, o + j * 4 + 3, none⟩ = some sk ∧ R t sb sk)

def RepS (S : Nat → Prop) (w : World) : (n : Nat) → Tr n → Value → Value → Prop
  | 0, t, _, _ => by cases t
  | n + 1, t, sb, sk => 0 ≤ t.hd.2.1 ∧ t.hd.2.1 ≤ 18446744073709551615 ∧ BySlS S w sb t.hd.2.2 ∧ KSlS S w (RepS S w n) sk t.kd

/-- Of the blocks of S, w' holds what w held. -/
def AgreeS (S : Nat → Prop) (w w' : World) : Prop := ∀ b, S b → w'.heap[b]? = w.heap[b]?

theorem AgreeS.cell {S : Nat → Prop} {w w' : World} (h : AgreeS S w w') {b o : Nat} (hb : S b) : w'.cell? ⟨b, o, none⟩ = w.cell? ⟨b, o, none⟩ := World.cell?_of_block (w := w) (h b hb)

theorem BySlS.agree {S S' : Nat → Prop} {w w' : World} {v : Value} {bs : List Int} (h : BySlS S w v bs) (hw : AgreeS S w w') (hS : ∀ b, S b → S' b) : BySlS S' w' v bs := by
  obtain ⟨a, cap, h1, h2, h3, h4, h5, h6, h7⟩ := h
  refine ⟨a, cap, h1, h2, h3, h4, h5, h6, fun hne => ?_⟩
  obtain ⟨b, o, e, hb, hc⟩ := h7 hne
  exact ⟨b, o, e, hS b hb, fun i hi => (hw.cell hb).trans (hc i hi)⟩

theorem KSlS.agree {n : Nat} {S S' : Nat → Prop} {w w' : World} {R R' : Tr n → Value → Value → Prop} {v : Value} {ks : List (Tr n)} (h : KSlS S w R v ks) (hR : ∀ t sb sk, R t sb sk → R' t sb sk) (hw : AgreeS S w w') (hS : ∀ b, S b → S' b) : KSlS S' w' R' v ks := by
  obtain ⟨a, cap, h1, h2, h3, h4, h5, h7⟩ := h
  refine ⟨a, cap, h1, h2, h3, h4, h5, fun hne => ?_⟩
  obtain ⟨b, o, e, hb, hc⟩ := h7 hne
  refine ⟨b, o, e, hS b hb, fun j t hj => ?_⟩
  obtain ⟨sb, sk, c0, c1, c2, c3, r⟩ := hc j t hj
  exact ⟨sb, sk, (hw.cell hb).trans c0, (hw.cell hb).trans c1, (hw.cell hb).trans c2, (hw.cell hb).trans c3, hR _ _ _ r⟩

theorem RepS.agree {S S' : Nat → Prop} {w w' : World} (hw : AgreeS S w w') (hS : ∀ b, S b → S' b) : ∀ {n : Nat} {t : Tr n} {sb sk : Value}, RepS S w n t sb sk → RepS S' w' n t sb sk
  | 0, t, _, _, _ => by cases t
  | _ + 1, _, _, _, h => ⟨h.1, h.2.1, h.2.2.1.agree hw hS, h.2.2.2.agree (fun _ _ _ r => RepS.agree hw hS r) hw hS⟩

theorem RepS.sl {S : Nat → Prop} {w : World} : ∀ {n : Nat} {t : Tr n} {sb sk : Value}, RepS S w n t sb sk → ∃ a l c a' l' c', sb = .slice a l c ∧ sk = .slice a' l' c'
  | 0, t, _, _, _ => by cases t
  | _ + 1, _, _, _, h => by
    obtain ⟨_, _, ⟨_, _, rfl, _⟩, ⟨_, _, rfl, _⟩⟩ := h
    exact ⟨_, _, _, _, _, _, rfl, rfl⟩

theorem BySl.toS {L B : Nat} {w : World} {v : Value} {bs : List Int} (h : BySl L B w v bs) : BySlS (fun b => L ≤ b ∧ b < B) w v bs := by
  obtain ⟨a, cap, h1, h2, h3, h4, h5, h6, h7⟩ := h
  refine ⟨a, cap, h1, h2, h3, h4, h5, h6, fun hne => ?_⟩
  obtain ⟨b, o, e, hL, hB, hc⟩ := h7 hne
  exact ⟨b, o, e, ⟨hL, hB⟩, hc⟩

theorem BySlS.to {S : Nat → Prop} {B : Nat} {w : World} {v : Value} {bs : List Int} (h : BySlS S w v bs) (hS : ∀ b, S b → b < B) : BySl 0 B w v bs := by
  obtain ⟨a, cap, h1, h2, h3, h4, h5, h6, h7⟩ := h
  refine ⟨a, cap, h1, h2, h3, h4, h5, h6, fun hne => ?_⟩
  obtain ⟨b, o, e, hb, hc⟩ := h7 hne
  exact ⟨b, o, e, Nat.zero_le _, hS b hb, hc⟩

theorem Rep.toS {L B : Nat} {w : World} : ∀ {n : Nat} {t : Tr n} {sb sk : Value}, Rep L B w n t sb sk → RepS (fun b => L ≤ b ∧ b < B) w n t sb sk
  | 0, t, _, _, _ => by cases t
  | n + 1, t, sb, sk, h => by
    obtain ⟨h0, h1, h2, a, cap, e1, e2, e3, e4, e5, e7⟩ := h
    refine ⟨h0, h1, h2.toS, a, cap, e1, e2, e3, e4, e5, fun hne => ?_⟩
    obtain ⟨b, o, e, hL, hB, hc⟩ := e7 hne
    refine ⟨b, o, e, ⟨hL, hB⟩, fun j t hj => ?_⟩
    obtain ⟨sb, sk, c0, c1, c2, c3, r⟩ := hc j t hj
    exact ⟨sb, sk, c0, c1, c2, c3, Rep.toS r⟩

theorem BySlS.none (S : Nat → Prop) (w : World) : BySlS S w (.slice none 0 0) [] := ⟨_, 0, rfl, Nat.le_refl _, Nat.zero_le _, fun _ => ⟨rfl, rfl⟩, by simp, by simp, fun h => absurd rfl h⟩

theorem KSlS.none {n : Nat} (S : Nat → Prop) (w : World) (R : Tr n → Value → Value → Prop) : KSlS S w R (.slice none 0 0) [] := ⟨_, 0, rfl, Nat.le_refl _, Nat.zero_le _, fun _ => ⟨rfl, rfl⟩, by simp, fun h => absurd rfl h⟩

/-- v is a slice of the values ts that the call itself has built, in a row of blocks from base on; each value lies in blocks of S, all below base, and in blocks of its own from base on, which are none of the row. -/
def BInv {n : Nat} (S : Nat → Prop) (base : Nat) (ts : List (Tr n)) (v : Value) (w : World) : Prop :=
  ∃ ps : List (Value × Value), ps.length = ts.length ∧ w.ownsRow base 93 4 v ts.length (cellsK ts ps) ∧
    ∀ (j : Nat) (t : Tr n) (p : Value × Value), ts[j]? = some t → ps[j]? = some p → ∃ L B, RepS (fun b => S b ∨ (L ≤ b ∧ b < B)) w n t p.1 p.2 ∧ base ≤ L ∧ B ≤ w.heap.size ∧ (∀ r, v.ownBlock = some r → r < L ∨ B ≤ r)

theorem BInv.nil {n : Nat} (S : Nat → Prop) (base : Nat) (w : World) : BInv S base ([] : List (Tr n)) (.slice none 0 0) w := ⟨[], rfl, World.ownsRow_nil _ _ _ _, by simp⟩

theorem BInv.agree {n base : Nat} {S : Nat → Prop} {ts : List (Tr n)} {v : Value} {w w' : World} (h : BInv S base ts v w) (hO : AgreeS S w w') (hA : Agree base w.heap.size w w') (hs : w.heap.size ≤ w'.heap.size) : BInv S base ts v w' := by
  obtain ⟨ps, hl, hown, hk⟩ := h
  refine ⟨ps, hl, ownsRow_agree hown hA, fun j t p hj hp => ?_⟩
  obtain ⟨L, B, hr, hL, hB, hd⟩ := hk j t p hj hp
  refine ⟨L, B, hr.agree (fun b hb => ?_) (fun _ h => h), hL, by omega, hd⟩
  rcases hb with hb | hb
  · exact hO b hb
  · exact hA b (by omega) (by omega)

theorem BInv.lt {n base : Nat} {S : Nat → Prop} {ts : List (Tr n)} {v : Value} {w : World} (h : BInv S base ts v w) : ∀ r, v.ownBlock = some r → base ≤ r ∧ r < w.heap.size := by
  obtain ⟨ps, hl, hown, _⟩ := h
  exact hown.lt

theorem BInv.form {n base : Nat} {S : Nat → Prop} {ts : List (Tr n)} {v : Value} {w : World} (h : BInv S base ts v w) : ∃ a c, v = .slice a ts.length c := by
  obtain ⟨ps, hl, hown, _⟩ := h
  rcases hown.2 with ⟨rfl, h0⟩ | ⟨g, cap, cur, rfl, _⟩
  · exact ⟨_, _, by rw [h0]⟩
  · exact ⟨_, _, rfl⟩

theorem BInv.push {n base g cap L B : Nat} {S : Nat → Prop} {ts : List (Tr n)} {t : Tr n} {v sb sk : Value} {ps : List (Value × Value)} {w w' : World} (hl : ps.length = ts.length) (hS : ∀ b, S b → b < base) (hbw : base ≤ w.heap.size)
    (hk : ∀ (j : Nat) (t : Tr n) (p : Value × Value), ts[j]? = some t → ps[j]? = some p → ∃ L B, RepS (fun b => S b ∨ (L ≤ b ∧ b < B)) w n t p.1 p.2 ∧ base ≤ L ∧ B ≤ w.heap.size ∧ (∀ r, v.ownBlock = some r → r < L ∨ B ≤ r))
    (hr : RepS (fun b => S b ∨ (L ≤ b ∧ b < B)) w n t sb sk) (hL : base ≤ L) (hB : B ≤ w.heap.size) (hd : ∀ r, v.ownBlock = some r → base ≤ r ∧ (r < L ∨ B ≤ r))
    (hown : w'.ownsRow base 93 4 (.slice (some ⟨g, 0, none⟩) (ts.length + 1) cap) (ts.length + 1) (cellsK ts ps ++ cell4 t (sb, sk))) (hgrow : w.grownBy w' v.ownBlock) (hat : v.ownBlock = some g ∨ g = w.heap.size) :
    BInv S base (ts ++ [t]) (.slice (some ⟨g, 0, none⟩) (ts.length + 1) cap) w' := by
  have old : ∀ {L B : Nat} {t : Tr n} {sb sk : Value}, RepS (fun b => S b ∨ (L ≤ b ∧ b < B)) w n t sb sk → base ≤ L → B ≤ w.heap.size → (∀ r, v.ownBlock = some r → r < L ∨ B ≤ r) →
      RepS (fun b => S b ∨ (L ≤ b ∧ b < B)) w' n t sb sk ∧ base ≤ L ∧ B ≤ w'.heap.size ∧ (∀ r, (Value.slice (some ⟨g, 0, none⟩) (ts.length + 1) cap).ownBlock = some r → r < L ∨ B ≤ r) := by
    intro L B t sb sk hr hL hB hd'
    refine ⟨hr.agree (fun k hk => ?_) (fun _ h => h), hL, by have := hgrow.size; omega, ?_⟩
    · rcases hk with hk | hk
      · have := hS k hk
        exact hgrow.block k (by omega) (fun e => by have := (hd k e.symm).1; omega)
      · exact hgrow.block k (by omega) (fun e => by have := hd' k e.symm; omega)
    · intro r e
      simp only [Value.ownBlock, Option.some.injEq] at e
      subst e
      rcases hat with hat | hat
      · exact hd' _ hat
      · omega
  refine ⟨ps ++ [(sb, sk)], by simp [hl], ?_, ?_⟩
  · rw [cellsK_snoc _ _ _ _ hl]
    simpa using hown
  · intro j t' p hj hp
    by_cases hlt : j < ts.length
    · rw [List.getElem?_append_left hlt] at hj
      rw [List.getElem?_append_left (by omega)] at hp
      obtain ⟨L', B', q⟩ := hk j t' p hj hp
      exact ⟨L', B', old q.1 q.2.1 q.2.2.1 q.2.2.2⟩
    · have : j = ts.length := by
        have := (List.getElem?_eq_some_iff.1 hj).1
        simp at this
        omega
      subst this
      rw [List.getElem?_append_right (Nat.le_refl _)] at hj
      rw [List.getElem?_append_right (by omega)] at hp
      simp [hl] at hj hp
      subst hj hp
      exact ⟨L, B, old hr hL hB (fun r e => (hd r e).2)⟩

theorem BInv.done {n base : Nat} {S : Nat → Prop} {ts : List (Tr n)} {v : Value} {w : World} (h : BInv S base ts v w) (hlen : ts.length ≤ 2199023255552) :
    KSlS (fun b => S b ∨ (base ≤ b ∧ b < w.heap.size)) w (RepS (fun b => S b ∨ (base ≤ b ∧ b < w.heap.size)) w n) v ts := by
  obtain ⟨ps, hl, hown, hk⟩ := h
  rcases hown.2 with ⟨rfl, h0⟩ | ⟨g, cap, cur, rfl, hb, hg, hn, hc, hs, ht⟩
  · have : ts = [] := List.length_eq_zero_iff.1 h0
    subst this
    exact KSlS.none _ _ _
  · refine ⟨_, cap, rfl, hn, hc, by simp, hlen, fun _ => ⟨g, 0, rfl, .inr ⟨hb, (Array.getElem?_eq_some_iff.1 hg).1⟩, fun j t hj => ?_⟩⟩
    have hjl := (List.getElem?_eq_some_iff.1 hj).1
    obtain ⟨p, hp⟩ : ∃ p, ps[j]? = some p := ⟨ps[j]'(by omega), List.getElem?_eq_getElem (by omega)⟩
    obtain ⟨L, B, hr, hL, hB, _⟩ := hk j t p hj hp
    have cc : ∀ r, r < 4 → w.cell? ⟨g, 0 + j * 4 + r, none⟩ = (cell4 t p)[r]? := fun r hr4 => by
      rw [Nat.zero_add, hown.cellAt (j * 4 + r) (by omega), cellsK_at ts ps j t p r hj hp hr4]
    refine ⟨p.1, p.2, cc 0 (by omega), cc 1 (by omega), cc 2 (by omega), cc 3 (by omega), hr.agree (fun _ _ => rfl) (fun b hb => ?_)⟩
    rcases hb with hb | hb
    · exact .inl hb
    · exact .inr ⟨by omega, by omega⟩

end Go.Proofs.Ythbhdbjjobfchaa.Tlv
