/-
  Nodes, the tree that they are, and two rows that grow beside one another: plain mathematics and memory, for the statements' build.
-/
import Derived.Test.YtnnanmpogjmkiaaRefSame
namespace Go.Proofs.Ytnnanmpogjmkiaa
open Go.RowKit

/-- A node: its tag, how many of those behind it are in it, its number, its bytes. -/
abbrev Nd := Int × Int × Int × List Int

/-- The values behind a node, i of them made, the next of them at 'p'. -/
def bldGo {α : Type} (f : List Nd → α × Nat) (ns : List Nd) (many : Int) : Nat → Int → Nat → List α → List α × Nat
  | 0, _, p, acc => (acc, p)
  | k + 1, i, p, acc => if i < many ∧ p < ns.length then
      (if (f (ns.drop p)).2 = 0 then (acc, p) else bldGo f ns many k (i + 1) (p + (f (ns.drop p)).2) (acc ++ [(f (ns.drop p)).1])) else (acc, p)

/-- The tree of nodes, d deep at most, and how many they are. -/
def bld : (d : Nat) → List Nd → Tr (d + 1) × Nat
  | 0, _ => (Tr.mk 0 0 [] [], 0)
  | _ + 1, [] => (Tr.mk 0 0 [] [], 0)
  | d + 1, x :: ns => (Tr.mk x.1 x.2.2.1 x.2.2.2 (bldGo (bld d) (x :: ns) x.2.1 (x :: ns).length 0 1 []).1, (bldGo (bld d) (x :: ns) x.2.1 (x :: ns).length 0 1 []).2)

theorem bldGo_le {α : Type} {f : List Nd → α × Nat} (hf : ∀ l, (f l).2 ≤ l.length) (ns : List Nd) (many : Int) : ∀ (k : Nat) (i : Int) (p : Nat) (acc : List α), p ≤ ns.length → p ≤ (bldGo f ns many k i p acc).2 ∧ (bldGo f ns many k i p acc).2 ≤ ns.length := by
  intro k
  induction k with
  | zero => intro i p acc h; exact ⟨Nat.le_refl _, h⟩
  | succ k ih =>
    intro i p acc h
    simp only [bldGo]
    split
    · split
      · exact ⟨Nat.le_refl _, h⟩
      · have h1 := hf (ns.drop p)
        rw [List.length_drop] at h1
        have := ih (i + 1) (p + (f (ns.drop p)).2) (acc ++ [(f (ns.drop p)).1]) (by omega)
        exact ⟨by omega, this.2⟩
    · exact ⟨Nat.le_refl _, h⟩

theorem bld_le : ∀ (d : Nat) (l : List Nd), (bld d l).2 ≤ l.length
  | 0, _ => Nat.zero_le _
  | _ + 1, [] => Nat.zero_le _
  | d + 1, x :: ns => (bldGo_le (bld_le d) (x :: ns) x.2.1 _ 0 1 [] (by simp)).2

/-- One more round. -/
theorem bldGo_step {α : Type} {f : List Nd → α × Nat} {ns : List Nd} {many : Int} {k : Nat} {i : Int} {p : Nat} {acc : List α} (hi : i < many) (hp : p < ns.length) (hk : ns.length ≤ p + k) (hz : (f (ns.drop p)).2 ≠ 0) :
    bldGo f ns many k i p acc = bldGo f ns many (k - 1) (i + 1) (p + (f (ns.drop p)).2) (acc ++ [(f (ns.drop p)).1]) := by
  obtain ⟨k', rfl⟩ : ∃ k', k = k' + 1 := ⟨k - 1, by omega⟩
  simp only [bldGo, Nat.add_sub_cancel]
  rw [if_pos ⟨hi, hp⟩, if_neg hz]

theorem bldGo_stop {α : Type} {f : List Nd → α × Nat} {ns : List Nd} {many : Int} {k : Nat} {i : Int} {p : Nat} {acc : List α} (h : ¬ (i < many ∧ p < ns.length) ∨ (f (ns.drop p)).2 = 0) : bldGo f ns many k i p acc = (acc, p) := by
  cases k with
  | zero => rfl
  | succ k =>
    simp only [bldGo]
    split
    · rename_i hc
      rcases h with h | h
      · exact absurd hc h
      · rw [if_pos h]
    · rfl

/-- Nodes lie at b, o. -/
def NodesAt (B : Nat) (w : World) (b o : Nat) (ns : List Nd) : Prop := ∀ (j : Nat) (x : Nd), ns[j]? = some x → ∃ sb, w.cell? ⟨b, o + j * 4, none⟩ = some (.int .i64 x.1) ∧ w.cell? ⟨b, o + j * 4 + 1, none⟩ = some (.int .i64 x.2.1) ∧
  w.cell? ⟨b, o + j * 4 + 2, none⟩ = some (.int .u64 x.2.2.1) ∧ w.cell? ⟨b, o + j * 4 + 3, none⟩ = some sb ∧ -9223372036854775808 ≤ x.2.1 ∧ x.2.1 ≤ 9223372036854775807 ∧ 0 ≤ x.2.2.1 ∧ x.2.2.1 ≤ 18446744073709551615 ∧ BySl 0 B w sb x.2.2.2

/-- v is a slice of nodes, in blocks below B. -/
def NSl (B : Nat) (w : World) (v : Value) (ns : List Nd) : Prop :=
  ∃ a cap, v = .slice a ns.length cap ∧ ns.length ≤ cap ∧ cap ≤ maxLen ∧ ns.length ≤ 40 ∧ (ns ≠ [] → ∃ b o, a = some ⟨b, o, none⟩ ∧ b < B ∧ NodesAt B w b o ns)

theorem NSl.below {B B' : Nat} {w w' : World} {v : Value} {ns : List Nd} (h : NSl B w v ns) (hb : Below B w w') (hB : B ≤ B') : NSl B' w' v ns := by
  obtain ⟨a, cap, h1, h2, h3, h4, h5⟩ := h
  refine ⟨a, cap, h1, h2, h3, h4, fun hne => ?_⟩
  obtain ⟨b, o, e, hbB, hn⟩ := h5 hne
  refine ⟨b, o, e, by omega, fun j x hx => ?_⟩
  obtain ⟨sb, c0, c1, c2, c3, m0, m1, n0, n1, hby⟩ := hn j x hx
  have k : ∀ q, w'.cell? ⟨b, q, none⟩ = w.cell? ⟨b, q, none⟩ := fun q => hb.cell (p := ⟨b, q, none⟩) hbB
  exact ⟨sb, (k _).trans c0, (k _).trans c1, (k _).trans c2, (k _).trans c3, m0, m1, n0, n1, hby.agree (Agree.below hb) (Nat.le_refl _) hB⟩

/-- What is left of nodes behind the first m. -/
theorem NSl.rest {B : Nat} {w : World} {b o cap : Nat} {ns : List Nd} (h : NSl B w (.slice (some ⟨b, o, none⟩) ns.length cap) ns) (m : Nat) (hm : m < ns.length) :
    NSl B w (.slice (some ⟨b, o + m * 4, none⟩) (ns.length - m) (cap - m)) (ns.drop m) := by
  obtain ⟨a', cap', e, h2, h3, h4, h5⟩ := h
  simp only [Value.slice.injEq, true_and] at e
  obtain ⟨rfl, rfl⟩ := e
  refine ⟨_, _, by rw [List.length_drop], by rw [List.length_drop]; omega, by omega, by rw [List.length_drop]; omega, fun _ => ?_⟩
  obtain ⟨b', o', e, hB, hn⟩ := h5 (by intro e; subst e; simp at hm)
  simp only [Option.some.injEq, Addr.mk.injEq, and_true] at e
  obtain ⟨rfl, rfl⟩ := e
  refine ⟨b, o + m * 4, rfl, hB, fun j x hx => ?_⟩
  rw [List.getElem?_drop] at hx
  have := hn (m + j) x hx
  rw [show o + (m + j) * 4 = o + m * 4 + j * 4 by omega] at this
  exact this

theorem RepS.toRep {S : Nat → Prop} {B : Nat} {w : World} (hS : ∀ b, S b → b < B) : ∀ {n : Nat} {t : Tr n} {sb sk : Value}, RepS S w n t sb sk → Rep 0 B w n t sb sk
  | 0, t, _, _, _ => by cases t
  | n + 1, t, sb, sk, h => by
    obtain ⟨h0, h1, h2, a, cap, e1, e2, e3, e4, e5, e7⟩ := h
    refine ⟨h0, h1, h2.to hS, a, cap, e1, e2, e3, e4, e5, fun hne => ?_⟩
    obtain ⟨b, o, e, hb, hc⟩ := e7 hne
    refine ⟨b, o, e, Nat.zero_le _, hS b hb, fun j t hj => ?_⟩
    obtain ⟨sb, sk, c0, c1, c2, c3, r⟩ := hc j t hj
    exact ⟨sb, sk, c0, c1, c2, c3, RepS.toRep hS r⟩

/-- v is a slice of the values ts, of type e, that the call itself has built, in a row of blocks from base on, beside another row, 'o'; each value lies in blocks of S, all below base, and in blocks of its own from base on, which are of neither row. -/
def GInv {n : Nat} (e : TypeId) (S : Nat → Prop) (base : Nat) (o : Option Nat) (ts : List (Tr n)) (v : Value) (w : World) : Prop :=
  (∀ r, o = some r → base ≤ r ∧ r < w.heap.size ∧ v.ownBlock ≠ some r) ∧
  ∃ ps : List (Value × Value), ps.length = ts.length ∧ w.ownsRow base e 4 v ts.length (cellsK ts ps) ∧
    ∀ (j : Nat) (t : Tr n) (p : Value × Value), ts[j]? = some t → ps[j]? = some p → ∃ L B, RepS (fun b => S b ∨ (L ≤ b ∧ b < B)) w n t p.1 p.2 ∧ base ≤ L ∧ B ≤ w.heap.size ∧ (∀ r, v.ownBlock = some r → r < L ∨ B ≤ r) ∧ (∀ r, o = some r → r < L ∨ B ≤ r)

theorem GInv.nil {n : Nat} (e : TypeId) (S : Nat → Prop) (base : Nat) (w : World) : GInv e S base none ([] : List (Tr n)) (.slice none 0 0) w := ⟨by simp, [], rfl, World.ownsRow_nil _ _ _ _, by simp⟩

theorem GInv.agree {n base : Nat} {e : TypeId} {o : Option Nat} {S : Nat → Prop} {ts : List (Tr n)} {v : Value} {w w' : World} (h : GInv e S base o ts v w) (hO : AgreeS S w w') (hA : Agree base w.heap.size w w') (hs : w.heap.size ≤ w'.heap.size) : GInv e S base o ts v w' := by
  obtain ⟨ho, ps, hl, hown, hk⟩ := h
  refine ⟨fun r hr => ⟨(ho r hr).1, by have := (ho r hr).2.1; omega, (ho r hr).2.2⟩, ps, hl, ownsRow_agree hown hA, fun j t p hj hp => ?_⟩
  obtain ⟨L, B, hr, hL, hB, hd⟩ := hk j t p hj hp
  refine ⟨L, B, hr.agree (fun b hb => ?_) (fun _ h => h), hL, by omega, hd⟩
  rcases hb with hb | hb
  · exact hO b hb
  · exact hA b (by omega) (by omega)

theorem GInv.lt {n base : Nat} {e : TypeId} {o : Option Nat} {S : Nat → Prop} {ts : List (Tr n)} {v : Value} {w : World} (h : GInv e S base o ts v w) : ∀ r, v.ownBlock = some r → base ≤ r ∧ r < w.heap.size := by
  obtain ⟨_, ps, hl, hown, _⟩ := h
  exact hown.lt

theorem GInv.form {n base : Nat} {e : TypeId} {o : Option Nat} {S : Nat → Prop} {ts : List (Tr n)} {v : Value} {w : World} (h : GInv e S base o ts v w) : ∃ a c, v = .slice a ts.length c := by
  obtain ⟨_, ps, hl, hown, _⟩ := h
  rcases hown.2 with ⟨rfl, h0⟩ | ⟨g, cap, cur, rfl, _⟩
  · exact ⟨_, _, by rw [h0]⟩
  · exact ⟨_, _, rfl⟩

/-- The other row grows. -/
theorem GInv.other {n base g : Nat} {e : TypeId} {o : Option Nat} {S : Nat → Prop} {ts : List (Tr n)} {v : Value} {w w' : World} (h : GInv e S base o ts v w) (hS : ∀ b, S b → b < base) (hbw : base ≤ w.heap.size) (hgrow : w.grownBy w' o) (hat : o = some g ∨ g = w.heap.size) (hg : g < w'.heap.size) : GInv e S base (some g) ts v w' := by
  have hlt := h.lt
  obtain ⟨ho, ps, hl, hown, hk⟩ := h
  have hs := hgrow.size
  have hvg : v.ownBlock ≠ some g := by
    intro e1
    have := hlt g e1
    rcases hat with hat | hat
    · exact (ho g hat).2.2 e1
    · omega
  refine ⟨fun r hr => ?_, ps, hl, hown.kept hgrow ?_, fun j t p hj hp => ?_⟩
  · simp only [Option.some.injEq] at hr
    subst hr
    refine ⟨?_, hg, hvg⟩
    rcases hat with hat | hat
    · exact (ho g hat).1
    · omega
  · cases hv : v.ownBlock with
    | none => exact .inl rfl
    | some r =>
      refine .inr (fun e1 => ?_)
      exact (ho r e1.symm).2.2 hv
  · obtain ⟨L, B, hr, hL, hB, hd, hd'⟩ := hk j t p hj hp
    refine ⟨L, B, hr.agree (fun b hb => ?_) (fun _ h => h), hL, by omega, hd, fun r e1 => ?_⟩
    · rcases hb with hb | hb
      · have := hS b hb
        exact hgrow.block b (by omega) (fun e1 => by have := (ho b e1.symm).1; omega)
      · exact hgrow.block b (by omega) (fun e1 => by have := hd' b e1.symm; omega)
    · simp only [Option.some.injEq] at e1
      subst e1
      rcases hat with hat | hat
      · exact hd' _ hat
      · omega

/-- The row itself grows by a value. -/
theorem GInv.push {n base g cap L B : Nat} {e : TypeId} {o : Option Nat} {S : Nat → Prop} {ts : List (Tr n)} {t : Tr n} {v sb sk : Value} {ps : List (Value × Value)} {w w' : World} (hl : ps.length = ts.length) (hS : ∀ b, S b → b < base) (hbw : base ≤ w.heap.size)
    (ho : ∀ r, o = some r → base ≤ r ∧ r < w.heap.size ∧ v.ownBlock ≠ some r)
    (hk : ∀ (j : Nat) (t : Tr n) (p : Value × Value), ts[j]? = some t → ps[j]? = some p → ∃ L B, RepS (fun b => S b ∨ (L ≤ b ∧ b < B)) w n t p.1 p.2 ∧ base ≤ L ∧ B ≤ w.heap.size ∧ (∀ r, v.ownBlock = some r → r < L ∨ B ≤ r) ∧ (∀ r, o = some r → r < L ∨ B ≤ r))
    (hr : RepS (fun b => S b ∨ (L ≤ b ∧ b < B)) w n t sb sk) (hL : base ≤ L) (hB : B ≤ w.heap.size) (hd : ∀ r, v.ownBlock = some r → base ≤ r ∧ (r < L ∨ B ≤ r)) (hd2 : ∀ r, o = some r → r < L ∨ B ≤ r)
    (hown : w'.ownsRow base e 4 (.slice (some ⟨g, 0, none⟩) (ts.length + 1) cap) (ts.length + 1) (cellsK ts ps ++ cell4 t (sb, sk))) (hgrow : w.grownBy w' v.ownBlock) (hat : v.ownBlock = some g ∨ g = w.heap.size) :
    GInv e S base o (ts ++ [t]) (.slice (some ⟨g, 0, none⟩) (ts.length + 1) cap) w' := by
  have hsz := hgrow.size
  have old : ∀ {L B : Nat} {t : Tr n} {sb sk : Value}, RepS (fun b => S b ∨ (L ≤ b ∧ b < B)) w n t sb sk → base ≤ L → B ≤ w.heap.size → (∀ r, v.ownBlock = some r → r < L ∨ B ≤ r) → (∀ r, o = some r → r < L ∨ B ≤ r) →
      RepS (fun b => S b ∨ (L ≤ b ∧ b < B)) w' n t sb sk ∧ base ≤ L ∧ B ≤ w'.heap.size ∧ (∀ r, (Value.slice (some ⟨g, 0, none⟩) (ts.length + 1) cap).ownBlock = some r → r < L ∨ B ≤ r) ∧ (∀ r, o = some r → r < L ∨ B ≤ r) := by
    intro L B t sb sk hr hL hB hd' hd''
    refine ⟨hr.agree (fun k hk => ?_) (fun _ h => h), hL, by omega, ?_, hd''⟩
    · rcases hk with hk | hk
      · have := hS k hk
        exact hgrow.block k (by omega) (fun e => by have := (hd k e.symm).1; omega)
      · exact hgrow.block k (by omega) (fun e => by have := hd' k e.symm; omega)
    · intro r e
      simp only [Value.ownBlock, Option.some.injEq] at e
      subst e
      rcases hat with hat | hat
      · exact hd' _ hat
      · omega
  refine ⟨fun r hr => ⟨(ho r hr).1, by have := (ho r hr).2.1; omega, ?_⟩, ps ++ [(sb, sk)], by simp [hl], ?_, ?_⟩
  · intro e1
    simp only [Value.ownBlock, Option.some.injEq] at e1
    subst e1
    rcases hat with hat | hat
    · exact (ho _ hr).2.2 hat
    · have := (ho _ hr).2.1; omega
  · rw [cellsK_snoc _ _ _ _ hl]
    simpa using hown
  · intro j t' p hj hp
    by_cases hlt : j < ts.length
    · rw [List.getElem?_append_left hlt] at hj
      rw [List.getElem?_append_left (by omega)] at hp
      obtain ⟨L', B', q⟩ := hk j t' p hj hp
      exact ⟨L', B', old q.1 q.2.1 q.2.2.1 q.2.2.2.1 q.2.2.2.2⟩
    · have : j = ts.length := by
        have := (List.getElem?_eq_some_iff.1 hj).1
        simp at this
        omega
      subst this
      rw [List.getElem?_append_right (Nat.le_refl _)] at hj
      rw [List.getElem?_append_right (by omega)] at hp
      simp [hl] at hj hp
      subst hj hp
      exact ⟨L, B, old hr hL hB (fun r e => (hd r e).2) hd2⟩

theorem GInv.done {n base : Nat} {e : TypeId} {o : Option Nat} {S : Nat → Prop} {ts : List (Tr n)} {v : Value} {w : World} (h : GInv e S base o ts v w) (hlen : ts.length ≤ 2199023255552) :
    KSlS (fun b => S b ∨ (base ≤ b ∧ b < w.heap.size)) w (RepS (fun b => S b ∨ (base ≤ b ∧ b < w.heap.size)) w n) v ts := by
  obtain ⟨_, ps, hl, hown, hk⟩ := h
  rcases hown.2 with ⟨rfl, h0⟩ | ⟨g, cap, cur, rfl, hb, hg, hn, hc, hs, ht⟩
  · have : ts = [] := List.length_eq_zero_iff.1 h0
    subst this
    exact KSlS.none _ _ _
  · refine ⟨_, cap, rfl, hn, hc, by simp, hlen, fun _ => ⟨g, 0, rfl, .inr ⟨hb, (Array.getElem?_eq_some_iff.1 hg).1⟩, fun j t hj => ?_⟩⟩
    have hjl := (List.getElem?_eq_some_iff.1 hj).1
    obtain ⟨p, hp⟩ : ∃ p, ps[j]? = some p := ⟨ps[j]'(by omega), List.getElem?_eq_getElem (by omega)⟩
    obtain ⟨L, B, hr, hL, hB, _⟩ := hk j t p hj hp
    have cc : ∀ r, r < 4 → w.cell? ⟨g, 0 + j * 4 + r, none⟩ = (cell4 t p)[r]? := fun r hr4 => by
      rw [Nat.zero_add, hown.cellAt (j * 4 + r) (by omega), cellsK_at ts ps j t p r hj hp hr4]
    refine ⟨p.1, p.2, cc 0 (by omega), cc 1 (by omega), cc 2 (by omega), cc 3 (by omega), hr.agree (fun _ _ => rfl) (fun b hb => ?_)⟩
    rcases hb with hb | hb
    · exact .inl hb
    · exact .inr ⟨by omega, by omega⟩

end Go.Proofs.Ytnnanmpogjmkiaa
