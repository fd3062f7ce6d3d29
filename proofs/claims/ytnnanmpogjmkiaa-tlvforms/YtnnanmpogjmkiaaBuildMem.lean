/-
  What the statements' build makes of nodes: the memory of its loop and of its end.
-/
import Derived.Test.YtnnanmpogjmkiaaBuild
namespace Go.Proofs.Ytnnanmpogjmkiaa
open Go.RowKit

theorem Try.info29' : (Try.prog.info? 29).map (fun i => (i.zero, i.size, i.bytes)) = some (some (.agg #[.int .i64 0, .int .u64 0, .slice none 0 0, .slice none 0 0]), 4, 64) := by kernel_rfl

/-- What holds at each round of build's loop. -/
def LInv (d B0 z : Nat) (W0 : World) (nl : List Nd) (many : Int) (st : List (Tr (d + 1)) × Nat) (p k : Nat) (va vb : Value) (wr : World) : Prop :=
  ∃ (fuel : Nat) (ts : List (Tr (d + 1))), ts.length = k ∧ nl.length ≤ p + fuel ∧ bldGo (bld d) nl many fuel k p ts = st ∧
    GInv 29 (fun b => b < B0) (z + 4) vb.ownBlock ts va wr ∧ GInv 32 (fun b => b < B0) (z + 4) va.ownBlock ts vb wr ∧ Below (z + 2) W0 wr ∧ z + 4 ≤ wr.heap.size

theorem LInv.below {d B0 z : Nat} {W0 : World} {nl : List Nd} {many : Int} {st : List (Tr (d + 1)) × Nat} {p k : Nat} {va vb : Value} {wr w' : World} (h : LInv d B0 z W0 nl many st p k va vb wr) (hB : B0 ≤ z) (hb : Below wr.heap.size wr w') : LInv d B0 z W0 nl many st p k va vb w' := by
  obtain ⟨fuel, ts, h1, h2, h3, iA, iB, bl, hz⟩ := h
  have hs := hb.size
  have aS : AgreeS (fun b => b < B0) wr w' := AgreeS.below hb (fun b hb => by omega)
  exact ⟨fuel, ts, h1, h2, h3, iA.agree aS (Agree.below hb) hs, iB.agree aS (Agree.below hb) hs, bl.trans (hb.mono (by omega)), by omega⟩

/-- The end: eight cells of the results are set, and no other. -/
theorem build_fin {d B0 : Nat} {w W0 wq w' : World} {nl : List Nd} {many : Int} {st : List (Tr (d + 1)) × Nat} {p k : Nat} {va vb s : Value} {R : Tr (d + 2) × Nat} {tag num : Int} {bs : List Int}
    (hB : B0 ≤ w.heap.size) (hB0 : Below w.heap.size w W0) (HI : LInv d B0 w.heap.size W0 nl many st p k va vb wq) (hk : k ≤ 40)
    (hstop : ¬ ((k : Int) < many ∧ p < nl.length) ∨ (bld d (nl.drop p)).2 = 0) (HR : R = (Tr.mk tag num bs st.1, st.2)) (n0 : 0 ≤ num) (n1 : num ≤ 18446744073709551615) (hby : BySl 0 B0 w s bs)
    (hw : ∀ b, b < w.heap.size ∨ w.heap.size + 4 ≤ b → w'.heap[b]? = wq.heap[b]?) (hsz : w'.heap.size = wq.heap.size) (hbl : Below w.heap.size wq w') :
    R.1.hd.1 = tag ∧ R.1.hd.2.1 = num ∧ R.2 = p ∧ RepS (fun b => b < B0 ∨ (w.heap.size ≤ b ∧ b < w'.heap.size)) w' (d + 2) R.1 s va ∧ RepS (fun b => b < B0 ∨ (w.heap.size ≤ b ∧ b < w'.heap.size)) w' (d + 2) R.1 s vb ∧ Below w.heap.size w w' := by
  obtain ⟨fuel, ts, h1, h2, h3, iA, iB, bl, hz⟩ := HI
  rw [bldGo_stop hstop] at h3
  subst h3
  subst HR
  have hbw : Below w.heap.size w w' := (hB0.trans (bl.mono (by omega))).trans hbl
  have aS : AgreeS (fun b => b < B0) w w' := AgreeS.below hbw (fun b hb => by omega)
  have aQ : AgreeS (fun b => b < B0 ∨ (w.heap.size + 4 ≤ b ∧ b < wq.heap.size)) wq w' := fun b hb => hw b (by omega)
  have sub : ∀ b, (b < B0 ∨ (w.heap.size + 4 ≤ b ∧ b < wq.heap.size)) → (b < B0 ∨ (w.heap.size ≤ b ∧ b < w'.heap.size)) := fun b hb => by omega
  have by' : BySlS (fun b => b < B0 ∨ (w.heap.size ≤ b ∧ b < w'.heap.size)) w' s bs := (hby.toS).agree (fun b hb => aS b hb.2) (fun b hb => .inl hb.2)
  have kA := (iA.done (by omega)).agree (fun _ _ _ r => r.agree aQ sub) aQ sub
  have kB := (iB.done (by omega)).agree (fun _ _ _ r => r.agree aQ sub) aQ sub
  exact ⟨rfl, rfl, rfl, ⟨n0, n1, by', kA⟩, ⟨n0, n1, by', kB⟩, hbw⟩

abbrev ob {n : Nat} (t : Tr n) (sb sk : Value) (e : TypeId) : Obj := Obj.cells #[Value.int .i64 t.hd.1, Value.int .u64 t.hd.2.1, sb, sk] e

theorem newsOb {n : Nat} (w : World) (t : Tr n) (sb sk : Value) (e : TypeId) : ∀ j u, (cell4 t (sb, sk))[j]? = some u → (w.alloc (ob t sb sk e)).cell? ((⟨w.heap.size, 0, none⟩ : Addr).add j) = some u :=
  World.news_of_block (cs := #[Value.int .i64 t.hd.1, Value.int .u64 t.hd.2.1, sb, sk]) (t := e) (fr := (0, 0)) (heap_alloc_new _ _)

theorem one4' {n : Nat} (t : Tr n) (a : Option Addr) (l c : Nat) (a' : Option Addr) (l' c' : Nat) : ∀ u ∈ cell4 t (.slice a l c, .slice a' l' c'), u.oneCell' = true := one4 t a l c a' l' c'

/-- Both rows behind the first one's growth. -/
theorem grow_one {n B0 base L B g cap k : Nat} {e e' : TypeId} {ts ts' : List (Tr n)} {t : Tr n} {va vb sb sk : Value} {wq w3 : World} {ps : List (Value × Value)} (hk : ts.length = k) (hB : B0 ≤ base) (hbw : base ≤ wq.heap.size)
    (hoA : ∀ r, vb.ownBlock = some r → base ≤ r ∧ r < wq.heap.size ∧ va.ownBlock ≠ some r) (hl : ps.length = ts.length)
    (hkid : ∀ (j : Nat) (t : Tr n) (p : Value × Value), ts[j]? = some t → ps[j]? = some p → ∃ L B, RepS (fun b => b < B0 ∨ (L ≤ b ∧ b < B)) wq n t p.1 p.2 ∧ base ≤ L ∧ B ≤ wq.heap.size ∧ (∀ r, va.ownBlock = some r → r < L ∨ B ≤ r) ∧ (∀ r, vb.ownBlock = some r → r < L ∨ B ≤ r))
    (iB : GInv e' (fun b => b < B0) base va.ownBlock ts' vb wq)
    (hr : RepS (fun b => b < B0 ∨ (L ≤ b ∧ b < B)) wq n t sb sk) (hL : base ≤ L) (hBB : B ≤ wq.heap.size) (ltA : ∀ r, va.ownBlock = some r → base ≤ r ∧ (r < L ∨ B ≤ r)) (ltB : ∀ r, vb.ownBlock = some r → r < L ∨ B ≤ r)
    (hown : w3.ownsRow base e 4 (.slice (some ⟨g, 0, none⟩) (k + 1) cap) (k + 1) (cellsK ts ps ++ cell4 t (sb, sk))) (hgrow : wq.grownBy w3 va.ownBlock) (hat : va.ownBlock = some g ∨ g = wq.heap.size) (hg : g < w3.heap.size) :
    GInv e (fun b => b < B0) base vb.ownBlock (ts ++ [t]) (.slice (some ⟨g, 0, none⟩) (k + 1) cap) w3 ∧ GInv e' (fun b => b < B0) base (some g) ts' vb w3 := by
  subst hk
  exact ⟨GInv.push hl (fun b hb => by omega) hbw hoA hkid hr hL hBB ltA ltB hown hgrow hat, iB.other (fun b hb => by omega) hbw hgrow hat hg⟩

end Go.Proofs.Ytnnanmpogjmkiaa
