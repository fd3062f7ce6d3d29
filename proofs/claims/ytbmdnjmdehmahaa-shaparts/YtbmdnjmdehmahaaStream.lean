/-
  A stream in memory; what copy does to its rest; the mathematics of a text that comes in pieces.
-/
import Derived.Test.YtbmdnjmdehmahaaHash
import Derived.Laws.CopyOwn
namespace Go.Proofs.Ytbmdnjmdehmahaa
open Go.RowKit

/-- A stream lies at g: its engine at b, its state, the bytes of a block, how many were written. -/
def Str (w : World) (g b : Nat) (st rest : List Nat) (size : Nat) : Prop :=
  g < w.heap.size ∧ w.cell? ⟨g, 0, none⟩ = some (.func (.func 28) #[.pointer (some ⟨b, 0, none⟩)] #[]) ∧ WordsAt w g 1 st ∧ BytesAt w g 9 rest ∧ w.cell? ⟨g, 73, none⟩ = some (.int .i64 (size : Nat)) ∧
    (∀ j, w.frozen? ⟨g, j, none⟩ = false) ∧ st.length = 8 ∧ Words st ∧ rest.length = 64 ∧ ∀ x ∈ rest, x < 256

theorem Str.kept {l : List Nat} {w w' : World} {g b : Nat} {st rest : List Nat} {size : Nat} (h : Str w g b st rest size) (k : Kp l w w') (hg : g ∉ l) : Str w' g b st rest size := by
  obtain ⟨h1, h2, h3, h4, h5, h6, h7⟩ := h
  exact ⟨Nat.lt_of_lt_of_le h1 k.size, (k.cell (p := ⟨g, 0, none⟩) h1 hg).trans h2, k.words h3 h1 hg, k.bytes h4 h1 hg, (k.cell (p := ⟨g, 73, none⟩) h1 hg).trans h5, fun j => (k.frozen (p := ⟨g, j, none⟩) h1 hg).trans (h6 j), h7⟩

/-- A stream to which the bytes p were written. -/
def StrOf (w : World) (g b : Nat) (p : List Nat) : Prop :=
  ∃ rest, Str w g b (blks (p.length / 64) first8 p) rest p.length ∧ rest.take (p.length % 64) = p.drop (64 * (p.length / 64))
theorem StrOf.kept {l : List Nat} {w w' : World} {g b : Nat} {p : List Nat} (h : StrOf w g b p) (k : Kp l w w') (hg : g ∉ l) : StrOf w' g b p := by
  obtain ⟨rest, h1, h2⟩ := h
  exact ⟨rest, h1.kept k hg, h2⟩

/-- v is a slice of the bytes bs, in blocks that are not in l. -/
def BySl (l : List Nat) (w : World) (v : Value) (bs : List Nat) : Prop :=
  ∃ a cap, v = .slice a bs.length cap ∧ bs.length ≤ cap ∧ cap ≤ maxLen ∧ (a = none → bs = [] ∧ cap = 0) ∧ bs.length ≤ 140737488355328 ∧ (∀ x ∈ bs, x < 256) ∧
    (bs ≠ [] → ∃ g o, a = some ⟨g, o, none⟩ ∧ g ∉ l ∧ g < w.heap.size ∧ BytesAt w g o bs)
theorem BySl.kept {l m : List Nat} {w w' : World} {v : Value} {bs : List Nat} (h : BySl l w v bs) (k : Kp m w w') (hm : ∀ x ∈ m, x ∈ l ∨ w.heap.size ≤ x) : BySl l w' v bs := by
  obtain ⟨a, cap, h1, h2, h3, h4, h5, h6, h7⟩ := h
  refine ⟨a, cap, h1, h2, h3, h4, h5, h6, fun hne => ?_⟩
  obtain ⟨g, o, e, hgb, hg, hc⟩ := h7 hne
  exact ⟨g, o, e, hgb, Nat.lt_of_lt_of_le hg k.size, k.bytes hc hg (fun hm' => by
    rcases hm g hm' with h | h
    · exact hgb h
    · omega)⟩
theorem BySl.mono {l m : List Nat} {w : World} {v : Value} {bs : List Nat} (h : BySl l w v bs) (hm : ∀ x ∈ m, x ∈ l ∨ w.heap.size ≤ x) : BySl m w v bs := by
  obtain ⟨a, cap, h1, h2, h3, h4, h5, h6, h7⟩ := h
  refine ⟨a, cap, h1, h2, h3, h4, h5, h6, fun hne => ?_⟩
  obtain ⟨g, o, e, hgb, hg, hc⟩ := h7 hne
  exact ⟨g, o, e, fun hm' => by
    rcases hm g hm' with h | h
    · exact hgb h
    · omega, hg, hc⟩
theorem BySl.none (l : List Nat) (w : World) : BySl l w (.slice none 0 0) [] := ⟨_, 0, rfl, Nat.le_refl _, Nat.zero_le _, fun _ => ⟨rfl, rfl⟩, by simp, by simp, fun h => absurd rfl h⟩

theorem Try.info5 : (Try.prog.info? 5).map (·.size) = some 1 := by kernel_rfl

/-- copy, into cells that are there. -/
theorem wpList_copy_mid {P : Program} {w : World} {ops : Array Oper} {rest : List Oper} {o : Oper} {a : Act} {Q : Exit → Act → World → Prop} (hgd : o.guard = none) (d s : Operand) (dT sT : TypeId)
    (ho : o.op = .call { callee := .builtin .copy, args := #[d, s], argTypes := #[dT, sT] }) (elem : TypeId) (hu : P.underlying dT = some (.slice elem)) (hsz : (P.info? elem).map (·.size) = some 1)
    (g off dLen dCap : Nat) (ad : Addr) (sLen sCap : Nat) (hd : a.eval d = .slice (some ⟨g, off, none⟩) dLen dCap) (hs : a.eval s = .slice (some ad) sLen sCap)
    (cs : List Value) (hn : cs.length = Nat.min sLen dLen)
    (hsrc : ∀ j v, cs[j]? = some v → w.cell? (ad.add j) = some v) (ht : w.there g off cs.length) (h1 : ∀ v ∈ cs, v.oneCell' = true)
    (h : wpList P ops Q rest (a.put o.dst (goInt cs.length)) (w.setCells g off cs)) : wpList P ops Q (o :: rest) a w := by
  refine wpList_plain hgd fun K hK => ?_
  have hrun := run_copy_cells (P := P) w dT sT o.type elem g off dLen dCap ad sLen sCap cs hu hsz hn hsrc (fun j hj => (ht j hj).1) (fun j hj => (ht j hj).2) h1
  unfold Oper.wp
  simp [execOp, ho, resolve, invoke, builtin, hd, hs, hrun, Result.andThen]
  exact hK _ _ h

/-! ### Pieces, in plain mathematics -/
/-- Bytes laid over a block's, from h on. -/
def over (rest : List Nat) (h : Nat) (x : List Nat) : List Nat := rest.take h ++ x ++ rest.drop (h + x.length)
theorem over_length {rest : List Nat} {h : Nat} {x : List Nat} (hl : rest.length = 64) (hx : h + x.length ≤ 64) : (over rest h x).length = 64 := by simp [over]; omega
theorem over_lt {rest : List Nat} {h : Nat} {x : List Nat} (hr : ∀ y ∈ rest, y < 256) (hx : ∀ y ∈ x, y < 256) : ∀ y ∈ over rest h x, y < 256 := by
  intro y hy
  rcases List.mem_append.1 hy with hy | hy
  · rcases List.mem_append.1 hy with hy | hy
    · exact hr y (List.mem_of_mem_take hy)
    · exact hx y hy
  · exact hr y (List.mem_of_mem_drop hy)
theorem over_take {rest : List Nat} {h : Nat} {x : List Nat} (hl : h ≤ rest.length) : (over rest h x).take (h + x.length) = rest.take h ++ x := by
  rw [over, List.take_append_of_le_length (by simp; omega), List.take_of_length_le (by simp; omega)]

/-- A piece that does not fill the block. -/
theorem piece_more (p x rest : List Nat) (hr : rest.length = 64) (h : rest.take (p.length % 64) = p.drop (64 * (p.length / 64))) (hx : p.length % 64 + x.length < 64) :
    blks ((p ++ x).length / 64) first8 (p ++ x) = blks (p.length / 64) first8 p ∧ (over rest (p.length % 64) x).take ((p ++ x).length % 64) = (p ++ x).drop (64 * ((p ++ x).length / 64)) ∧ (p ++ x).length / 64 = p.length / 64 := by
  have hq : (p ++ x).length / 64 = p.length / 64 := by rw [List.length_append]; omega
  have hm : (p ++ x).length % 64 = p.length % 64 + x.length := by rw [List.length_append]; omega
  rw [hq, hm]
  refine ⟨blks_append _ _ _ _ (by omega), ?_, rfl⟩
  rw [over_take (by omega), h, List.drop_append_of_le_length (by omega)]

/-- A piece that fills the block. -/
theorem piece_full (p x rest : List Nat) (hr : rest.length = 64) (h : rest.take (p.length % 64) = p.drop (64 * (p.length / 64))) (hx : p.length % 64 + x.length = 64) :
    blks ((p ++ x).length / 64) first8 (p ++ x) = blk (blks (p.length / 64) first8 p) (over rest (p.length % 64) x) ∧ (p ++ x).length % 64 = 0 ∧ (p ++ x).drop (64 * ((p ++ x).length / 64)) = [] ∧ (p ++ x).length / 64 = p.length / 64 + 1 := by
  have hq : (p ++ x).length / 64 = p.length / 64 + 1 := by rw [List.length_append]; omega
  have hm : (p ++ x).length % 64 = 0 := by rw [List.length_append]; omega
  have ho : over rest (p.length % 64) x = p.drop (64 * (p.length / 64)) ++ x := by
    have h1 := over_take (rest := rest) (h := p.length % 64) (x := x) (by omega)
    rw [hx, List.take_of_length_le (by rw [over_length hr (by omega)]; exact Nat.le_refl _), h] at h1
    exact h1
  refine ⟨?_, hm, ?_, hq⟩
  · rw [hq, blks_add, blks_append _ _ _ _ (by omega), List.drop_append_of_le_length (by omega), ← ho]
    show blk _ ((over rest (p.length % 64) x).take 64) = _
    rw [List.take_of_length_le (by rw [over_length hr (by omega)]; exact Nat.le_refl _)]
  · apply List.drop_eq_nil_of_le
    rw [hq, List.length_append]
    omega

end Go.Proofs.Ytbmdnjmdehmahaa
