/-
  Find and dir, of the document.
-/
import Derived.Test.YtdooiflmjeibdaaDoorTrIns
namespace Go.Proofs.YtdooiflmjeibdaaDoor.Tr
open Go.RowKit

theorem str_eq (s p : ByteArray) : (s.toList == p.toList) = decide (s = p) := by
  rw [Bool.eq_iff_iff, beq_iff_eq, decide_eq_true_eq, ByteArray.toList_eq, ByteArray.toList_eq, ba_eq]
/-- Up to i there is none of that path. -/
def NoneTo (t : List It) (p : ByteArray) (i : Nat) : Prop := ∀ j y, j < i → t[j]? = some y → y.1 ≠ p
theorem none_step {t : List It} {p : ByteArray} {i : Nat} {x : It} (h : NoneTo t p i) (hx : t[i]? = some x) (hne : x.1 ≠ p) : NoneTo t p (i + 1) := fun j y hj hy => by
  by_cases e : j = i
  · subst e
    rw [hx] at hy
    cases hy
    exact hne
  · exact h j y (by omega) hy
theorem none_look {t : List It} {p : ByteArray} {i : Nat} (h : NoneTo t p i) (hi : t.length ≤ i) : look t p = none := look_none' (fun x hx => by
  obtain ⟨j, hj⟩ := List.mem_iff_getElem?.1 hx
  exact h j x (by have := (List.getElem?_eq_some_iff.1 hj).1; omega) hj)
theorem some_look {t : List It} {p : ByteArray} {i : Nat} {x : It} (h : NoneTo t p i) (hx : t[i]? = some x) (e : x.1 = p) : look t p = some x := by
  have hp : IdxP t (fun x => decide (x.1 = p)) (i : Int) := idx_some hx (by simpa using e) (fun j y hj hy => by simpa using h j y hj hy)
  rcases hp.find with ⟨h1, _⟩ | ⟨i', x', h1, h2, h3⟩
  · omega
  · have : i = i' := by omega
    subst this
    rw [hx] at h2
    cases h2
    exact h3
theorem zero_blk (w : World) (t : TypeId) : ∀ V, Kp No (w.alloc (.cells #[.string ⟨#[]⟩, .bool false, .slice none 0 0] t)) V → Blk V w.heap.size t zeroC := fun _ k => (Blk.new w t zeroC).kp k (fun h => h)




end Go.Proofs.YtdooiflmjeibdaaDoor.Tr
