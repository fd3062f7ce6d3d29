/-
  ChunkerSync: what lies ahead of the walk: fronts and rests of rows, two appends, chunks behind an end.
-/
import Derived.Test.YtinijgkkmfdfiaaDoorStreams
import Derived.Test.YtinijgkkmfdfiaaDoorBack
namespace Go.Proofs.YtinijgkkmfdfiaaDoor
open Go.RowKit

theorem LsP.front {P : Nat → Prop} {w : World} {a : Option Addr} {n0 cap : Nat} {cs : List (List Nat)} (h : LsP P w (.slice a n0 cap) cs) (n : Nat) (hn : n ≤ cs.length) : LsP P w (.slice a n cap) (cs.take n) := by
  obtain ⟨a', cap', e, h2, h3, h4, h5, h7⟩ := h
  cases e
  have hl : (cs.take n).length = n := List.length_take_of_le hn
  refine ⟨a, cap, by rw [hl], by omega, h3, fun e => ?_, by omega, fun hne => ?_⟩
  · obtain ⟨rfl, rfl⟩ := h4 e
    exact ⟨by simp, rfl⟩
  · have hb : cs ≠ [] := fun e => hne (by rw [e]; simp)
    obtain ⟨g, o, e, hg, hg', hc⟩ := h7 hb
    refine ⟨g, o, e, hg, hg', fun i hi => ?_⟩
    obtain ⟨u, hu, hb⟩ := hc i (by omega)
    have : (cs.take n).getD i [] = cs.getD i [] := by simp [show i < n by omega]
    rw [this]
    exact ⟨u, hu, hb⟩
theorem LsP.rest {P : Nat → Prop} {w : World} {a : Option Addr} {n0 cap : Nat} {cs : List (List Nat)} (h : LsP P w (.slice a n0 cap) cs) (n : Nat) (hn : n ≤ cs.length) :
    LsP P w (.slice (if cap = n then a else Option.map (fun x => x.add n) a) (n0 - n) (cap - n)) (cs.drop n) := by
  obtain ⟨a', cap', e1, h2, h3, h4, h5, h7⟩ := h
  cases e1
  have hl : (cs.drop n).length = cs.length - n := List.length_drop
  by_cases e : cap = n
  · rw [if_pos e]
    have hd : cs.drop n = [] := List.drop_eq_nil_iff.2 (by omega)
    rw [hd]
    exact ⟨a, cap - n, by simp; omega, by simp, by omega, fun _ => ⟨rfl, by omega⟩, by simp, fun h => absurd rfl h⟩
  · rw [if_neg e]
    refine ⟨_, cap - n, by rw [hl], by omega, by omega, fun e => ?_, by omega, fun hne => ?_⟩
    · obtain ⟨rfl, rfl⟩ := h4 (by cases a with
        | none => rfl
        | some x => simp at e)
      exact ⟨by simp, by simp⟩
    · have hb : cs ≠ [] := fun e => hne (by rw [e]; simp)
      obtain ⟨g, o, e, hg, hg', hc⟩ := h7 hb
      subst e
      refine ⟨g, o + n, by rw [Option.map_some, addr_add], hg, hg', fun i hi => ?_⟩
      obtain ⟨u, hu, hb⟩ := hc (n + i) (by omega)
      have : (cs.drop n).getD i [] = cs.getD (n + i) [] := by simp
      rw [Nat.add_assoc, this]
      exact ⟨u, hu, hb⟩

/-- append([]byte{}, ..): new. -/
theorem app_one {w wA : World} {v : Value} (hg : (w.alloc (.cells #[] 5)).grownBy wA (Value.slice (some ⟨w.heap.size, 0, none⟩) 0 0).ownBlock) (hv : v.ownBlock = (Value.slice (some ⟨w.heap.size, 0, none⟩) 0 0).ownBlock ∨ v.ownBlock = some (w.alloc (.cells #[] 5)).heap.size) :
    Below w.heap.size w wA ∧ ∀ x, v.ownBlock = some x → w.heap.size ≤ x :=
  ⟨((Below.refl _ _).alloc (Nat.le_refl _) _).grown hg (by simp) (fun x hx => by simp [Value.ownBlock] at hx; omega), own_ge hv (fun x hx => by simp [Value.ownBlock] at hx; omega) (by simp)⟩
/-- .. and bytes behind it. -/
theorem app_two {w wA wB : World} {v v' : Value} {xs ys : List Nat} (h : Below w.heap.size w wA ∧ ∀ x, v.ownBlock = some x → w.heap.size ≤ x) (hr : Row wB 5 v' (([] ++ cl xs) ++ cl ys)) (hg : wA.grownBy wB v.ownBlock) (hv : v'.ownBlock = v.ownBlock ∨ v'.ownBlock = some wA.heap.size)
    (hl : (xs ++ ys).length ≤ 1000000) (hb : ∀ x ∈ xs ++ ys, x < 256) : ByP (w.heap.size ≤ ·) wB v' (xs ++ ys) ∧ Below w.heap.size w wB := by
  refine ⟨OwnB.byP (xs := xs ++ ys) ?_ (own_ge hv h.2 h.1.size) hl hb, h.1.grown hg h.1.size h.2⟩
  unfold OwnB
  rwa [List.nil_append, ← cl_append] at hr
theorem ByP.bts {P : Nat → Prop} {w : World} {v : Value} {bs : List Nat} (h : ByP P w v bs) : ∀ x ∈ bs, x < 256 := by
  obtain ⟨_, _, _, _, _, _, _, h6, _⟩ := h
  exact h6

/-- What lies behind an end is cut alike. -/
theorem sync_math (E : List Nat → Bool) (xa xb ts : List Nat) (i k : Nat) (hi : i ≤ (split E (xa ++ ts)).length) (hk : k ≤ (split E (xb ++ ts)).length)
    (h1 : xa.length ≤ ((split E (xa ++ ts)).take i).flatten.length)
    (h2 : ((xa ++ ts).length : Int) - (((split E (xa ++ ts)).take i).flatten.length : Int) = ((xb ++ ts).length : Int) - (((split E (xb ++ ts)).take k).flatten.length : Int)) :
    (split E (xa ++ ts)).drop i = (split E (xb ++ ts)).drop k := by
  rw [split_drop i _ hi, split_drop k _ hk]
  generalize ((split E (xa ++ ts)).take i).flatten.length = p at *
  generalize ((split E (xb ++ ts)).take k).flatten.length = q at *
  rw [List.length_append, List.length_append] at h2
  have hq : q = p - xa.length + xb.length := by omega
  rw [List.drop_append, List.drop_append, List.drop_eq_nil_iff.2 h1, List.drop_eq_nil_iff.2 (show xb.length ≤ q by omega)]
  simp only [List.nil_append]
  congr 2
  omega

end Go.Proofs.YtinijgkkmfdfiaaDoor
