/-
  What the statements of nodes share: is a list light, what build and Put make of it, and bytes that begin others.
-/
import Derived.Test.YtnnanmpogjmkiaaOpenNodes
import Derived.Test.YtnnanmpogjmkiaaBuildAny
import Derived.Test.YtnnanmpogjmkiaaReads
import Derived.Test.YtnnanmpogjmkiaaSame
import Derived.Test.YtnnanmpogjmkiaaPutTop
import Derived.Test.YtnnanmpogjmkiaaTrip
namespace Go.Proofs.Ytnnanmpogjmkiaa
open Go.RowKit Go.ChangeShapes Go.WideShapes

/-- What light says of v. -/
def LightIs (v : Value) (w : World) (b : Bool) : Prop := Calls Try.prog 8 #[v] w fun e w' => e = .returned (.bool b) ∧ w' = w

theorem light_case {H : Type} {enc : TypeId × Value → H} {W : World} {a0 : Option Addr} {len cap fuel : Nat} {x : DataW H × List MemPlace}
    (h : DataW.trod enc Try.prog W 0 (fun _ => true) true fuel 22 [.slice a0 len cap] = some x) :
    ∃ b, LightIs (.slice a0 len cap) W b ∧ (b = true → ∃ ns, NSl W.heap.size W (.slice a0 len cap) ns) := by
  obtain ⟨hm, hr⟩ := nodes_of h
  by_cases h40 : len ≤ 40
  · obtain ⟨ls, hl, hat, hns⟩ := hr h40
    refine ⟨ls.all fun l => decide (l ≤ 3000), ?_, fun hb => ?_⟩
    · have := light_any a0 ls cap W (by omega) hat
      rw [hl] at this
      exact this
    · obtain ⟨ns, _, hn⟩ := hns (fun l hl => by simpa using List.all_eq_true.1 hb l hl)
      exact ⟨ns, hn⟩
  · exact ⟨false, light_long a0 len cap W (by omega) hm, fun h => by cases h⟩

theorem rep_below {w w' : World} {n : Nat} {t : Tr n} {sb sk : Value} (h : Rep 0 w.heap.size w n t sb sk) (hb : Below w.heap.size w w') : Rep 0 w'.heap.size w' n t sb sk :=
  h.agree (Agree.below hb) (Nat.le_refl _) hb.size

theorem build12 {B0 : Nat} {v : Value} {ns : List Nd} {w : World} (h : NSl B0 w v ns) (hB : B0 ≤ w.heap.size) :
    Calls Try.prog 10 #[v, .int .i64 12] w fun e w' => ∃ (t : Tr 13) (n : Nat) (a : Option Addr) (l c : Nat) (a' : Option Addr) (l' c' : Nat) (b : Option Addr) (m d : Nat) (b' : Option Addr) (m' d' : Nat),
      e = .returned (.tuple #[.agg #[.int .i64 t.hd.1, .int .u64 t.hd.2.1, .slice a l c, .slice a' l' c'], .agg #[.int .i64 t.hd.1, .int .u64 t.hd.2.1, .slice b m d, .slice b' m' d'], .int .i64 n]) ∧
      Rep 0 w'.heap.size w' 13 t (.slice a l c) (.slice a' l' c') ∧ RepS (fun b => b < w'.heap.size) w' 13 t (.slice b m d) (.slice b' m' d') ∧ Below w.heap.size w w' := by
  refine (build_any 12 (Nat.le_refl _) B0 v ns w h hB).mono ?_
  rintro e w1 ⟨sa, ka, sb, kb, rfl, ra, rb, hb⟩
  obtain ⟨a1, l1, q1, a2, l2, q2, rfl, rfl⟩ := ra.sl
  obtain ⟨a3, l3, q3, a4, l4, q4, rfl, rfl⟩ := rb.sl
  have hs := hb.size
  have sub : ∀ b, (b < B0 ∨ (w.heap.size ≤ b ∧ b < w1.heap.size)) → b < w1.heap.size := fun b h => by omega
  exact ⟨_, _, a1, l1, q1, a2, l2, q2, a3, l3, q3, a4, l4, q4, rfl, ra.toRep sub, rb.agree (fun _ _ => rfl) sub, hb⟩

theorem put_one {n : Nat} (t : Tr n) (sb sk : Value) (w : World) (h : Rep 0 w.heap.size w n t sb sk) :
    Calls Try.prog 11 #[.agg #[.int .i64 t.hd.1, .int .u64 t.hd.2.1, sb, sk]] w fun e w' => ((szT n t = 0 ∧ e = .returned (.tuple #[.slice none 0 0, .int .i64 1])) ∨
      (szT n t ≠ 0 ∧ ∃ a c, e = .returned (.tuple #[.slice a (formOf n t).length c, .int .i64 0]) ∧ BySl 0 w'.heap.size w' (.slice a (formOf n t).length c) (formOf n t))) ∧ Below w.heap.size w w' := by
  by_cases hz : szT n t = 0
  · refine (Put_no t sb sk w h hz).mono ?_
    rintro e w1 ⟨rfl, hb⟩
    exact ⟨.inl ⟨hz, rfl⟩, hb⟩
  · refine (Put_yes t sb sk w h hz).mono ?_
    rintro e w1 ⟨v, rfl, hv, hb⟩
    obtain ⟨a, c, rfl, _⟩ := id hv
    exact ⟨.inr ⟨hz, a, c, rfl, hv.agree (Agree.refl _ _ _) (Nat.zero_le _) (Nat.le_refl _)⟩, hb⟩

theorem szT_right {n : Nat} {t : Tr n} (h : szT n t ≠ 0) : (bsz n t 65535 8).2 = true := by
  unfold szT at h
  split at h
  · assumption
  · exact absurd rfl h

/-- Bytes that begin others. -/
theorem bySl_take {L B : Nat} {w : World} {a : Option Addr} {cap : Nat} {bs : List Int} (h : BySl L B w (.slice a bs.length cap) bs) (m : Nat) (hm : m ≤ bs.length) : BySl L B w (.slice a m cap) (bs.take m) := by
  obtain ⟨a', cap', e, h2, h3, h4, h5, h6, h7⟩ := h
  simp only [Value.slice.injEq, true_and] at e
  obtain ⟨rfl, rfl⟩ := e
  have hl : (bs.take m).length = m := List.length_take_of_le hm
  refine ⟨a, cap, by rw [hl], by omega, h3, fun e => ?_, by omega, fun x hx => h6 x (List.mem_of_mem_take hx), fun hne => ?_⟩
  · obtain ⟨e1, e2⟩ := h4 e
    exact ⟨by rw [e1]; simp, e2⟩
  · obtain ⟨b, o, e1, e2, e3, e4⟩ := h7 (by intro e; subst e; simp at hne)
    refine ⟨b, o, e1, e2, e3, fun i hi => ?_⟩
    rw [hl] at hi
    rw [e4 i (by omega)]
    simp [hi]

theorem alive_at {W w5 : World} (hb : Below W.heap.size W w5) : Calls Try.prog 9 #[] w5 fun e w' => e = .returned (.bool true) ∧ Below W.heap.size W w' := by
  refine (alive_any w5).mono ?_
  rintro e w6 ⟨rfl, hb6⟩
  exact ⟨rfl, hb.trans (hb6.mono hb.size)⟩

end Go.Proofs.Ytnnanmpogjmkiaa
