/-
  append, as a step of a statement that draws its order.
-/
import Derived.Test.YtinijgkkmfdfiaaDoorMem
import Derived.Deep.RegionHeld3
namespace Go.Proofs.YtinijgkkmfdfiaaDoor
open Go.RowKit

theorem step_app {ops : Array Oper} {o : Oper} {a : Act} {K : Act → World → Prop} {Q : Exit → Act → World → Prop} {E : Prop} (w : World) (hgd : o.guard = none) (s x : Operand) (t e : TypeId) (z : Value) (by' : Nat)
    (ho : o.op = .call { callee := .builtin .append, args := #[s, x], argTypes := #[t, t] }) (ht : Tryd.prog.underlying t = some (.slice e)) (hin : (Tryd.prog.info? e).map (fun i => (i.zero, i.size, i.bytes)) = some (some z, 1, by'))
    (hz1 : z.cells.size = 1) (v vx : Value) (xs ys : List Value) (n : Nat) (hn : xs.length + ys.length = n) (hs : a.eval s = v) (hx : a.eval x = vx)
    (hown : Row w e v xs) (hy : Src w vx ys) (hlen : n ≤ 1000000) (hby : by' ≤ 1000)
    (h : ∀ a' cap' w', Row w' e (.slice a' n cap') (xs ++ ys) → w.grownBy w' v.ownBlock → ((Value.slice a' n cap').ownBlock = v.ownBlock ∨ (Value.slice a' n cap').ownBlock = some w.heap.size) → K (a.put o.dst (.slice a' n cap')) w') :
    if Region.wanted o (yielded ops a.tmps) = true then Oper.wp Tryd.prog o a w K Q else E := by
  have hw : Region.wanted o (yielded ops a.tmps) = true := by simp [Region.wanted, hgd]
  rw [if_pos hw]
  obtain ⟨i0, hi, hz0, hz1', hz2⟩ := info_parts hin
  subst hn
  have key : ∃ v' w', (Builtin.append_ #[t, t] o.type #[v, vx]).run Tryd.prog w = .ok v' w' ∧ Row w' e v' (xs ++ ys) ∧ w.grownBy w' v.ownBlock ∧ (v'.ownBlock = v.ownBlock ∨ v'.ownBlock = some w.heap.size) := by
    rcases hy with ⟨rfl, rfl⟩ | ⟨ad, c, rfl, hc, h1⟩
    · have hrun := run_append_owned_none (P := Tryd.prog) (w := w) 0 t o.type e i0 1 ht hi v xs.length xs hown
      exact ⟨v, w, hrun, by rw [List.append_nil]; exact hown, ⟨rfl, rfl, rfl, Nat.le_refl _, fun _ _ _ => rfl⟩, .inl rfl⟩
    · have hb : (xs.length + ys.length) * by' ≤ 140737488355328 := by
        have : (xs.length + ys.length) * by' ≤ 1000000 * 1000 := Nat.mul_le_mul hlen hby
        omega
      obtain ⟨v', w', hr, h2, h3, _, h5⟩ := run_append_own_at (P := Tryd.prog) w 0 t o.type e i0 z 1 by' ht hi hz0 hz1' hz2 hz1 (by decide) v xs.length xs hown ad ys.length c ys (by simp) hc h1 (by unfold maxLen; omega) hb (Nat.zero_le _)
      exact ⟨v', w', hr, by unfold Row; rw [List.length_append]; exact h2, h3, h5⟩
  obtain ⟨v', w', hr, h1, h2, h3⟩ := key
  obtain ⟨a', cap', rfl, _⟩ := h1.shape
  rw [List.length_append] at h1 h3 hr
  unfold Oper.wp execOp
  simp only [ho, resolve, invoke, builtin, Sem.run_bind, Sem.run_pure, Result.andThen_ok, List.map_toArray, List.map_cons, List.map_nil, hs, hx, hr]
  exact h a' cap' w' h1 h2 h3

end Go.Proofs.YtinijgkkmfdfiaaDoor
