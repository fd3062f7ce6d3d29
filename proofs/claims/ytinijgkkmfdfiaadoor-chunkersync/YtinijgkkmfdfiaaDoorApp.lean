/-
  Bytes laid behind bytes: append to a row of the call's own, bytes.Clone.
-/
import Derived.Test.YtinijgkkmfdfiaaDoorRow
import Derived.Lib.AppendZerosOnto
namespace Go.Proofs.YtinijgkkmfdfiaaDoor
open Go.RowKit

theorem Tryd.info5 : (Tryd.prog.info? 5).map (fun i => (i.zero, i.size, i.bytes)) = some (some (.int .u8 0), 1, 1) := by kernel_rfl

/-- Bytes as cells. -/
def cl (xs : List Nat) : List Value := xs.map fun x : Nat => .int .u8 (x : Int)
theorem cl_length (xs : List Nat) : (cl xs).length = xs.length := by simp [cl]
theorem cl_append (xs ys : List Nat) : cl (xs ++ ys) = cl xs ++ cl ys := by simp [cl]
theorem cl_at (xs : List Nat) (i : Nat) (h : i < xs.length) : (cl xs)[i]? = some (.int .u8 (xs.getD i 0 : Nat)) := by simp [cl, List.getElem?_eq_getElem h]

/-- v is a row of the call's own, from block base on, of the bytes xs. -/
def OwnR (w : World) (base : Nat) (v : Value) (xs : List Nat) : Prop := w.ownsRow base 5 1 v xs.length (cl xs)

theorem OwnR.ge {w : World} {base : Nat} {v : Value} {xs : List Nat} (h : OwnR w base v xs) : ∀ k, v.ownBlock = some k → base ≤ k := by
  intro k hk
  rcases h.2 with ⟨rfl, _⟩ | ⟨g, cap, cur, rfl, hb, _⟩
  · simp [Value.ownBlock] at hk
  · simp [Value.ownBlock] at hk
    omega

theorem OwnR.mono {w : World} {base base' : Nat} {v : Value} {xs : List Nat} (h : OwnR w base v xs) (hb : base' ≤ base) : OwnR w base' v xs := by
  refine ⟨h.1, ?_⟩
  rcases h.2 with h | ⟨g, cap, cur, rfl, hg, r⟩
  · exact .inl h
  · exact .inr ⟨g, cap, cur, rfl, by omega, r⟩

theorem OwnR.bySl {w : World} {base b : Nat} {v : Value} {xs : List Nat} (h : OwnR w base v xs) (hb : b < base) (hl : xs.length ≤ 100000) (hx : ∀ x ∈ xs, x < 256) : BySl b w v xs := by
  rcases h.2 with ⟨rfl, h0⟩ | ⟨g, cap, cur, rfl, hg, hh, hn, hc, hs, ht⟩
  · have : xs = [] := List.length_eq_zero_iff.1 h0
    subst this
    exact BySl.none _ _
  · refine ⟨_, cap, rfl, hn, hc, by simp, by omega, hx, fun _ => ⟨g, 0, rfl, by omega, (Array.getElem?_eq_some_iff.1 hh).1, fun i hi => ?_⟩⟩
    have h1 : w.ownsRow base 5 1 (.slice (some ⟨g, 0, none⟩) xs.length cap) xs.length (cl xs) := h
    rw [Nat.zero_add, h1.cellAt i (by omega)]
    exact cl_at xs i hi

/-- append(v, x...), v of the call's own. -/
theorem app_bytes {ops : Array Oper} {rest : List Oper} {o : Oper} {a : Act} {Q : Exit → Act → World → Prop} (w : World) (hgd : o.guard = none) (s x : Operand)
    (ho : o.op = .call { callee := .builtin .append, args := #[s, x], argTypes := #[25, 25] }) (base b : Nat) (v vx : Value) (xs ys : List Nat) (hs : a.eval s = v) (hx : a.eval x = vx)
    (hown : OwnR w base v xs) (hy : BySl b w vx ys) (hlen : xs.length + ys.length ≤ 100000) (hbase : base ≤ w.heap.size)
    (h : ∀ v' w', OwnR w' base v' (xs ++ ys) → Below base w w' → wpList Tryd.prog ops Q rest (a.put o.dst v') w') : wpList Tryd.prog ops Q (o :: rest) a w := by
  obtain ⟨i0, hi, hz0, hz1, hz2⟩ := info_parts Tryd.info5
  obtain ⟨ad, cap, rfl, h2, h3, h4, h5, h6, h7⟩ := hy
  cases ad with
  | none =>
    obtain ⟨rfl, rfl⟩ := h4 rfl
    refine wpList_append_own_none hgd s x 25 ho base 5 i0 1 Tryd.underlying25 hi v xs.length (cl xs) hs hown hx ?_
    exact h v w (by rw [List.append_nil]; exact hown) (Below.refl _ _)
  | some ad =>
    refine wpList_append_own w hgd s x 25 ho base 5 i0 (.int .u8 0) 1 1 Tryd.underlying25 hi hz0 hz1 hz2 rfl (by decide) v xs.length (cl xs) hs hown ad ys.length cap (cl ys) hx ?_ ?_ ?_ ?_ ?_ hbase ?_
    · rw [cl_length, Nat.mul_one]
    · intro j u hj
      have hjn : j < ys.length := by
        have := (List.getElem?_eq_some_iff.1 hj).1
        rwa [cl_length] at this
      obtain ⟨g, o, e, _, hb, hc⟩ := h7 (by intro e; subst e; simp at hjn)
      simp only [Option.some.injEq] at e
      subst e
      rw [addr_add, hc j hjn, ← cl_at ys j hjn]
      exact hj
    · intro u hu; obtain ⟨x, _, rfl⟩ := List.mem_map.1 hu; rfl
    · unfold maxLen; omega
    · omega
    · intro v' w' h8 h9 _
      refine h v' w' ?_ ((Below.refl _ w).grown h9 hbase hown.ge)
      unfold OwnR
      rw [cl_append, List.length_append]
      exact h8

theorem Tryd.nilEq (w : World) (a : Option Addr) (n c n' c' : Nat) : (binOp .eql 25 (.slice a n c) (.slice none n' c')).run Tryd.prog w = .ok (.bool a.isNone) w :=
  Lib.run_eql_slice_nil w _ _ a n c n' c' Tryd.underlying25

theorem own_empty (w : World) : OwnR (w.alloc (.cells #[] 5)) w.heap.size (.slice (some ⟨w.heap.size, 0, none⟩) 0 0) [] := World.ownsRow_made w #[] 0 (Nat.le_refl _) (Nat.zero_le _) rfl

set_option maxHeartbeats 1000000 in
theorem clone_any (b : Nat) (v : Value) (bs : List Nat) (w : World) (h : BySl b w v bs) (hl : bs.length ≤ 100000) :
    Calls Tryd.prog 52 #[v] w fun e w' => ∃ v', e = .returned v' ∧ OwnR w' w.heap.size v' bs ∧ Below w.heap.size w w' := by
  have q22 := Tryd.nilEq
  have H := hid h
  obtain ⟨a, cap, rfl, h2, h3, h4, h5, h6, h7⟩ := h
  clear h6 h7
  cases a with
  | none =>
    obtain ⟨rfl, rfl⟩ := h4 rfl
    go_enter Tryd.func52, Tryd.ntmps52
    go_wp2
    go_ret
    exact ⟨_, rfl, World.ownsRow_nil _ _ _ _, Below.refl _ _⟩
  | some ad =>
    clear h4
    go_enter Tryd.func52, Tryd.ntmps52
    go_wp2_with (at_builtin; refine app_bytes _ rfl _ _ rfl w.heap.size b _ _ [] bs rfl rfl (own_empty w) (H.out.kept ((Kept.refl _ _).alloc _)) (by simpa using hl) (by simp) ?_; intro v' w' hown hbel)
    go_wp2
    go_ret
    exact ⟨v', rfl, hown, ((Below.refl _ w).alloc (Nat.le_refl _) _).trans hbel⟩

end Go.Proofs.YtinijgkkmfdfiaaDoor
