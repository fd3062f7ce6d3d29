/-
  Rows of texts.
-/
import Derived.Test.YtdooiflmjeibdaaDoorTrText
namespace Go.Proofs.YtdooiflmjeibdaaDoor.Tr
open Go.RowKit

/-- Texts as cells. -/
def tc (xs : List ByteArray) : List Value := xs.map Value.string
theorem tc_length (xs : List ByteArray) : (tc xs).length = xs.length := by simp [tc]
theorem tc_append (xs ys : List ByteArray) : tc (xs ++ ys) = tc xs ++ tc ys := by simp [tc]
theorem tc_at (xs : List ByteArray) (i : Nat) (x : ByteArray) (h : xs[i]? = some x) : (tc xs)[i]? = some (.string x) := by simp [tc, h]
/-- v is a row of the call's own, of the texts xs. -/
def OwnT (w : World) (v : Value) (xs : List ByteArray) : Prop := Row w 9 1 v xs.length (tc xs)
theorem OwnT.row {w : World} {v : Value} {xs : List ByteArray} (h : OwnT w v xs) : Row w 9 1 v xs.length (tc xs) := h
theorem OwnT.nil (w : World) : OwnT w (.slice none 0 0) [] := Row.nil _ _ _
theorem OwnT.kp {L : Nat → Prop} {w w' : World} {v : Value} {xs : List ByteArray} (h : OwnT w v xs) (k : Kp L w w') (hv : ∀ x, v.ownBlock = some x → ¬ L x) : OwnT w' v xs := Row.kp h k hv
theorem OwnT.kept {w w' : World} {v : Value} {xs : List ByteArray} (h : OwnT w v xs) (k : Kp No w w') : OwnT w' v xs := Row.kept h k
theorem Tryd.info9 : (Tryd.prog.info? 9).map (fun i => (i.zero, i.size, i.bytes)) = some (some (.string ByteArray.empty), 1, 16) := by kernel_rfl
/-- append of one text. -/
theorem app_text {ops : Array Oper} {rest : List Oper} {o : Oper} {a : Act} {Q : Exit → Act → World → Prop} (w w0 : World) (hgd : o.guard = none) (s x : Operand)
    (ho : o.op = .call { callee := .builtin .append, args := #[s, x], argTypes := #[68, 68] }) (v : Value) (xs : List ByteArray) (y : ByteArray) (hs : a.eval s = v) (hw : w = w0.alloc (.cells #[.string y] 9)) (hx : a.eval x = .slice (some ⟨w0.heap.size, 0, none⟩) 1 1)
    (hown : OwnT w0 v xs) (hlen : xs.length + 1 ≤ 20000000)
    (h : ∀ ad cap w', OwnT w' (.slice ad (xs.length + 1) cap) (xs ++ [y]) → w.grownBy w' v.ownBlock → ((Value.slice ad (xs.length + 1) cap).ownBlock = v.ownBlock ∨ (Value.slice ad (xs.length + 1) cap).ownBlock = some w.heap.size) → wpList Tryd.prog ops Q rest (a.put o.dst (.slice ad (xs.length + 1) cap)) w') : wpList Tryd.prog ops Q (o :: rest) a w := by
  subst hw
  refine app_row _ hgd s x 68 9 (.string ByteArray.empty) 1 16 ho Tryd.underlying68 Tryd.info9 rfl (by decide) v _ xs.length 1 (tc xs) [.string y] hs hx (Row.kept hown ((Kp.refl _ _).alloc _)) (Src.one w0 [.string y] 1 9 rfl (by intro u hu; rw [List.mem_singleton.1 hu]; rfl)) hlen (by decide) ?_
  intro ad cap w' h1 h2 h3
  exact h ad cap w' (by unfold OwnT; rw [tc_append, List.length_append]; exact h1) h2 h3

/-- The bytes from a up to b. -/
def sub (s : ByteArray) (a b : Nat) : Tx := (s.data.toList.drop a).take (b - a)
theorem sub_none (s : ByteArray) (a : Nat) : sub s a a = [] := by simp [sub]
theorem sub_snoc (s : ByteArray) (a b : Nat) (h1 : a ≤ b) (h2 : b < s.size) : sub s a (b + 1) = sub s a b ++ [s.data.toList.getD b 0] := by
  have h' : b < s.data.toList.length := by rw [len_data]; exact h2
  unfold sub
  rw [show b + 1 - a = (b - a) + 1 by omega, List.take_succ_eq_append_getElem (by rw [List.length_drop]; omega), List.getElem_drop, List.getD_eq_getElem?_getD, List.getElem?_eq_getElem h', Option.getD_some]
  simp [show a + (b - a) = b by omega]
theorem extract_sub (s : ByteArray) (a b : Nat) : (s.extract a b).data.toList = sub s a b := by
  rw [ByteArray.data_extract, Array.toList_extract]
  simp [sub, List.extract_eq_take_drop]
theorem drop_byt (s : ByteArray) (i : Nat) (h : i < s.size) : s.data.toList.drop i = s.data.toList.getD i 0 :: s.data.toList.drop (i + 1) := by
  have h' : i < s.data.toList.length := by rw [len_data]; exact h
  rw [List.drop_eq_getElem_cons h', List.getD_eq_getElem?_getD, List.getElem?_eq_getElem h', Option.getD_some]

/-- parts, in its midst: what is laid, and what is left. -/
def PI (s : ByteArray) (xs : List ByteArray) (from_ i : Nat) : Prop :=
  (i ≤ s.size ∧ from_ ≤ i ∧ cuts s.data.toList = xs.map (·.data.toList) ++ ahd (sub s from_ i) (cuts (s.data.toList.drop i))) ∨ (i = s.size + 1 ∧ cuts s.data.toList = xs.map (·.data.toList))
theorem PI.start (s : ByteArray) : PI s [] 0 0 := .inl ⟨Nat.zero_le _, Nat.le_refl _, by rw [sub_none, ahd_nil _ (cuts_ne _)]; rfl⟩
theorem PI.last {s : ByteArray} {xs : List ByteArray} {f : Nat} (h : PI s xs f s.size) : PI s (xs ++ [s.extract f s.size]) (s.size + 1) (s.size + 1) := by
  rcases h with ⟨_, _, h⟩ | ⟨h, _⟩
  · refine .inr ⟨rfl, ?_⟩
    rw [h, List.drop_of_length_le (by rw [len_data]; omega), List.map_append, List.map_singleton, extract_sub]
    simp [cuts, ahd]
  · omega
theorem PI.slash {s : ByteArray} {xs : List ByteArray} {f i : Nat} (h : PI s xs f i) (hi : i < s.size) (hc : s.data.toList.getD i 0 = 47) : PI s (xs ++ [s.extract f i]) (i + 1) (i + 1) := by
  rcases h with ⟨_, _, h⟩ | ⟨h, _⟩
  · refine .inl ⟨by omega, Nat.le_refl _, ?_⟩
    rw [h, drop_byt s i hi, hc, cuts, if_pos rfl, List.map_append, List.map_singleton, extract_sub, sub_none, ahd_nil _ (cuts_ne _)]
    simp [ahd]
  · omega
theorem PI.other {s : ByteArray} {xs : List ByteArray} {f i : Nat} (h : PI s xs f i) (hi : i < s.size) (hc : s.data.toList.getD i 0 ≠ 47) : PI s xs f (i + 1) := by
  rcases h with ⟨_, h2, h⟩ | ⟨h, _⟩
  · refine .inl ⟨by omega, by omega, ?_⟩
    rw [h, drop_byt s i hi, cuts, if_neg hc, ahd_ahd, sub_snoc s f i h2 hi]
  · omega
theorem PI.len {s : ByteArray} {xs : List ByteArray} {f i : Nat} (h : PI s xs f i) : xs.length ≤ s.size + 1 := by
  have := cuts_len s.data.toList
  rw [len_data] at this
  rcases h with ⟨_, _, h⟩ | ⟨_, h⟩
  · rw [h, List.length_append, List.length_map] at this
    omega
  · rw [h, List.length_map] at this
    omega
theorem PI.done {s : ByteArray} {xs : List ByteArray} {f i : Nat} (h : PI s xs f i) (hi : s.size < i) : cuts s.data.toList = xs.map (·.data.toList) := by
  rcases h with ⟨h, _⟩ | ⟨_, h⟩
  · omega
  · exact h
theorem PI.le {s : ByteArray} {xs : List ByteArray} {f i : Nat} (h : PI s xs f i) (hi : i ≤ s.size) : f ≤ i := by
  rcases h with ⟨_, h, _⟩ | ⟨h, _⟩
  · exact h
  · omega

/-- What an append leaves. -/
theorem next_own {w0 w1 w2 w' : World} {v v' : Value} (h : (∀ x, v.ownBlock = some x → w0.heap.size ≤ x) ∧ Kp No w0 w1) (k : Kp No w1 w2) (hg : w2.grownBy w' v.ownBlock) (hb : v'.ownBlock = v.ownBlock ∨ v'.ownBlock = some w2.heap.size) :
    (∀ x, v'.ownBlock = some x → w0.heap.size ≤ x) ∧ Kp No w0 w' := by
  have k0 := h.2.andNone k
  refine ⟨fun x hx => ?_, k0.grown hg (fun x hx => .inr (h.1 x hx))⟩
  rcases hb with hb | hb
  · exact h.1 x (hb ▸ hx)
  · rw [hb] at hx
    simp only [Option.some.injEq] at hx
    have := k0.size
    omega
theorem next_text {w0 w1 w' : World} {v v' : Value} {xs ys : List ByteArray} {o : Obj} (h : OwnT w1 v xs ∧ (∀ x, v.ownBlock = some x → w0.heap.size ≤ x) ∧ Kp No w0 w1) (hown : OwnT w' v' ys) (hg : (w1.alloc o).grownBy w' v.ownBlock)
    (hb : v'.ownBlock = v.ownBlock ∨ v'.ownBlock = some (w1.alloc o).heap.size) : OwnT w' v' ys ∧ (∀ x, v'.ownBlock = some x → w0.heap.size ≤ x) ∧ Kp No w0 w' :=
  ⟨hown, next_own h.2 ((Kp.refl No w1).alloc o) hg hb⟩


end Go.Proofs.YtdooiflmjeibdaaDoor.Tr
