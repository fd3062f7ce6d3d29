/-
  The mathematics of chunks: bytes that are fed, what is told, what waits.
-/
import Derived.Test.YtinijgkkmfdfiaaDoorPlain
namespace Go.Proofs.YtinijgkkmfdfiaaDoor

/-- Whether a chunk ends behind wt. -/
def endB (s mn mx m : Nat) (wt : List Nat) : Bool := decide (wt.length = mx) || (decide (mn ≤ wt.length) && decide (hashOf s wt &&& m = 0))

/-- One byte more. -/
def step (E : List Nat → Bool) (st : List (List Nat) × List Nat) (c : Nat) : List (List Nat) × List Nat :=
  if E (st.2 ++ [c]) = true then (st.1 ++ [st.2 ++ [c]], []) else (st.1, st.2 ++ [c])
/-- What is told, and what waits, behind bytes. -/
def feed (E : List Nat → Bool) (cs : List (List Nat)) (wt bs : List Nat) : List (List Nat) × List Nat := bs.foldl (step E) (cs, wt)
/-- .. and what waits is told too. -/
def shutL (p : List (List Nat) × List Nat) : List (List Nat) := if p.2 = [] then p.1 else p.1 ++ [p.2]
/-- The chunks of bytes. -/
def split (E : List Nat → Bool) (bs : List Nat) : List (List Nat) := shutL (feed E [] [] bs)

variable {E : List Nat → Bool}

theorem step_yes {st : List (List Nat) × List Nat} {c : Nat} (h : E (st.2 ++ [c]) = true) : step E st c = (st.1 ++ [st.2 ++ [c]], []) := if_pos h
theorem step_no {st : List (List Nat) × List Nat} {c : Nat} (h : E (st.2 ++ [c]) = false) : step E st c = (st.1, st.2 ++ [c]) := if_neg (by rw [h]; decide)

theorem feed_nil (cs : List (List Nat)) (wt : List Nat) : feed E cs wt [] = (cs, wt) := rfl
theorem feed_cons (cs : List (List Nat)) (wt : List Nat) (c : Nat) (bs : List Nat) : feed E cs wt (c :: bs) = feed E (step E (cs, wt) c).1 (step E (cs, wt) c).2 bs := rfl
theorem feed_app (cs : List (List Nat)) (wt a b : List Nat) : feed E cs wt (a ++ b) = feed E (feed E cs wt a).1 (feed E cs wt a).2 b := by simp [feed]
theorem feed_succ (cs : List (List Nat)) (wt bs : List Nat) (k : Nat) (hk : k < bs.length) : feed E cs wt (bs.take (k + 1)) = step E (feed E cs wt (bs.take k)) (bs.getD k 0) := by
  rw [List.take_succ_eq_append_getElem hk, feed_app, getD_at hk]
  rfl

theorem step_out (cs : List (List Nat)) (wt : List Nat) (c : Nat) : step E (cs, wt) c = (cs ++ (step E ([], wt) c).1, (step E ([], wt) c).2) := by
  cases h : E (wt ++ [c]) with
  | true => rw [step_yes (st := (cs, wt)) h, step_yes (st := ([], wt)) h]; simp
  | false => rw [step_no (st := (cs, wt)) h, step_no (st := ([], wt)) h]; simp
theorem feed_out (bs : List Nat) : ∀ (cs : List (List Nat)) (wt : List Nat), feed E cs wt bs = (cs ++ (feed E [] wt bs).1, (feed E [] wt bs).2) := by
  induction bs with
  | nil => intro cs wt; simp [feed_nil]
  | cons c r ih =>
    intro cs wt
    rw [feed_cons, feed_cons, step_out cs wt c]
    simp only
    rw [ih (cs ++ (step E ([], wt) c).1), ih (step E ([], wt) c).1]
    simp

theorem step_flat (st : List (List Nat) × List Nat) (c : Nat) : (step E st c).1.flatten ++ (step E st c).2 = st.1.flatten ++ st.2 ++ [c] := by
  cases h : E (st.2 ++ [c]) with
  | true => rw [step_yes h]; simp
  | false => rw [step_no h]; simp
theorem feed_flat (bs : List Nat) : ∀ (cs : List (List Nat)) (wt : List Nat), (feed E cs wt bs).1.flatten ++ (feed E cs wt bs).2 = cs.flatten ++ wt ++ bs := by
  induction bs with
  | nil => intro cs wt; simp [feed_nil]
  | cons c r ih =>
    intro cs wt
    rw [feed_cons, ih, step_flat]
    simp
theorem feed_count (bs : List Nat) : ∀ (cs : List (List Nat)) (wt : List Nat), (feed E cs wt bs).1.length ≤ cs.length + bs.length ∧ (feed E cs wt bs).2.length ≤ wt.length + bs.length := by
  induction bs with
  | nil => intro cs wt; simp [feed_nil]
  | cons c r ih =>
    intro cs wt
    rw [feed_cons]
    have h := ih (step E (cs, wt) c).1 (step E (cs, wt) c).2
    cases e : E (wt ++ [c]) with
    | true => rw [step_yes (st := (cs, wt)) e] at h ⊢; simp at h ⊢; omega
    | false => rw [step_no (st := (cs, wt)) e] at h ⊢; simp at h ⊢; omega

theorem feed_lt (bs : List Nat) : ∀ (cs : List (List Nat)) (wt : List Nat), (∀ c ∈ cs, ∀ x ∈ c, x < 256) → (∀ x ∈ wt, x < 256) → (∀ x ∈ bs, x < 256) → (∀ c ∈ (feed E cs wt bs).1, ∀ x ∈ c, x < 256) ∧ ∀ x ∈ (feed E cs wt bs).2, x < 256 := by
  intro cs wt h1 h2 h3
  have hf := feed_flat (E := E) bs cs wt
  have hall : ∀ x ∈ (feed E cs wt bs).1.flatten ++ (feed E cs wt bs).2, x < 256 := by
    rw [hf]
    intro x hx
    rcases List.mem_append.1 hx with hx | hx
    · rcases List.mem_append.1 hx with hx | hx
      · obtain ⟨c, hc, hx⟩ := List.mem_flatten.1 hx; exact h1 c hc x hx
      · exact h2 x hx
    · exact h3 x hx
  exact ⟨fun c hc x hx => hall x (List.mem_append_left _ (List.mem_flatten.2 ⟨c, hc, hx⟩)), fun x hx => hall x (List.mem_append_right _ hx)⟩

/-- No chunk ends within the first n bytes. -/
def NoEnd (E : List Nat → Bool) (b : List Nat) (n : Nat) : Prop := ∀ j, 1 ≤ j → j ≤ n → E (b.take j) = false
/-- A chunk of n bytes is the first; sure: it ends there, whatever comes. -/
def IsCut (E : List Nat → Bool) (b : List Nat) (n : Nat) (sure : Bool) : Prop :=
  (sure = true ∧ 1 ≤ n ∧ n ≤ b.length ∧ E (b.take n) = true ∧ NoEnd E b (n - 1)) ∨ (sure = false ∧ n = b.length ∧ NoEnd E b b.length)

theorem NoEnd.next {b : List Nat} {n : Nat} (h : NoEnd E b n) (hn : E (b.take (n + 1)) = false) : NoEnd E b (n + 1) := fun j h1 h2 => by
  by_cases e : j = n + 1
  · subst e; exact hn
  · exact h j h1 (by omega)

theorem feed_quiet (b : List Nat) : ∀ (cs : List (List Nat)) (wt : List Nat), (∀ j, 1 ≤ j → j ≤ b.length → E (wt ++ b.take j) = false) → feed E cs wt b = (cs, wt ++ b) := by
  induction b with
  | nil => intro cs wt _; simp [feed_nil]
  | cons c r ih =>
    intro cs wt h
    have h1 := h 1 (Nat.le_refl _) (by simp)
    rw [feed_cons, step_no (st := (cs, wt)) (by simpa using h1)]
    simp only
    rw [ih cs (wt ++ [c]) (fun j hj hl => by have := h (j + 1) (by omega) (by simpa using hl); simpa using this)]
    simp

theorem feed_no {b : List Nat} (cs : List (List Nat)) (h : NoEnd E b b.length) : feed E cs [] b = (cs, b) := by
  rw [feed_quiet b cs [] (fun j h1 h2 => by simpa using h j h1 h2)]
  rfl
theorem feed_first {b : List Nat} {n : Nat} (cs : List (List Nat)) (h1 : 1 ≤ n) (h2 : n ≤ b.length) (hE : E (b.take n) = true) (h : NoEnd E b (n - 1)) : feed E cs [] b = feed E (cs ++ [b.take n]) [] (b.drop n) := by
  obtain ⟨k, rfl⟩ : ∃ k, n = k + 1 := ⟨n - 1, by omega⟩
  have e : feed E cs [] b = feed E cs [] (b.take (k + 1) ++ b.drop (k + 1)) := by rw [List.take_append_drop]
  have hq : feed E cs [] (b.take k) = (cs, b.take k) := by
    rw [feed_quiet (b.take k) cs [] (fun j h1 hj => by
      rw [List.length_take] at hj
      rw [List.nil_append, List.take_take, Nat.min_eq_left (by omega)]
      exact h j h1 (by omega))]
    rfl
  have ht : b.take k ++ [b.getD k 0] = b.take (k + 1) := by rw [List.take_succ_eq_append_getElem (by omega), getD_at (by omega)]
  rw [e, feed_app, feed_succ cs [] b k (by omega), hq, step_yes (st := (cs, b.take k)) (by rw [ht]; exact hE)]
  simp only
  rw [ht]

theorem sure_step {b : List Nat} {n : Nat} (cs : List (List Nat)) (h : IsCut E b n true) : feed E cs [] b = feed E (cs ++ [b.take n]) [] (b.drop n) ∧ 1 ≤ n ∧ n ≤ b.length := by
  rcases h with ⟨_, h1, h2, h3, h4⟩ | ⟨h, _⟩
  · exact ⟨feed_first cs h1 h2 h3 h4, h1, h2⟩
  · cases h
theorem sure_no {b : List Nat} {n : Nat} (cs : List (List Nat)) (h : IsCut E b n false) : feed E cs [] b = (cs, b) ∧ n = b.length := by
  rcases h with ⟨h, _⟩ | ⟨_, h1, h2⟩
  · cases h
  · exact ⟨feed_no cs h2, h1⟩

theorem cut_one {b : List Nat} {n n' : Nat} {u u' : Bool} (h : IsCut E b n u) (k : IsCut E b n' u') : n = n' ∧ u = u' := by
  rcases h with ⟨rfl, h1, h2, h3, h4⟩ | ⟨rfl, h1, h2⟩ <;> rcases k with ⟨rfl, k1, k2, k3, k4⟩ | ⟨rfl, k1, k2⟩
  · refine ⟨?_, rfl⟩
    rcases Nat.lt_trichotomy n n' with e | e | e
    · have := k4 n h1 (by omega); rw [h3] at this; cases this
    · exact e
    · have := h4 n' k1 (by omega); rw [k3] at this; cases this
  · have := k2 n h1 h2; rw [h3] at this; cases this
  · have := h2 n' k1 k2; rw [k3] at this; cases this
  · exact ⟨by omega, rfl⟩

theorem split_nil : split E [] = [] := rfl
theorem shut_out (cs : List (List Nat)) (b : List Nat) : shutL (feed E cs [] b) = cs ++ split E b := by
  rw [split, feed_out b cs []]
  simp only [shutL]
  split <;> simp
theorem split_cut {b : List Nat} {n : Nat} {u : Bool} (hb : b ≠ []) (h : IsCut E b n u) : split E b = b.take n :: split E (b.drop n) ∧ 1 ≤ n ∧ n ≤ b.length := by
  have hl : 0 < b.length := List.length_pos_iff.2 hb
  cases u with
  | true =>
    obtain ⟨e, h1, h2⟩ := sure_step [] h
    refine ⟨?_, h1, h2⟩
    have : split E b = shutL (feed E [] [] b) := rfl
    rw [this, e, shut_out]
    rfl
  | false =>
    obtain ⟨e, rfl⟩ := sure_no [] h
    refine ⟨?_, hl, Nat.le_refl _⟩
    rw [List.take_length, List.drop_length, split_nil, split, e, shutL]
    simp [hb]

/-- There always is a first chunk. -/
theorem cut_is (b : List Nat) : ∃ n u, IsCut E b n u := by
  have key : ∀ k, k ≤ b.length → NoEnd E b k ∨ ∃ n, n ≤ k ∧ 1 ≤ n ∧ E (b.take n) = true ∧ NoEnd E b (n - 1) := by
    intro k
    induction k with
    | zero => intro _; exact .inl (fun j h1 h2 => by omega)
    | succ k ih =>
      intro hk
      rcases ih (by omega) with h | ⟨n, h1, h2, h3⟩
      · cases e : E (b.take (k + 1)) with
        | true => exact .inr ⟨k + 1, Nat.le_refl _, by omega, e, h⟩
        | false => exact .inl (h.next e)
      · exact .inr ⟨n, by omega, h2, h3⟩
  rcases key b.length (Nat.le_refl _) with h | ⟨n, h1, h2, h3, h4⟩
  · exact ⟨b.length, false, .inr ⟨rfl, rfl, h⟩⟩
  · exact ⟨n, true, .inl ⟨rfl, h2, h1, h3, h4⟩⟩

theorem split_flat (b : List Nat) : (split E b).flatten = b := by
  have h := feed_flat (E := E) b [] []
  rw [split, shutL]
  split
  · rename_i e; rw [e] at h; simpa using h
  · simpa using h

/-- Chunks from the i-th on are those of the bytes from there on. -/
theorem split_drop : ∀ (i : Nat) (b : List Nat), i ≤ (split E b).length → (split E b).drop i = split E (b.drop ((split E b).take i).flatten.length) := by
  intro i
  induction i with
  | zero => intro b _; simp
  | succ i ih =>
    intro b hi
    by_cases hb : b = []
    · subst hb; simp [split_nil] at hi
    · obtain ⟨n, u, hc⟩ := cut_is (E := E) b
      obtain ⟨e, h1, h2⟩ := split_cut hb hc
      rw [e] at hi ⊢
      simp only [List.length_cons] at hi
      rw [List.drop_succ_cons, List.take_succ_cons, List.flatten_cons, List.length_append, ih (b.drop n) (by omega), List.drop_drop, List.length_take_of_le h2]

/-- What waits has no end within. -/
theorem feed_left (bs : List Nat) : ∀ (cs : List (List Nat)) (wt : List Nat), NoEnd E wt wt.length → NoEnd E (feed E cs wt bs).2 (feed E cs wt bs).2.length := by
  induction bs with
  | nil => intro cs wt h; exact h
  | cons c r ih =>
    intro cs wt h
    rw [feed_cons]
    apply ih
    cases e : E (wt ++ [c]) with
    | true => rw [step_yes (st := (cs, wt)) e]; intro j h1 h2; simp at h2; omega
    | false =>
      rw [step_no (st := (cs, wt)) e]
      intro j h1 h2
      simp only [List.length_append, List.length_cons, List.length_nil] at h2
      by_cases hj : j = wt.length + 1
      · subst hj
        rw [List.take_of_length_le (by simp)]
        exact e
      · simp only
        rw [List.take_append_of_le_length (by omega)]
        exact h j h1 (by omega)

/-- What was fed ahead, and waits, and what comes. -/
theorem feed_wait {wt : List Nat} (h : NoEnd E wt wt.length) (cs : List (List Nat)) (bs : List Nat) : feed E cs [] (wt ++ bs) = feed E cs wt bs := by
  rw [feed_app, feed_no cs h]

/-- Each chunk that is told by an end: not empty, it ends there, and not before. -/
theorem feed_chunks (bs : List Nat) : ∀ (cs : List (List Nat)) (wt : List Nat), NoEnd E wt wt.length → (∀ c ∈ cs, c ≠ [] ∧ E c = true ∧ NoEnd E c (c.length - 1)) → ∀ c ∈ (feed E cs wt bs).1, c ≠ [] ∧ E c = true ∧ NoEnd E c (c.length - 1) := by
  induction bs with
  | nil => intro cs wt _ h; exact h
  | cons c r ih =>
    intro cs wt hw h
    rw [feed_cons]
    have hl := feed_left (E := E) [c] cs wt hw
    rw [feed_cons, feed_nil] at hl
    refine ih _ _ hl ?_
    cases e : E (wt ++ [c]) with
    | true =>
      rw [step_yes (st := (cs, wt)) e]
      intro d hd
      rcases List.mem_append.1 hd with hd | hd
      · exact h d hd
      · obtain rfl : d = wt ++ [c] := by simpa using hd
        refine ⟨by simp, e, fun j h1 h2 => ?_⟩
        simp only [List.length_append, List.length_cons, List.length_nil] at h2
        rw [List.take_append_of_le_length (by omega)]
        exact hw j h1 (by omega)
    | false =>
      rw [step_no (st := (cs, wt)) e]
      exact h

/-! ### By a rule -/
theorem endB_min {s mn mx m : Nat} (h : mn ≤ mx) {c : List Nat} (hc : endB s mn mx m c = true) : mn ≤ c.length := by
  simp only [endB, Bool.or_eq_true, Bool.and_eq_true, decide_eq_true_eq] at hc
  omega
theorem endB_max {s mn mx m : Nat} {c : List Nat} (hc : c.length = mx) : endB s mn mx m c = true := by simp [endB, hc]
theorem noEnd_max {s mn mx m : Nat} (h1 : 1 ≤ mx) {c : List Nat} {n : Nat} (hn : n ≤ c.length) (h : NoEnd (endB s mn mx m) c n) : n < mx := by
  apply Nat.lt_of_not_le
  intro hle
  have := h mx h1 hle
  rw [endB_max (by rw [List.length_take]; omega)] at this
  cases this

/-- The chunks of a rule: none is empty or above the greatest size; none but the last is below the least. -/
theorem split_sizes {s mn mx m : Nat} (h1 : 1 ≤ mn) (h2 : mn ≤ mx) (b : List Nat) (i : Nat) (hi : i < (split (endB s mn mx m) b).length) :
    1 ≤ ((split (endB s mn mx m) b).getD i []).length ∧ ((split (endB s mn mx m) b).getD i []).length ≤ mx ∧ (i + 1 < (split (endB s mn mx m) b).length → mn ≤ ((split (endB s mn mx m) b).getD i []).length) := by
  have hq : NoEnd (endB s mn mx m) [] ([] : List Nat).length := fun j h1 h2 => by simp at h2; omega
  have hc := feed_chunks (E := endB s mn mx m) b [] [] hq (by simp)
  have hl := feed_left (E := endB s mn mx m) b [] [] hq
  have hm := noEnd_max (by omega) (Nat.le_refl _) hl
  have big : ∀ c ∈ (feed (endB s mn mx m) [] [] b).1, 1 ≤ c.length ∧ c.length ≤ mx ∧ mn ≤ c.length := fun c hcm => by
    obtain ⟨q1, q2, q3⟩ := hc c hcm
    have l1 := List.length_pos_iff.2 q1
    have l2 := noEnd_max (by omega) (Nat.sub_le _ _) q3
    exact ⟨l1, by omega, endB_min h2 q2⟩
  rw [split, shutL] at hi ⊢
  split at hi
  · rename_i e
    rw [if_pos e]
    rw [List.getD_eq_getElem?_getD, List.getElem?_eq_getElem hi, Option.getD_some]
    have := big _ (List.getElem_mem hi)
    exact ⟨this.1, this.2.1, fun _ => this.2.2⟩
  · rename_i e
    rw [if_neg e]
    rw [List.length_append, List.length_cons, List.length_nil] at hi
    by_cases hlt : i < (feed (endB s mn mx m) [] [] b).1.length
    · rw [List.getD_eq_getElem?_getD, List.getElem?_append_left hlt, List.getElem?_eq_getElem hlt, Option.getD_some]
      have := big _ (List.getElem_mem hlt)
      exact ⟨this.1, this.2.1, fun _ => this.2.2⟩
    · have hie : i = (feed (endB s mn mx m) [] [] b).1.length := by omega
      rw [List.getD_eq_getElem?_getD, List.getElem?_append_right (by omega), hie, Nat.sub_self]
      simp only [List.getElem?_cons_zero, Option.getD_some, List.length_append, List.length_cons, List.length_nil]
      exact ⟨List.length_pos_iff.2 e, by omega, fun h => by omega⟩

end Go.Proofs.YtinijgkkmfdfiaaDoor
