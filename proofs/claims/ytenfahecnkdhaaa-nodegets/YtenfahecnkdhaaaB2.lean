/- Of the proof: the texts NdSymA, NdSymB, NdSymC, NdStable, NdCompact, NdSort, NdSortM, NdBin, NdBack, NdRSort, NdOwn, one behind the other. -/
import Derived.Test.YtenfahecnkdhaaaB1
import Derived.Deep.DeepCutAuto
import Derived.Stop.BytesEq
section
/-
  One entry is merged into the sorted ones behind it.
-/
namespace Go.Proofs.Ytenfahecnkdhaaa.Nd
open Go.RowKit
open Stb (Stab Srt Mrg)
open Sim (hid Kp No)

/-- What a search by halves has found so far. -/
structure Half (p : Ent → Bool) (B : List Ent) (i j : Nat) : Prop where
  le : i ≤ j
  len : j ≤ B.length
  lo : ∀ (t : Nat) (z : Ent), t < i → B[t]? = some z → p z = true
  hi : ∀ (t : Nat) (z : Ent), j ≤ t → B[t]? = some z → p z = false
theorem Half.yes {p : Ent → Bool} {B : List Ent} {i j h : Nat} {z : Ent} (H : Half p B i j) (hij : h < j) (_hih : i ≤ h) (hz : B[h]? = some z) (hp : p z = true) (mono : ∀ (t u : Nat) (x y : Ent), t ≤ u → B[t]? = some x → B[u]? = some y → p y = true → p x = true) : Half p B (h + 1) j :=
  ⟨by omega, H.len, fun t x ht hx => mono t h x z (by omega) hx hz hp, H.hi⟩
theorem Half.no {p : Ent → Bool} {B : List Ent} {i j h : Nat} {z : Ent} (H : Half p B i j) (hij : h < j) (hih : i ≤ h) (hz : B[h]? = some z) (hp : p z = false) (mono : ∀ (t u : Nat) (x y : Ent), t ≤ u → B[t]? = some x → B[u]? = some y → p y = true → p x = true) : Half p B i h :=
  ⟨hih, by have := H.len; omega, H.lo, fun t x ht hx => by
    cases hpx : p x with
    | false => rfl
    | true => rw [mono h t z x ht hz hx hpx] at hp; cases hp⟩
theorem Half.end {p : Ent → Bool} {B : List Ent} {i : Nat} (H : Half p B i i) : (∀ z ∈ B.take i, p z = true) ∧ ∀ z ∈ B.drop i, p z = false := by
  refine ⟨fun z hz => ?_, fun z hz => ?_⟩
  · obtain ⟨t, ht⟩ := List.mem_iff_getElem?.1 hz
    have hlt : t < i := by have := (List.getElem?_eq_some_iff.1 ht).1; rw [List.length_take] at this; omega
    rw [List.getElem?_take_of_lt hlt] at ht
    exact H.lo t z hlt ht
  · obtain ⟨t, ht⟩ := List.mem_iff_getElem?.1 hz
    rw [List.getElem?_drop] at ht
    exact H.hi _ z (by omega) ht
/-- x moves up through those that stand ahead of it. -/
def UpSt (L B1 B2 R : List Ent) (x : Ent) (k : Nat) (D : List Ent) : Prop := ∃ S T, B1 = S ++ T ∧ L.length + S.length = k ∧ D = L ++ (S ++ (x :: (T ++ (B2 ++ R))))
theorem UpSt.step {L B1 B2 R D : List Ent} {x : Ent} {k : Nat} (h : UpSt L B1 B2 R x k D) (hk : k < L.length + B1.length) : UpSt L B1 B2 R x (k + 1) (swap2 D k (k + 1)) ∧ (∃ y, D[k + 1]? = some y) ∧ D[k]? = some x := by
  obtain ⟨S, T, rfl, hl, rfl⟩ := h
  cases T with
  | nil => simp at hk; omega
  | cons y T =>
    have e1 : L ++ (S ++ (x :: ((y :: T) ++ (B2 ++ R)))) = (L ++ S) ++ x :: y :: (T ++ (B2 ++ R)) := by simp
    have hlen : (L ++ S).length = k := by simp [hl]
    refine ⟨⟨S ++ [y], T, by simp, by simp; omega, ?_⟩, ⟨y, ?_⟩, ?_⟩
    · have e := swap2_back (L ++ S) (T ++ (B2 ++ R)) x y
      rw [swap2_comm _ (by omega), hlen] at e
      rw [e1, e]
      simp
    · rw [e1, List.getElem?_append_right (by omega), hlen, show k + 1 - k = 1 by omega]
      rfl
    · rw [e1, List.getElem?_append_right (by omega), hlen, Nat.sub_self]
      rfl
theorem UpSt.len {L B1 B2 R D : List Ent} {x : Ent} {k : Nat} (h : UpSt L B1 B2 R x k D) : D.length = L.length + B1.length + 1 + B2.length + R.length := by
  obtain ⟨S, T, rfl, hl, rfl⟩ := h
  simp
  omega

end Go.Proofs.Ytenfahecnkdhaaa.Nd
end

section
/-
  One entry is merged into the sorted ones ahead of it.
-/
namespace Go.Proofs.Ytenfahecnkdhaaa.Nd
open Go.RowKit
open Stb (Stab Srt Mrg)
open Sim (hid Kp No)
/-- x moves down through those that stand behind it. -/
def DnSt (L A1 A2 R : List Ent) (x : Ent) (k : Nat) (D : List Ent) : Prop := ∃ S T, A2 = S ++ T ∧ L.length + A1.length + S.length = k ∧ D = L ++ (A1 ++ (S ++ (x :: (T ++ R))))
theorem DnSt.step {L A1 A2 R D : List Ent} {x : Ent} {k : Nat} (h : DnSt L A1 A2 R x k D) (hk : L.length + A1.length < k) : DnSt L A1 A2 R x (k - 1) (swap2 D k (k - 1)) ∧ (∃ y, D[k - 1]? = some y) ∧ D[k]? = some x := by
  obtain ⟨S, T, rfl, hl, rfl⟩ := h
  have hne : S ≠ [] := by intro e; rw [e] at hl; simp at hl; omega
  obtain ⟨S', y, rfl⟩ : ∃ S' y, S = S' ++ [y] := ⟨S.dropLast, S.getLast hne, (List.dropLast_concat_getLast hne).symm⟩
  have e1 : L ++ (A1 ++ ((S' ++ [y]) ++ (x :: (T ++ R)))) = (L ++ A1 ++ S') ++ y :: x :: (T ++ R) := by simp
  simp only [List.length_append, List.length_singleton] at hl
  have hlen : (L ++ A1 ++ S').length = k - 1 := by simp; omega
  refine ⟨⟨S', y :: T, by simp, by omega, ?_⟩, ⟨y, ?_⟩, ?_⟩
  · have e := swap2_back (L ++ A1 ++ S') (T ++ R) y x
    rw [hlen, show k - 1 + 1 = k by omega] at e
    rw [e1, e]
    simp
  · rw [e1, List.getElem?_append_right (by omega), hlen, Nat.sub_self]
    rfl
  · rw [e1, List.getElem?_append_right (by omega), hlen, show k - (k - 1) = 1 by omega]
    rfl

end Go.Proofs.Ytenfahecnkdhaaa.Nd
end

section
/-
  Two sorted ranges that stand side by side are merged in place.
-/
namespace Go.Proofs.Ytenfahecnkdhaaa.Nd
open Go.RowKit
open Stb (Stab Srt Mrg Lts Les)
open Sim (hid Kp No)

/-- A search by halves among numbers. -/
structure HalfN (P : Nat → Bool) (lo hi i j : Nat) : Prop where
  le1 : lo ≤ i
  le : i ≤ j
  le2 : j ≤ hi
  yes : ∀ t, lo ≤ t → t < i → P t = true
  no : ∀ t, j ≤ t → t < hi → P t = false
theorem HalfN.up {P : Nat → Bool} {lo hi i j c : Nat} (H : HalfN P lo hi i j) (h1 : i ≤ c) (h2 : c < j) (hp : P c = true) (mono : ∀ t u, lo ≤ t → t ≤ u → u < hi → P u = true → P t = true) : HalfN P lo hi (c + 1) j :=
  ⟨by have := H.le1; omega, by omega, H.le2, fun t a b => mono t c a (by omega) (by have := H.le2; omega) hp, H.no⟩
theorem srt_le {B : List Ent} (hs : Srt ky lexB B) {t u : Nat} {x y : Ent} (htu : t ≤ u) (hx : B[t]? = some x) (hy : B[u]? = some y) : lexB y.1 x.1 = false := by
  by_cases e : t = u
  · subst e; rw [hx] at hy; cases hy; exact lexB_irr _
  · obtain ⟨hu1, hu2⟩ := List.getElem?_eq_some_iff.1 hy
    obtain ⟨ht1, ht2⟩ := List.getElem?_eq_some_iff.1 hx
    have := List.pairwise_iff_getElem.1 hs t u ht1 hu1 (by omega)
    rw [ht2, hu2] at this
    exact this

/-- What is asked of c: that the one at c stands not behind its fellow. -/
def askP (A B : List Ent) (a m p : Nat) (c : Nat) : Bool := !lexB ((B.getD (p - c - m) zEnt).1) ((A.getD (c - a) zEnt).1)

section
variable {A B : List Ent} {a m b mid lo hi : Nat}
/-- The numbers of a merge. -/
structure Nums (A B : List Ent) (a m b mid lo hi : Nat) : Prop where
  am : a + A.length = m
  mb : m + B.length = b
  mid2 : mid = (a + b) / 2
  A2 : 1 < A.length
  B2 : 1 < B.length
  lohi : (mid < m ∧ lo = mid + m - b ∧ hi = mid) ∨ (m ≤ mid ∧ lo = a ∧ hi = m)
theorem Nums.ix (h : Nums A B a m b mid lo hi) {c : Nat} (h1 : lo ≤ c) (h2 : c < hi) : c - a < A.length ∧ m ≤ mid + m - 1 - c ∧ mid + m - 1 - c - m < B.length ∧ a ≤ c ∧ c < m ∧ mid + m - 1 - c < b := by
  have := h.am; have := h.mb; have := h.mid2; have := h.A2; have := h.B2; have := h.lohi
  omega
theorem getD_of {l : List Ent} {i : Nat} (h : i < l.length) : l[i]? = some (l.getD i zEnt) := by rw [List.getD_eq_getElem?_getD, List.getElem?_eq_getElem h]; rfl
theorem Nums.mono (h : Nums A B a m b mid lo hi) (sa : Srt ky lexB A) (sb : Srt ky lexB B) : ∀ t u, lo ≤ t → t ≤ u → u < hi → askP A B a m (mid + m - 1) u = true → askP A B a m (mid + m - 1) t = true := fun t u h1 h2 h3 hp => by
  have i1 := h.ix h1 (Nat.lt_of_le_of_lt h2 h3)
  have i2 := h.ix (Nat.le_trans h1 h2) h3
  have k1 := srt_le sa (t := t - a) (u := u - a) (by omega) (getD_of i1.1) (getD_of i2.1)
  have k2 := srt_le sb (t := mid + m - 1 - u - m) (u := mid + m - 1 - t - m) (by omega) (getD_of i2.2.2.1) (getD_of i1.2.2.1)
  unfold askP at hp ⊢
  have hp' : lexB ((B.getD (mid + m - 1 - u - m) zEnt).1) ((A.getD (u - a) zEnt).1) = false := by simpa using hp
  have := lexOrd.le_le k1 (lexOrd.le_le hp' k2)
  simpa using this
end

/-- What a call of the merge itself is asked to do. -/
def SymOk (K : Nat) : Prop := ∀ (w : World) (g o : Nat) (L A B R : List Ent) (N cap : Nat), A.length + B.length < K → EOwn w g o (L ++ (A ++ (B ++ R))) → (L ++ (A ++ (B ++ R))).length = N → N ≤ 1000000 → Srt ky lexB A → Srt ky lexB B → A ≠ [] → B ≠ [] →
  Calls Try.prog 86 #[.slice (some ⟨g, o, none⟩) N cap, .int .i64 (L.length : Int), .int .i64 ((L.length + A.length : Nat) : Int), .int .i64 ((L.length + A.length + B.length : Nat) : Int), cmpV] w fun e w' => e = .returned (.tuple #[]) ∧ ∃ M, Mrg ky lexB A B M ∧ At w g o (L ++ (M ++ R)) w'

end Go.Proofs.Ytenfahecnkdhaaa.Nd
end

section
/-
  A row of entries is sorted, each name's entries in their order: slices.SortStableFunc by compare.
-/
namespace Go.Proofs.Ytenfahecnkdhaaa.Nd
open Go.RowKit
open Stb (Stab Srt Mrg)
open Sim (hid Kp No)

theorem SymOk.mono {k K : Nat} (h : SymOk K) (hk : k ≤ K) : SymOk k := fun w g o L A B R N cap hl => h w g o L A B R N cap (by omega)
/-- Sorted block by block. -/
def Bl (bs : Nat) (D : List Ent) : Prop := ∀ i, Srt ky lexB ((D.drop (i * bs)).take bs)
theorem Bl.nil (bs : Nat) : Bl bs [] := fun i => by simp [Srt]
theorem Bl.one {bs : Nat} {M : List Ent} (h : Srt ky lexB M) (hl : M.length ≤ bs) : Bl bs M := fun i => by
  by_cases h0 : i = 0
  · subst h0
    rw [Nat.zero_mul, List.drop_zero, List.take_of_length_le hl]
    exact h
  · have : bs ≤ i * bs := Nat.le_mul_of_pos_left bs (by omega)
    rw [List.drop_eq_nil_of_le (by omega)]
    simp [Srt]
theorem Bl.all {bs : Nat} {M : List Ent} (h : Bl bs M) (hl : M.length ≤ bs) : Srt ky lexB M := by
  have := h 0
  rwa [Nat.zero_mul, List.drop_zero, List.take_of_length_le hl] at this
theorem Bl.append {bs k : Nat} {P Q : List Ent} (hP : Bl bs P) (hQ : Bl bs Q) (hl : P.length = k * bs) : Bl bs (P ++ Q) := fun i => by
  by_cases hi : i < k
  · have h1 : (i + 1) * bs ≤ k * bs := Nat.mul_le_mul_right bs hi
    rw [Nat.add_mul, Nat.one_mul] at h1
    rw [List.drop_append_of_le_length (by omega), List.take_append_of_le_length (by rw [List.length_drop]; omega)]
    exact hP i
  · have h1 : i * bs = P.length + (i - k) * bs := by
      rw [hl, ← Nat.add_mul]
      congr 1
      omega
    rw [h1, List.drop_length_add_append]
    exact hQ (i - k)
theorem Bl.drop {bs k : Nat} {P Q : List Ent} (h : Bl bs (P ++ Q)) (hl : P.length = k * bs) : Bl bs Q := fun i => by
  have := h (k + i)
  rwa [Nat.add_mul, ← hl, List.drop_length_add_append] at this
end Go.Proofs.Ytenfahecnkdhaaa.Nd
end

section
/-
  Of entries that follow one another with one name the first stays: slices.CompactFunc by namesake.
-/
namespace Go.Proofs.Ytenfahecnkdhaaa.Nd
open Go.RowKit
open Stb (Stab Srt Mrg)
open Sim (hid Kp No)

theorem str_eq8 (s p : ByteArray) : (s.toList == p.toList) = decide (s = p) := by
  rw [Bool.eq_iff_iff, beq_iff_eq, decide_eq_true_eq]
  constructor
  · intro h
    rw [ByteArray.toList_eq, ByteArray.toList_eq] at h
    exact ByteArray.ext (Array.toList_inj.1 h)
  · intro h
    rw [h]
theorem bytesOf_inj : ∀ (a b : List Int), (∀ x ∈ a, 0 ≤ x ∧ x ≤ 255) → (∀ x ∈ b, 0 ≤ x ∧ x ≤ 255) → Lib.bytesOf a = Lib.bytesOf b → a = b := fun a b ha hb e => by
  have h := cmp_bytes a b ha hb
  rw [e, cmp_bytes b b hb hb, (cmpE_zero b b).2 rfl] at h
  exact (cmpE_zero a b).1 h.symm
theorem txt_inj {a b : List Int} (ha : ∀ x ∈ a, 0 ≤ x ∧ x ≤ 255) (hb : ∀ x ∈ b, 0 ≤ x ∧ x ≤ 255) : txt a = txt b ↔ a = b := by
  constructor
  · intro e
    have e1 : (Lib.bytesOf a).toArray = (Lib.bytesOf b).toArray := congrArg ByteArray.data e
    exact bytesOf_inj a b ha hb (by simpa using e1)
  · intro e
    rw [e]

def kept : Ent → List Ent → List Ent
  | _, [] => []
  | p, y :: r => if y.1 = p.1 then kept y r else y :: kept y r
def zE : List Value := entC ([], false, List.replicate 32 0)
end Go.Proofs.Ytenfahecnkdhaaa.Nd
end

section
/-
  Entries as values that are read, rows of the call's own, and segment.Sort: of each name the first, in the names' order.
-/
namespace Go.Proofs.Ytenfahecnkdhaaa.Nd
open Go.RowKit
open Stb (Stab Srt Mrg)
open Sim (hid Kp No)

def ents (d : List Ent) : List Value := d.flatMap entC
theorem ents_cons (e : Ent) (d : List Ent) : ents (e :: d) = entC e ++ ents d := by simp [ents]
theorem ents_append (a b : List Ent) : ents (a ++ b) = ents a ++ ents b := by simp [ents]
theorem ents_length : ∀ (d : List Ent), (∀ e ∈ d, EOk e) → (ents d).length = d.length * 34
  | [], _ => rfl
  | e :: d, h => by
    rw [ents_cons, List.length_append, entC_length (h e (by simp)), ents_length d (fun x hx => h x (by simp [hx])), List.length_cons]
    omega
theorem ents_at : ∀ (d : List Ent), (∀ e ∈ d, EOk e) → ∀ (i j : Nat) (e : Ent), d[i]? = some e → j < 34 → (ents d)[i * 34 + j]? = (entC e)[j]?
  | [], _, i, j, e, hi, _ => by simp at hi
  | x :: d, h, 0, j, e, hi, hj => by
    simp only [List.getElem?_cons_zero, Option.some.injEq] at hi
    subst hi
    rw [ents_cons, Nat.zero_mul, Nat.zero_add, List.getElem?_append_left (by rw [entC_length (h x (by simp))]; exact hj)]
  | x :: d, h, i + 1, j, e, hi, hj => by
    rw [List.getElem?_cons_succ] at hi
    rw [ents_cons, List.getElem?_append_right (by rw [entC_length (h x (by simp))]; omega), entC_length (h x (by simp)), show (i + 1) * 34 + j - 34 = i * 34 + j by omega]
    exact ents_at d (fun y hy => h y (by simp [hy])) i j e hi hj
theorem ents_one (d : List Ent) : ∀ u ∈ ents d, u.oneCell' = true := by
  intro u hu
  obtain ⟨e, _, hue⟩ := List.mem_flatMap.1 hu
  exact entC_one e u hue

/-- Entries that are read: in blocks of P alone. -/
def EV (P : Nat → Prop) (w : World) (v : Value) (d : List Ent) : Prop :=
  ∃ a cap, v = .slice a d.length cap ∧ d.length ≤ cap ∧ cap ≤ maxLen ∧ (a = none → d = [] ∧ cap = 0) ∧ (∀ e ∈ d, EOk e) ∧ (d ≠ [] → ∃ g o, a = some ⟨g, o, none⟩ ∧ P g ∧ ERow w g o d)
theorem EV.nil (P : Nat → Prop) (w : World) : EV P w (.slice none 0 0) [] := ⟨none, 0, rfl, Nat.le_refl _, Nat.zero_le _, fun _ => ⟨rfl, rfl⟩, by simp, by simp⟩
theorem EV.kp {P L : Nat → Prop} {w w' : World} {v : Value} {d : List Ent} (h : EV P w v d) (k : Kp L w w') (hP : ∀ g, P g → ¬ L g) : EV P w' v d := by
  obtain ⟨a, cap, h1, h2, h3, h4, h5, h6⟩ := h
  refine ⟨a, cap, h1, h2, h3, h4, h5, fun hd => ?_⟩
  obtain ⟨g, o, e, hp, hr⟩ := h6 hd
  exact ⟨g, o, e, hp, hr.kp k (hP g hp)⟩
theorem EV.kept {P : Nat → Prop} {w w' : World} {v : Value} {d : List Ent} (h : EV P w v d) (k : Kp No w w') : EV P w' v d := h.kp k (fun _ _ x => x)
theorem EV.mono {P P' : Nat → Prop} {w : World} {v : Value} {d : List Ent} (h : EV P w v d) (hP : ∀ g, P g → P' g) : EV P' w v d := by
  obtain ⟨a, cap, h1, h2, h3, h4, h5, h6⟩ := h
  refine ⟨a, cap, h1, h2, h3, h4, h5, fun hd => ?_⟩
  obtain ⟨g, o, e, hp, hr⟩ := h6 hd
  exact ⟨g, o, e, hP g hp, hr⟩
theorem EV.ok {P : Nat → Prop} {w : World} {v : Value} {d : List Ent} (h : EV P w v d) : ∀ e ∈ d, EOk e := by
  obtain ⟨a, cap, h1, h2, h3, h4, h5, h6⟩ := h
  exact h5
theorem EV.src {P : Nat → Prop} {w : World} {v : Value} {d : List Ent} (h : EV P w v d) : Sim.Src w v d.length 34 (ents d) := by
  obtain ⟨a, cap, rfl, h2, h3, h4, h5, h6⟩ := h
  cases a with
  | none =>
    obtain ⟨rfl, rfl⟩ := h4 rfl
    exact .inl ⟨rfl, rfl, rfl⟩
  | some ad =>
    refine .inr ⟨ad, cap, rfl, ents_length d h5, fun j u hj => ?_, ents_one d⟩
    have hjl := (List.getElem?_eq_some_iff.1 hj).1
    rw [ents_length d h5] at hjl
    have hd : d ≠ [] := by intro e; subst e; simp at hjl
    obtain ⟨g, o, e, _, hr⟩ := h6 hd
    simp only [Option.some.injEq] at e
    subst e
    have hi : j / 34 < d.length := by omega
    obtain ⟨x, hx⟩ : ∃ x, d[j / 34]? = some x := ⟨_, List.getElem?_eq_getElem hi⟩
    have hm : j % 34 < 34 := Nat.mod_lt _ (by omega)
    have hje : j / 34 * 34 + j % 34 = j := by omega
    have hat := ents_at d h5 (j / 34) (j % 34) x hx hm
    rw [hje, hj] at hat
    have := (hr.2 (j / 34) x hx).2 (j % 34) u hat.symm
    rw [Sim.addr_add]
    rw [Nat.add_assoc, hje] at this
    exact this
theorem infoE : (Try.prog.info? 70).map (fun i => (i.zero, i.size, i.bytes)) = some (some (.agg zE.toArray), 34, 56) := by kernel_rfl

end Go.Proofs.Ytenfahecnkdhaaa.Nd
end

section
/-
  Of a stable sort the first of each name: strictly rising names, and of each name the first of what was sorted.
-/
namespace Go.Proofs.Ytenfahecnkdhaaa.Nd
open Go.RowKit
open Stb (Stab Srt Mrg)
open Sim (hid Kp No)

/-- Names that rise strictly. -/
def Rise (d : List Ent) : Prop := d.Pairwise (fun a b => lexB a.1 b.1 = true)

theorem Rise.get {d : List Ent} (h : Rise d) {y : Ent} (hy : y ∈ d) : d.find? (fun x => decide (x.1 = y.1)) = some y := by
  induction d with
  | nil => cases hy
  | cons x r ih =>
    obtain ⟨h1, h2⟩ := List.pairwise_cons.1 h
    rcases List.mem_cons.1 hy with rfl | hy
    · rw [List.find?_cons_of_pos (by simp)]
    · have hx : x.1 ≠ y.1 := fun e => by
        have := h1 y hy
        rw [e, lexB_irr] at this
        cases this
      rw [List.find?_cons_of_neg (by simpa using hx)]
      exact ih h2 hy
theorem Rise.mem {d : List Ent} (h : Rise d) {y : Ent} {k : List Int} : d.find? (fun x => decide (x.1 = k)) = some y ↔ y ∈ d ∧ y.1 = k := by
  refine ⟨fun e => ⟨List.mem_of_find?_eq_some e, by simpa using List.find?_some e⟩, fun ⟨hy, e⟩ => ?_⟩
  rw [← e]
  exact h.get hy
theorem Rise.srt {d : List Ent} (h : Rise d) : Srt ky lexB d := h.imp (fun {_ _} h => lexOrd.asym h)
theorem Rise.filter {d : List Ent} (h : Rise d) (k : List Int) : d.filter (fun x => decide (ky x = k)) = (d.find? (fun x => decide (x.1 = k))).toList := by
  induction d with
  | nil => rfl
  | cons a d ih =>
    obtain ⟨h1, h2⟩ := List.pairwise_cons.1 h
    by_cases e : a.1 = k
    · rw [List.filter_cons_of_pos (by simpa [ky] using e), List.find?_cons_of_pos (by simpa using e)]
      have : d.filter (fun x => decide (ky x = k)) = [] := by
        rw [List.filter_eq_nil_iff]
        intro x hx hk
        have hx1 := h1 x hx
        have hk' : x.1 = k := by simpa [ky] using hk
        rw [e, hk', lexB_irr] at hx1
        cases hx1
      rw [this]
      rfl
    · rw [List.filter_cons_of_neg (by simpa [ky] using e), List.find?_cons_of_neg (by simpa using e), ih h2]
theorem Rise.ext {a b : List Ent} (ha : Rise a) (hb : Rise b) (h : ∀ k, a.find? (fun x => decide (x.1 = k)) = b.find? (fun x => decide (x.1 = k))) : a = b :=
  Stb.srt_unique lexOrd (Stab.refl a) (fun k => by rw [hb.filter, ha.filter, h]) ha.srt hb.srt

/-- The entries of l as the document sorts them. -/
def Sorted (l out : List Ent) : Prop := Rise out ∧ ∀ k, out.find? (fun x => decide (x.1 = k)) = l.find? (fun x => decide (x.1 = k))
theorem Sorted.nil : Sorted [] [] := ⟨List.Pairwise.nil, fun _ => rfl⟩
/-- Those ahead of k are less than e, the one at k is not. -/
def Place (out : List Ent) (e : Ent) (k : Nat) : Prop := (∀ x ∈ out.take k, lexB x.1 e.1 = true) ∧ ∀ y, out[k]? = some y → lexB y.1 e.1 = false
end Go.Proofs.Ytenfahecnkdhaaa.Nd
end

section
/-
  slices.BinarySearchFunc by against: where a name stands in names that rise, or would stand.
-/
namespace Go.Proofs.Ytenfahecnkdhaaa.Nd
open Go.RowKit
open Stb (Stab Srt Mrg)
open Sim (hid Kp No)

theorem wpList_bare {P : Program} {ops : Array Oper} {Q : Exit → Act → World → Prop} {a : Act} {w : World} {rest : List Oper} {dst : Option Tmp} {op : Op} {type : TypeId} {pos : String} {after : Array Edge} {g : Option (Nat × Bool)}
    (hw : Region.wanted ⟨dst, op, type, pos, after, g⟩ (yielded ops a.tmps) = true) (h : wpList P ops Q (⟨dst, op, type, pos, after, none⟩ :: rest) a w) : wpList P ops Q (⟨dst, op, type, pos, after, g⟩ :: rest) a w := by
  unfold wpList at h ⊢
  rw [if_pos hw]
  rw [if_pos (by rfl)] at h
  exact h

end Go.Proofs.Ytenfahecnkdhaaa.Nd
end

section
/-
  Back of the tenth law: entries of the program's type as the document's.
-/
namespace Go.Proofs.Ytenfahecnkdhaaa.Nd
open Go.RowKit
open Stb (Stab Srt Mrg)
open Sim (hid Kp No)

theorem infoR : (Try.prog.info? 79).map (fun i => (i.zero, i.size, i.bytes)) = some (some (.agg zE.toArray), 34, 56) := by kernel_rfl
theorem x32 {nm : List Int} (h : nm.length = 32) : ∃ x0 x1 x2 x3 x4 x5 x6 x7 x8 x9 x10 x11 x12 x13 x14 x15 x16 x17 x18 x19 x20 x21 x22 x23 x24 x25 x26 x27 x28 x29 x30 x31,
    nm = [x0, x1, x2, x3, x4, x5, x6, x7, x8, x9, x10, x11, x12, x13, x14, x15, x16, x17, x18, x19, x20, x21, x22, x23, x24, x25, x26, x27, x28, x29, x30, x31] := by
  match nm, h with
  | [x0, x1, x2, x3, x4, x5, x6, x7, x8, x9, x10, x11, x12, x13, x14, x15, x16, x17, x18, x19, x20, x21, x22, x23, x24, x25, x26, x27, x28, x29, x30, x31], _ => exact ⟨_, _, _, _, _, _, _, _, _, _, _, _, _, _, _, _, _, _, _, _, _, _, _, _, _, _, _, _, _, _, _, _, rfl⟩
theorem own_rowT {ty : TypeId} {w : World} {g n cap : Nat} {d : List Ent} (h : Sim.Row w ty 34 (.slice (some ⟨g, 0, none⟩) n cap) n (ents d)) (hn : d.length = n) (hd : ∀ e ∈ d, EOk e) : EOwn w g 0 d := by
  have hg : g < w.heap.size := h.lt g rfl
  refine ⟨⟨hg, fun i e hi => ⟨hd e (List.mem_of_getElem? hi), fun j u hj => ?_⟩⟩, fun i hi j hj => ?_⟩
  · have hil := (List.getElem?_eq_some_iff.1 hi).1
    have hjl := (List.getElem?_eq_some_iff.1 hj).1
    rw [entC_length (hd e (List.mem_of_getElem? hi))] at hjl
    rw [Nat.zero_add, h.cellAt (i * 34 + j) (by omega), ents_at d hd i j e hi hjl]
    exact hj
  · have hx : ∃ u, (ents d)[i * 34 + j]? = some u := ⟨_, List.getElem?_eq_getElem (by rw [ents_length d hd]; omega)⟩
    obtain ⟨u, hu⟩ := hx
    rw [Nat.zero_add, h.cellAt (i * 34 + j) (by omega), hu]
    exact ⟨rfl, World.ownsRow.frozenAt h _⟩
theorem ev_of_rowT {ty : TypeId} {w : World} {v : Value} {d : List Ent} {P : Nat → Prop} (h : Sim.Row w ty 34 v d.length (ents d)) (hd : ∀ e ∈ d, EOk e) (hP : ∀ x, v.ownBlock = some x → P x) : EV P w v d := by
  obtain ⟨a, cap, rfl, h2, h3, h4, h5⟩ := h.shape
  refine ⟨a, cap, rfl, h2, h3, fun e => ⟨List.length_eq_zero_iff.1 (h4 e).1, (h4 e).2⟩, hd, fun hne => ?_⟩
  cases a with
  | none => exact absurd (List.length_eq_zero_iff.1 (h4 rfl).1) hne
  | some x =>
    obtain ⟨g, o, sp⟩ := x
    obtain ⟨e1, e2⟩ := h5 _ rfl
    cases e1
    cases e2
    exact ⟨g, 0, rfl, hP g rfl, (own_rowT h rfl hd).1⟩

/-- A row of the document's entries, of the call's own, that began at u. -/
def MineR (u w : World) (v : Value) (d : List Ent) : Prop := Sim.Row w 79 34 v d.length (ents d) ∧ (∀ x, v.ownBlock = some x → u.heap.size ≤ x) ∧ Kp No u w
theorem MineR.nil (w : World) : MineR w w (.slice none 0 0) [] := ⟨Sim.Row.nil _ _ _, by intro x hx; simp [Value.ownBlock] at hx, Kp.refl _ _⟩
theorem app_runR (w : World) (ty : TypeId) (v vx : Value) (n m : Nat) (xs ys : List Value) (hown : Sim.Row w 79 34 v n xs) (hy : Sim.Src w vx m 34 ys) (hm : 0 < m) (hlen : n + m ≤ 2000000) :
    ∃ ad cap w', (Builtin.append_ #[25, 25] ty #[v, vx]).run Try.prog w = .ok (.slice ad (n + m) cap) w' ∧ Sim.Row w' 79 34 (.slice ad (n + m) cap) (n + m) (xs ++ ys) ∧ w.grownBy w' v.ownBlock ∧ ((Value.slice ad (n + m) cap).ownBlock = v.ownBlock ∨ (Value.slice ad (n + m) cap).ownBlock = some w.heap.size) := by
  obtain ⟨i0, hi, hz0, hz1', hz2⟩ := info_parts infoR
  rcases hy with ⟨rfl, rfl, rfl⟩ | ⟨ad, c, rfl, hl, hc, h1⟩
  · omega
  · obtain ⟨v', w', hr, h8, h9, _, h10⟩ := run_append_own_at (P := Try.prog) w 0 25 ty 79 i0 (.agg zE.toArray) 34 56 Try.underlying25 hi hz0 hz1' hz2 rfl (by omega) v n xs hown ad m c ys hl hc h1 (by unfold maxLen; omega) (by omega) (Nat.zero_le _)
    have h8' : Sim.Row w' 79 34 v' (n + m) (xs ++ ys) := h8
    obtain ⟨ad', cap', rfl, _⟩ := h8'.shape
    exact ⟨ad', cap', w', hr, h8, h9, h10⟩

theorem ev_row {P : Nat → Prop} {w : World} {a : Option Addr} {n c : Nat} {d : List Ent} (h : EV P w (.slice a n c) d) (hd : d ≠ []) : ∃ g o, a = some ⟨g, o, none⟩ ∧ P g ∧ ERow w g o d := by
  obtain ⟨a', c', e, _, _, _, _, h6⟩ := h
  simp only [Value.slice.injEq] at e
  rw [e.1]
  exact h6 hd

theorem txt_size (a : List Int) : (txt a).size = a.length := by simp [txt, ByteArray.size, Lib.bytesOf]
theorem txt_bb {a b : List Int} (ha : ∀ x ∈ a, 0 ≤ x ∧ x ≤ 255) (hb : ∀ x ∈ b, 0 ≤ x ∧ x ≤ 255) : bytesBefore (txt a).data.toList (txt b).data.toList = lexB a b := by
  rw [Bool.eq_iff_iff, ← Tr.cmp_neg, ← cmpE_neg, txt_cmp ha hb]
theorem kp_of {w w' : World} (k : Tr.Kp Tr.No w w') : Kp No w w' := ⟨k.os, k.tape, k.output, k.size, fun x h _ => k.block x h (fun h => h)⟩
theorem less_any (a b : List Int) (w : World) (ha : ∀ x ∈ a, 0 ≤ x ∧ x ≤ 255) (hb : ∀ x ∈ b, 0 ≤ x ∧ x ≤ 255) (la : a.length ≤ 1000000) (lb : b.length ≤ 1000000) :
    Calls Try.prog 59 #[.string (txt a), .string (txt b)] w fun e w' => e = .returned (.bool (lexB a b)) ∧ Kp No w w' := by
  have h := Tr.rLess_any (txt a) (txt b) (by rw [txt_size]; omega) (by rw [txt_size]; omega) w
  rw [txt_bb ha hb] at h
  exact h.mono fun e w' h => ⟨h.1, kp_of h.2⟩
theorem exec_sliceE {P : Program} {o : Oper} {a : Act} {w w' : World} (t : TypeId) (x : Operand) (ho : o.op = .buildSlice t 1 #[(0, x)]) (v u : Value) (hx : a.eval x = v) (hr : (Instr.buildSlice t 1 #[(0, v)]).run P w = .ok u w') : (execOp a.eval o).run P w = .ok (.value u) w' := by
  unfold execOp
  simp [ho, hx, hr, Result.andThen]
theorem exec_appE {P : Program} {o : Oper} {a : Act} {w w' : World} (s x : Operand) (t : TypeId) (ho : o.op = .call { callee := .builtin .append, args := #[s, x], argTypes := #[t, t] }) (vs vx v : Value) (hs : a.eval s = vs) (hx : a.eval x = vx)
    (hr : (Builtin.append_ #[t, t] o.type #[vs, vx]).run P w = .ok v w') : (execOp a.eval o).run P w = .ok (.value v) w' := by
  unfold execOp
  simp [ho, resolve, invoke, builtin, hs, hx, hr, Result.andThen]
theorem wp_valE {P : Program} {o : Oper} {a : Act} {K : Act → World → Prop} {Q : Exit → Act → World → Prop} {w w' : World} {v : Value} (hr : (execOp a.eval o).run P w = .ok (.value v) w') (h : K (a.put o.dst v) w') : Oper.wp P o a w K Q := by
  unfold Oper.wp
  rw [hr]
  exact h
end Go.Proofs.Ytenfahecnkdhaaa.Nd
end

section
/-
  The document's Sort of entries.
-/
namespace Go.Proofs.Ytenfahecnkdhaaa.Nd
open Go.RowKit
open Stb (Stab Srt Mrg)
open Sim (hid Kp No)
theorem Sorted.sub {l out : List Ent} (h : Sorted l out) : ∀ e ∈ out, e ∈ l := fun e he => by
  have h1 := (h.1.get he)
  rw [h.2] at h1
  exact List.mem_of_find?_eq_some h1
theorem Sorted.ok {l out : List Ent} (h : Sorted l out) (hl : ∀ e ∈ l, EOk e) : ∀ e ∈ out, EOk e := fun e he => by
  have h1 := h.1.get he
  rw [h.2] at h1
  exact hl e (List.mem_of_find?_eq_some h1)
theorem Place.zero (out : List Ent) (e : Ent) : ∀ x ∈ out.take 0, lexB x.1 e.1 = true := by simp
section three
variable {U X : World} {v51 v61 : Value} {out : List Ent} {e : Ent} {k m : Nat}
end three
end Go.Proofs.Ytenfahecnkdhaaa.Nd
end

section
/-
  Own and Back of the fourteenth law: entries of the document's type as the program's, and the other way around.
-/
namespace Go.Proofs.Ytenfahecnkdhaaa.Nd
open Go.RowKit
open Stb (Stab Srt Mrg)
open Sim (hid Kp No)

/-- A row of the program's entries, of the call's own, that began at u. -/
def Mine (u w : World) (v : Value) (d : List Ent) : Prop := Sim.Row w 70 34 v d.length (ents d) ∧ (∀ x, v.ownBlock = some x → u.heap.size ≤ x) ∧ Kp No u w
theorem yields_three {P : Program} {ops : Array Oper} {S : World → Prop} {o : Oper} {a : Act} (hw : Region.wanted o (yielded ops a.tmps) = true) (t : TypeId) (x y z : Operand) (ho : o.op = .build t #[(0, x), (1, y), (2, z)])
    (vx vy vz : Value) (hx : a.eval x = vx) (hy : a.eval y = vy) (hz : a.eval z = vz) (C : Array Value) (hb : P.built t [(0, vx), (1, vy), (2, vz)] = some C) : YieldsIf P ops S o (.agg C) a :=
  .inl ⟨hw, fun w _ => by
    have e : P.built t ((#[(0, x), (1, y), (2, z)] : Array (Nat × Operand)).map fun (i, x) => (i, a.eval x)).toList = some C := by
      rw [← hb]
      simp only [List.map_toArray, List.map_cons, List.map_nil, hx, hy, hz]
    unfold execOp
    simp only [ho, Sem.run_bind, run_build w t _ C e, Result.andThen_ok]
    rfl⟩
theorem rng_hash {w : World} {g o : Nat} {e : Ent} (h : w.rangeAt g o (entC e)) : w.rangeAt g (o + 2) (b8 e.2.2) := fun j u hj => by
  have := h (j + 2) u (by simpa [entC] using hj)
  rwa [show o + (j + 2) = o + 2 + j by omega] at this
theorem infH : (Try.prog.info? 68).map (·.size) = some 32 := by kernel_rfl
theorem builtN (T : ByteArray) (p : Bool) (hs : List Int) (h : hs.length = 32) : Try.prog.built 70 [(0, .string T), (1, .bool p), (2, .agg (b8 hs).toArray)] = some (Value.string T :: .bool p :: b8 hs).toArray := by
  obtain ⟨x0, x1, x2, x3, x4, x5, x6, x7, x8, x9, x10, x11, x12, x13, x14, x15, x16, x17, x18, x19, x20, x21, x22, x23, x24, x25, x26, x27, x28, x29, x30, x31, rfl⟩ := x32 h
  kernel_rfl
theorem builtN' (nm : List Int) (p : Bool) (hs : List Int) (h : hs.length = 32) : Try.prog.built 70 [(0, .string (txt nm)), (1, .bool p), (2, .agg (b8 hs).toArray)] = some (entC (nm, p, hs)).toArray := builtN (txt nm) p hs h
theorem builtD (T : ByteArray) (p : Bool) (hs : List Int) (h : hs.length = 32) : Try.prog.built 79 [(0, .string T), (1, .bool p), (2, .agg (b8 hs).toArray)] = some (Value.string T :: .bool p :: b8 hs).toArray := by
  obtain ⟨x0, x1, x2, x3, x4, x5, x6, x7, x8, x9, x10, x11, x12, x13, x14, x15, x16, x17, x18, x19, x20, x21, x22, x23, x24, x25, x26, x27, x28, x29, x30, x31, rfl⟩ := x32 h
  kernel_rfl
theorem run_oneD (T : ByteArray) (p : Bool) (hs : List Int) (h : hs.length = 32) (w : World) : (Instr.buildSlice 25 1 #[(0, .agg (Value.string T :: .bool p :: b8 hs).toArray)]).run Try.prog w = .ok (.slice (some ⟨w.heap.size, 0, none⟩) 1 1) (w.alloc (.cells (Value.string T :: .bool p :: b8 hs).toArray 79)) := by
  obtain ⟨x0, x1, x2, x3, x4, x5, x6, x7, x8, x9, x10, x11, x12, x13, x14, x15, x16, x17, x18, x19, x20, x21, x22, x23, x24, x25, x26, x27, x28, x29, x30, x31, rfl⟩ := x32 h
  kernel_rfl
theorem builtD' (nm : List Int) (p : Bool) (hs : List Int) (h : hs.length = 32) : Try.prog.built 79 [(0, .string (txt nm)), (1, .bool p), (2, .agg (b8 hs).toArray)] = some (entC (nm, p, hs)).toArray := builtD (txt nm) p hs h
theorem run_oneD' (nm : List Int) (p : Bool) (hs : List Int) (h : hs.length = 32) (w : World) : (Instr.buildSlice 25 1 #[(0, .agg (entC (nm, p, hs)).toArray)]).run Try.prog w = .ok (.slice (some ⟨w.heap.size, 0, none⟩) 1 1) (w.alloc (.cells (entC (nm, p, hs)).toArray 79)) := run_oneD (txt nm) p hs h w
set_option maxHeartbeats 4000000 in
set_option maxRecDepth 100000 in
theorem back_any (w : World) (v : Value) (d : List Ent) (P : Nat → Prop) (hv : EV P w v d) (hl : d.length ≤ 1000000) :
    Calls Try.prog 28 #[v] w fun e w' => ∃ r, e = .returned r ∧ MineR w w' r d := by
  obtain ⟨a, c, rfl, h2, h3, h4, h5, h6⟩ := hv
  obtain ⟨n, hn⟩ : ∃ n, d.length = n := ⟨_, rfl⟩
  have HN := hid hn
  rw [hn] at hl ⊢
  have H6 := hid h6
  have HM0 : Hid (MineR w w (.slice none 0 0) (d.take 0)) := ⟨Sim.Row.nil _ _ _, by intro x hx; simp [Value.ownBlock] at hx, Kp.refl _ _⟩
  clear hn h2 h3 h4 h5 h6
  go_enter Try.func28, Try.ntmps28
  go_wp2_with fail
  go_loopw [3, 4] (fun v3 v4 wr => ∃ (k : Nat) (ad : Option Addr) (cap : Nat), v3 = .slice ad k cap ∧ v4 = .int .i64 (k : Int) ∧ k ≤ n ∧ Hid (MineR w wr (.slice ad k cap) (d.take k))) (fun _ v4 _ => n - (intOf v4).toNat)
  case atStart => exact ⟨0, none, 0, rfl, rfl, Nat.zero_le _, HM0.out⟩
  case round =>
    obtain ⟨k, ad, cap, rfl, rfl, hkn, HS⟩ := hrel
    by_cases hlt : k < n
    · have hltI : (k : Int) < (n : Int) := by omega
      have hwk : IntKind.i64.wrap ((k : Int) + 1) = ((k + 1 : Nat) : Int) := by rw [IntKind.wrap_i64]; omega
      obtain ⟨g, o, rfl, _, hr⟩ := H6.out (by intro e; have := HN.out; rw [e] at this; simp at this; omega)
      obtain ⟨e, he⟩ : ∃ e, d[k]? = some e := ⟨_, List.getElem?_eq_getElem (by rw [HN.out]; exact hlt)⟩
      obtain ⟨heo, _⟩ := hr.2 k e he
      obtain ⟨nm, p, hs⟩ := e
      have hnm : hs.length = 32 := heo.2.1
      have hgO : (Value.slice ad k cap).ownBlock ≠ some g := fun e => by have := HS.out.2.1 g e; have := hr.1; omega
      have hgw : g < wr.heap.size := Nat.lt_of_lt_of_le hr.1 HS.out.2.2.size
      have hrow : ∀ V, Kp (fun x => (Value.slice ad k cap).ownBlock = some x) wr V → V.rangeAt g (o + k * 34) (entC (nm, p, hs)) := fun V hV j u hu => (hV.cell (p := ⟨g, _, none⟩) hgw hgO).trans (((hr.kp HS.out.2.2 (fun x => x)).2 k _ he).2 j u hu)
      have HLX : Hid (∀ V, Kp (fun x => (Value.slice ad k cap).ownBlock = some x) wr V → V.rangeAt g (o + k * 34 + 2) (b8 hs)) := fun V hV => rng_hash (hrow V hV)
      have HLP : Hid (∀ V, Kp (fun x => (Value.slice ad k cap).ownBlock = some x) wr V → V.cell? ⟨g, o + k * 34, none⟩ = some (.string (txt nm)) ∧ V.cell? ⟨g, o + k * 34 + 1, none⟩ = some (.bool p)) := fun V hV => by
        have h := hrow V hV
        exact ⟨h 0 _ rfl, h 1 _ rfl⟩
      have HI1 : Hid ((Try.prog.info? 68).map (·.size) = some (b8 hs).length) := by rw [Hid, b8_length, hnm]; exact infH
      have HB1 := hid (builtD' nm p hs hnm)
      have HB2 := hid (fun W => run_oneD' nm p hs hnm W)
      have hkl : (d.take k).length = k := by rw [List.length_take, HN.out]; omega
      have HNX : Hid (d.take (k + 1) = d.take k ++ [(nm, p, hs)]) := by rw [Hid, List.take_add_one, he]; rfl
      obtain ⟨C, hC⟩ : ∃ C, entC (nm, p, hs) = C := ⟨_, rfl⟩
      have hRA : Sim.Row (wr.drew.alloc (.cells C.toArray 79)) 79 34 (.slice ad k cap) k (ents (d.take k)) := by
        have := HS.out.1
        rw [hkl] at this
        exact this.kept (((Kp.refl No wr).drew).alloc _)
      have hSC : Sim.Src (wr.drew.alloc (.cells C.toArray 79)) (.slice (some ⟨wr.heap.size, 0, none⟩) 1 1) 1 34 C := Sim.Src.one wr.drew C 34 79 (by rw [← hC]; exact entC_length heo) (by rw [← hC]; exact entC_one _)
      obtain ⟨ad2, cap2, w2, hap, hrow2, hgr2, hown2⟩ := app_runR _ 25 (.slice ad k cap) (.slice (some ⟨wr.heap.size, 0, none⟩) 1 1) k 1 _ _ hRA hSC (by omega) (by omega)
      have hgr : wr.grownBy w2 (Value.slice ad k cap).ownBlock → True := fun _ => trivial
      have HKA : Hid (Kp (fun x => (Value.slice ad k cap).ownBlock = some x) wr (wr.drew.alloc (.cells C.toArray 79))) := ((Kp.refl _ wr).drew).alloc _
      have HK2 : Hid (Kp (fun x => (Value.slice ad k cap).ownBlock = some x) wr w2) := HKA.out.grown hgr2 (fun x hx => .inl hx)
      have HF : Hid (MineR w w2 (.slice ad2 (k + 1) cap2) (d.take (k + 1))) := by
        rw [HNX.out]
        refine ⟨?_, fun x hx => ?_, HS.out.2.2.trans HK2.out (fun x hx => .inr (HS.out.2.1 x hx))⟩
        · rw [List.length_append, hkl, ents_append]
          have : ents [(nm, p, hs)] = C := by simp [ents, hC]
          rw [this]
          exact hrow2
        · rcases hown2 with e | e
          · exact HS.out.2.1 x (by rw [← e]; exact hx)
          · rw [e] at hx
            cases hx
            exact Nat.le_trans HS.out.2.2.size HKA.out.size
      have HAP := hid hap
      rw [hC] at HB1 HB2
      clear hC hRA hSC hap hrow2 hgr2 hown2 hkl hrow hr he heo hgO hgw hgr HNX HS
      generalize b8 hs = bx at *
      generalize txt nm = T at *
      go_wp2_with fail
      refine wp_region_held_drew (S := fun V => Kp (fun x => (Value.slice ad k cap).ownBlock = some x) wr V) (by kernel_rfl) ((Kp.refl _ _).drew) (fun hHeld => ?_)
      refine wpAnyH_take (i := 0) (oi := { dst := some 11, op := Op.move (Operand.tmp 3), type := 25, pos := "law.go:27", after := #[], guard := none }) (v := .slice ad k cap) rfl (by kernel_rfl) (by kernel_rfl) (by kernel_rfl) (fun _ _ _ h => h) (Or.inl ⟨by rfl, fun w' hw' => by (clear hw'; go_simp)⟩) hHeld ?_
      simp only [Act.put, List.setIfInBounds_toArray, List.set_cons_zero, List.set_cons_succ]
      refine wpAnyH_take (i := 1) (oi := { dst := some 12, op := Op.move (Operand.tmp 0), type := 40, pos := "law.go:27", after := #[], guard := none }) (v := .slice (some ⟨g, o, none⟩) n c) rfl (by kernel_rfl) (by kernel_rfl) (by kernel_rfl) (fun _ _ _ h => h) (Or.inl ⟨by rfl, fun w' hw' => by (clear hw'; go_simp)⟩) hHeld ?_
      simp only [Act.put, List.setIfInBounds_toArray, List.set_cons_zero, List.set_cons_succ]
      refine wpAnyH_take (i := 2) (oi := { dst := some 13, op := Op.move (Operand.tmp 4), type := 3, pos := "law.go:27", after := #[], guard := none }) (v := .int .i64 (k : Int)) rfl (by kernel_rfl) (by kernel_rfl) (by kernel_rfl) (fun _ _ _ h => h) (Or.inl ⟨by rfl, fun w' hw' => by (clear hw'; go_simp)⟩) hHeld ?_
      simp only [Act.put, List.setIfInBounds_toArray, List.set_cons_zero, List.set_cons_succ]
      refine wpAnyH_take (i := 3) (oi := { dst := some 14, op := Op.indexAddr 40 (Operand.tmp 12) (Operand.tmp 13), type := 0, pos := "law.go:27", after := #[{ on := 1, ground := Ground.data }, { on := 2, ground := Ground.data }], guard := none }) (v := .pointer (some ⟨g, o + k * 34, none⟩)) rfl (by kernel_rfl) (by kernel_rfl) (by kernel_rfl) (fun _ _ _ h => h) (Or.inl ⟨by rfl, fun w' hw' => by (clear hw'; go_simp)⟩) hHeld ?_
      simp only [Act.put, List.setIfInBounds_toArray, List.set_cons_zero, List.set_cons_succ]
      refine wpAnyH_take (i := 4) (oi := { dst := some 15, op := Op.fieldAddr 70 (Operand.tmp 14) 0, type := 0, pos := "law.go:27", after := #[{ on := 3, ground := Ground.data }], guard := none }) (v := .pointer (some ⟨g, o + k * 34, none⟩)) rfl (by kernel_rfl) (by kernel_rfl) (by kernel_rfl) (fun _ _ _ h => h) (Or.inl ⟨by rfl, fun w' hw' => by (clear hw'; go_simp)⟩) hHeld ?_
      simp only [Act.put, List.setIfInBounds_toArray, List.set_cons_zero, List.set_cons_succ]
      refine wpAnyH_take (i := 5) (oi := { dst := some 16, op := Op.load 9 (Operand.tmp 15), type := 9, pos := "law.go:27", after := #[{ on := 4, ground := Ground.data }], guard := none }) (v := .string T) rfl (by kernel_rfl) (by kernel_rfl) (by kernel_rfl) (fun _ _ _ h => h) (Or.inl ⟨by rfl, fun w' hw' => by (have q := (HLP.out _ hw').1; clear hw'; go_simp)⟩) hHeld ?_
      simp only [Act.put, List.setIfInBounds_toArray, List.set_cons_zero, List.set_cons_succ]
      refine wpAnyH_take (i := 6) (oi := { dst := some 17, op := Op.move (Operand.tmp 0), type := 40, pos := "law.go:27", after := #[], guard := none }) (v := .slice (some ⟨g, o, none⟩) n c) rfl (by kernel_rfl) (by kernel_rfl) (by kernel_rfl) (fun _ _ _ h => h) (Or.inl ⟨by rfl, fun w' hw' => by (clear hw'; go_simp)⟩) hHeld ?_
      simp only [Act.put, List.setIfInBounds_toArray, List.set_cons_zero, List.set_cons_succ]
      refine wpAnyH_take (i := 7) (oi := { dst := some 18, op := Op.move (Operand.tmp 4), type := 3, pos := "law.go:27", after := #[], guard := none }) (v := .int .i64 (k : Int)) rfl (by kernel_rfl) (by kernel_rfl) (by kernel_rfl) (fun _ _ _ h => h) (Or.inl ⟨by rfl, fun w' hw' => by (clear hw'; go_simp)⟩) hHeld ?_
      simp only [Act.put, List.setIfInBounds_toArray, List.set_cons_zero, List.set_cons_succ]
      refine wpAnyH_take (i := 8) (oi := { dst := some 19, op := Op.indexAddr 40 (Operand.tmp 17) (Operand.tmp 18), type := 0, pos := "law.go:27", after := #[{ on := 6, ground := Ground.data }, { on := 7, ground := Ground.data }], guard := none }) (v := .pointer (some ⟨g, o + k * 34, none⟩)) rfl (by kernel_rfl) (by kernel_rfl) (by kernel_rfl) (fun _ _ _ h => h) (Or.inl ⟨by rfl, fun w' hw' => by (clear hw'; go_simp)⟩) hHeld ?_
      simp only [Act.put, List.setIfInBounds_toArray, List.set_cons_zero, List.set_cons_succ]
      refine wpAnyH_take (i := 9) (oi := { dst := some 20, op := Op.fieldAddr 70 (Operand.tmp 19) 1, type := 0, pos := "law.go:27", after := #[{ on := 8, ground := Ground.data }], guard := none }) (v := .pointer (some ⟨g, o + k * 34 + 1, none⟩)) rfl (by kernel_rfl) (by kernel_rfl) (by kernel_rfl) (fun _ _ _ h => h) (Or.inl ⟨by rfl, fun w' hw' => by (clear hw'; go_simp)⟩) hHeld ?_
      simp only [Act.put, List.setIfInBounds_toArray, List.set_cons_zero, List.set_cons_succ]
      refine wpAnyH_take (i := 10) (oi := { dst := some 21, op := Op.load 4 (Operand.tmp 20), type := 4, pos := "law.go:27", after := #[{ on := 9, ground := Ground.data }], guard := none }) (v := .bool p) rfl (by kernel_rfl) (by kernel_rfl) (by kernel_rfl) (fun _ _ _ h => h) (Or.inl ⟨by rfl, fun w' hw' => by (have q := (HLP.out _ hw').2; clear hw'; go_simp)⟩) hHeld ?_
      simp only [Act.put, List.setIfInBounds_toArray, List.set_cons_zero, List.set_cons_succ]
      refine wpAnyH_take (i := 11) (oi := { dst := some 22, op := Op.move (Operand.tmp 0), type := 40, pos := "law.go:27", after := #[], guard := none }) (v := .slice (some ⟨g, o, none⟩) n c) rfl (by kernel_rfl) (by kernel_rfl) (by kernel_rfl) (fun _ _ _ h => h) (Or.inl ⟨by rfl, fun w' hw' => by (clear hw'; go_simp)⟩) hHeld ?_
      simp only [Act.put, List.setIfInBounds_toArray, List.set_cons_zero, List.set_cons_succ]
      refine wpAnyH_take (i := 12) (oi := { dst := some 23, op := Op.move (Operand.tmp 4), type := 3, pos := "law.go:27", after := #[], guard := none }) (v := .int .i64 (k : Int)) rfl (by kernel_rfl) (by kernel_rfl) (by kernel_rfl) (fun _ _ _ h => h) (Or.inl ⟨by rfl, fun w' hw' => by (clear hw'; go_simp)⟩) hHeld ?_
      simp only [Act.put, List.setIfInBounds_toArray, List.set_cons_zero, List.set_cons_succ]
      refine wpAnyH_take (i := 13) (oi := { dst := some 24, op := Op.indexAddr 40 (Operand.tmp 22) (Operand.tmp 23), type := 0, pos := "law.go:27", after := #[{ on := 11, ground := Ground.data }, { on := 12, ground := Ground.data }], guard := none }) (v := .pointer (some ⟨g, o + k * 34, none⟩)) rfl (by kernel_rfl) (by kernel_rfl) (by kernel_rfl) (fun _ _ _ h => h) (Or.inl ⟨by rfl, fun w' hw' => by (clear hw'; go_simp)⟩) hHeld ?_
      simp only [Act.put, List.setIfInBounds_toArray, List.set_cons_zero, List.set_cons_succ]
      refine wpAnyH_take (i := 14) (oi := { dst := some 25, op := Op.fieldAddr 70 (Operand.tmp 24) 2, type := 0, pos := "law.go:27", after := #[{ on := 13, ground := Ground.data }], guard := none }) (v := .pointer (some ⟨g, o + k * 34 + 2, none⟩)) rfl (by kernel_rfl) (by kernel_rfl) (by kernel_rfl) (fun _ _ _ h => h) (Or.inl ⟨by rfl, fun w' hw' => by (clear hw'; go_simp)⟩) hHeld ?_
      simp only [Act.put, List.setIfInBounds_toArray, List.set_cons_zero, List.set_cons_succ]
      refine wpAnyH_take (i := 15) (oi := { dst := some 26, op := Op.load 68 (Operand.tmp 25), type := 68, pos := "law.go:27", after := #[{ on := 14, ground := Ground.data }], guard := none }) (v := .agg bx.toArray) rfl (by kernel_rfl) (by kernel_rfl) (by kernel_rfl) (fun _ _ _ h => h) (yieldsIf_load_mid (by rfl) _ _ rfl g (o + k * 34 + 2) rfl bx _ (HLX.out) Try.underlying68 rfl HI1.out) hHeld ?_
      simp only [Act.put, List.setIfInBounds_toArray, List.set_cons_zero, List.set_cons_succ]
      refine wpAnyH_take (i := 16) (oi := { dst := some 27, op := Op.build 79 #[(0, Operand.tmp 16), (1, Operand.tmp 21), (2, Operand.tmp 26)], type := 79, pos := "law.go:27", after := #[{ on := 5, ground := Ground.data }, { on := 10, ground := Ground.data }, { on := 15, ground := Ground.data }], guard := none }) (v := .agg C.toArray) rfl (by kernel_rfl) (by kernel_rfl) (by kernel_rfl) (fun _ _ _ h => h) (yields_three (by rfl) 79 (.tmp 16) (.tmp 21) (.tmp 26) rfl (.string T) (.bool p) (.agg bx.toArray) rfl rfl rfl _ HB1.out) hHeld ?_
      simp only [Act.put, List.setIfInBounds_toArray, List.set_cons_zero, List.set_cons_succ]
      refine wpAnyH_ready (rs := [17]) (by kernel_rfl) (by simp) ?_
      refine AllReadyH.cons (o := { dst := some 28, op := Op.buildSlice 25 1 #[(0, Operand.tmp 27)], type := 25, pos := "law.go:27", after := #[{ on := 16, ground := Ground.data }], guard := none }) rfl (fun K hK => ?_) AllReadyH.nil
      rw [if_pos (by rfl)]
      refine wp_valE (exec_sliceE 25 _ rfl (.agg C.toArray) _ rfl (HB2.out _)) ?_
      refine hK.out _ _ HKA.out (fun hh => ?_)
      clear hK K hHeld
      have hHeld := hh
      clear hh
      try simp only [Act.put, List.setIfInBounds_toArray, List.set_cons_zero, List.set_cons_succ]
      refine wpAnyH_ready (rs := [18]) (by kernel_rfl) (by simp) ?_
      refine AllReadyH.cons (o := { dst := some 29, op := Op.call { callee := Callee.builtin Builtin.append, args := #[Operand.tmp 11, Operand.tmp 28], argTypes := #[25, 25] }, type := 25, pos := "law.go:27", after := #[{ on := 0, ground := Ground.data }, { on := 17, ground := Ground.data }], guard := none }) rfl (fun K hK => ?_) AllReadyH.nil
      rw [if_pos (by rfl)]
      refine wp_valE (exec_appE _ _ 25 rfl (.slice ad k cap) (.slice (some ⟨wr.heap.size, 0, none⟩) 1 1) _ rfl rfl HAP.out) ?_
      refine hK.out _ _ HK2.out (fun hh => ?_)
      clear hK K hHeld
      have hHeld := hh
      clear hh
      try simp only [Act.put, List.setIfInBounds_toArray, List.set_cons_zero, List.set_cons_succ]
      refine wpAnyH_take (i := 19) (oi := { dst := some 3, op := Op.assign (Operand.tmp 29), type := 25, pos := "law.go:27", after := #[{ on := 18, ground := Ground.data }, { on := 18, ground := Ground.chain }, { on := 0, ground := Ground.phase }, { on := 1, ground := Ground.phase }, { on := 2, ground := Ground.phase }, { on := 3, ground := Ground.phase }, { on := 4, ground := Ground.phase }, { on := 5, ground := Ground.phase }, { on := 6, ground := Ground.phase }, { on := 7, ground := Ground.phase }, { on := 8, ground := Ground.phase }, { on := 9, ground := Ground.phase }, { on := 10, ground := Ground.phase }, { on := 11, ground := Ground.phase }, { on := 12, ground := Ground.phase }, { on := 13, ground := Ground.phase }, { on := 14, ground := Ground.phase }, { on := 15, ground := Ground.phase }, { on := 16, ground := Ground.phase }, { on := 17, ground := Ground.phase }, { on := 18, ground := Ground.phase }], guard := none }) (v := .slice ad2 (k + 1) cap2) rfl (by kernel_rfl) (by kernel_rfl) (by kernel_rfl) (fun _ _ _ h => h) (Or.inl ⟨by rfl, fun w' hw' => by (clear hw'; go_simp)⟩) hHeld ?_
      simp only [Act.put, List.setIfInBounds_toArray, List.set_cons_zero, List.set_cons_succ]
      refine wpAnyH_done (by kernel_rfl) ?_ _
      clear hHeld
      go_wp2_with fail
      go_round
      case rel => exact ⟨k + 1, ad2, cap2, rfl, by first | rfl | go_num, by omega, HF.out⟩
      case measure => simp [intOf]; omega
    · have hltI : ¬ (k : Int) < (n : Int) := by omega
      have hkn' : k = n := by omega
      have HF : Hid (MineR w wr (.slice ad k cap) d) := by
        have := HS.out
        rw [hkn', ← HN.out, List.take_length] at this
        rw [Hid, hkn', ← HN.out]
        exact this
      clear hkn'
      go_wp2_with fail
      go_ret
      exact ⟨_, rfl, HF.out⟩

end Go.Proofs.Ytenfahecnkdhaaa.Nd
end
