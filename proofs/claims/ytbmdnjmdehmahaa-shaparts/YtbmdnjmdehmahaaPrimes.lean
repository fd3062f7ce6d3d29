/-
  The first primes: slices.IndexFunc, slices.ContainsFunc of the closure that divides, and firstPrimes of 64.
-/
import Derived.Test.YtbmdnjmdehmahaaBase
import Derived.Maps.AppendAt
import Derived.Laws.Bits64b
namespace Go.Proofs.Ytbmdnjmdehmahaa
open Go.RowKit

/-! ### In plain mathematics -/
/-- The primes ahead of p. -/
def ahead (p : Nat) : List Nat := primes64.filter (· < p)
/-- Does one of these divide p? -/
def divided (p : Nat) (l : List Nat) : Bool := l.any fun q => p % q == 0
theorem ahead_next : ∀ p, p < 312 → 2 ≤ p → ahead (p + 1) = if divided p (ahead p) = true then ahead p else ahead p ++ [p] := by decide +kernel
theorem ahead_few : ∀ p, p < 312 → (ahead p).length < 64 := by decide +kernel
theorem ahead_all : ahead 312 = primes64 := by decide +kernel
theorem ahead_two : ahead 2 = [] := by decide +kernel
theorem primes_pos : ∀ q ∈ primes64, 0 < q ∧ q < 312 := by decide +kernel
theorem ahead_pos (p : Nat) : ∀ q ∈ ahead p, 0 < q ∧ q < 312 := fun q hq => primes_pos q (List.mem_filter.1 hq).1
theorem ahead_le (p : Nat) : (ahead p).length ≤ 64 := List.length_filter_le _ _

/-- Numbers as cells. -/
def u64s (l : List Nat) : List Value := l.map fun x : Nat => .int .u64 (x : Int)
theorem u64s_length (l : List Nat) : (u64s l).length = l.length := by simp [u64s]
theorem u64s_at (l : List Nat) (i : Nat) (h : i < l.length) : (u64s l)[i]? = some (.int .u64 ((l.getD i 0 : Nat) : Int)) := by simp [u64s, List.getElem?_eq_getElem h]
/-- Numbers lie at g, o. -/
def NumsAt (w : World) (g o : Nat) (l : List Nat) : Prop := ∀ i, i < l.length → w.cell? ⟨g, o + i, none⟩ = some (.int .u64 ((l.getD i 0 : Nat) : Int))

/-- An index, or -1. -/
def IdxOk (b : Bool) (z : Int) : Prop := if b = true then 0 ≤ z else z = -1

set_option maxRecDepth 100000 in
/-- The closure: does q divide p? -/
theorem divides_any (q p g : Nat) (w : World) (hq : 0 < q) (hq2 : q < 312) (hp : p < 400) (hc : w.cell? ⟨g, 0, none⟩ = some (.int .u64 p)) :
    Calls Try.prog 67 #[.int .u64 q, .pointer (some ⟨g, 0, none⟩)] w fun e w' => e = .returned (.bool (p % q == 0)) ∧ w' = w := by
  have hq0 : (q : Int) ≠ 0 := by omega
  go_enter Try.func67, Try.ntmps67
  go_wp2
  go_ret
  refine ⟨?_, rfl⟩
  have e : ((p : Int) % (q : Int) == 0) = (p % q == 0) := by
    rw [Bool.eq_iff_iff, beq_iff_eq, beq_iff_eq]
    exact ⟨fun h => by have h' : ((p % q : Nat) : Int) = 0 := h; omega, fun h => by show ((p % q : Nat) : Int) = 0; omega⟩
  rw [← e]
  rfl

set_option maxHeartbeats 1000000 in
set_option maxRecDepth 100000 in
theorem index_any (l : List Nat) (a : Option Addr) (c p g : Nat) (w : World) (hl : l.length ≤ 64) (hn : ∀ q ∈ l, 0 < q ∧ q < 312) (hp : p < 400) (hc : w.cell? ⟨g, 0, none⟩ = some (.int .u64 p)) (hs : l ≠ [] → ∃ r, a = some ⟨r, 0, none⟩ ∧ NumsAt w r 0 l) :
    Calls Try.prog 75 #[.slice a l.length c, .func (.func 67) #[] #[.pointer (some ⟨g, 0, none⟩)]] w fun e w' => (∃ z : Int, e = .returned (.int .i64 z) ∧ IdxOk (divided p l) z) ∧ w' = w := by
  have HN := hid hn
  have HS := hid hs
  clear hn hs
  obtain ⟨L, hL⟩ : ∃ L, l.length = L := ⟨_, rfl⟩
  rw [hL] at hl ⊢
  have HL := hid hL
  clear hL
  go_enter Try.func75, Try.ntmps75
  go_wp2
  go_loopw [8] (fun i wr => ∃ k : Nat, k ≤ L ∧ i = .int .i64 k ∧ Hid (divided p (l.take k) = false) ∧ wr = w) (fun i _ => L - (intOf i).toNat)
  case atStart => exact ⟨0, by omega, rfl, by simp [Hid, divided], rfl⟩
  case round =>
    obtain ⟨k, hk, rfl, HD, hw⟩ := hrel
    subst hw
    by_cases hlt : k < L
    · have hlt' : k < l.length := by rw [HL.out]; exact hlt
      obtain ⟨r, rfl, hcs⟩ := HS.out (by intro e; subst e; simp at hlt')
      have c1 := hcs k hlt'
      rw [Nat.zero_add] at c1
      clear hcs
      have hq := HN.out (l[k]) (List.getElem_mem hlt')
      have hg : l.getD k 0 = l[k] := by simp [List.getElem?_eq_getElem hlt']
      rw [← hg] at hq
      have HT : Hid (divided p (l.take (k + 1)) = (divided p (l.take k) || (p % l.getD k 0 == 0))) := by
        rw [Hid, List.take_succ_eq_append_getElem hlt', ← hg]
        simp [divided]
      have HA : Hid (p % l.getD k 0 = 0 → divided p l = true) := by
        intro h
        rw [divided, List.any_eq_true]
        exact ⟨_, List.getElem_mem hlt', by rw [← hg, h]; rfl⟩
      clear hg
      generalize l.getD k 0 = q at *
      have HC := hid (divides_any q p g wr hq.1 hq.2 hp hc)
      by_cases hd : p % q = 0
      · have hb : (p % q == 0) = true := by simpa using hd
        rw [hb] at HC
        go_wp2_with fail
        refine HC.out.mono ?_
        rintro e w1 ⟨rfl, hw⟩
        subst hw
        go_wp2_with fail
        go_ret
        exact ⟨⟨_, rfl, by rw [IdxOk, if_pos (HA.out hd)]; omega⟩, rfl⟩
      · have hb : (p % q == 0) = false := by simpa using hd
        rw [hb] at HC
        go_wp2_with fail
        refine HC.out.mono ?_
        rintro e w1 ⟨rfl, hw⟩
        subst hw
        go_wp2_with fail
        go_roundw
        case rel => exact ⟨k + 1, by omega, by go_num, by rw [Hid, HT.out, HD.out, hb]; rfl, by first | rfl | trivial⟩
        case measure => simp [intOf]; omega
    · go_wp2_with fail
      go_ret
      have e : l.take k = l := List.take_of_length_le (by rw [HL.out]; omega)
      have hd := HD.out
      rw [e] at hd
      exact ⟨⟨_, rfl, by rw [IdxOk, hd]; simp⟩, rfl⟩

set_option maxHeartbeats 1000000 in
set_option maxRecDepth 100000 in
theorem contains_any (l : List Nat) (a : Option Addr) (c p g : Nat) (w : World) (hl : l.length ≤ 64) (hn : ∀ q ∈ l, 0 < q ∧ q < 312) (hp : p < 400) (hc : w.cell? ⟨g, 0, none⟩ = some (.int .u64 p)) (hs : l ≠ [] → ∃ r, a = some ⟨r, 0, none⟩ ∧ NumsAt w r 0 l) :
    Calls Try.prog 66 #[.slice a l.length c, .func (.func 67) #[] #[.pointer (some ⟨g, 0, none⟩)]] w fun e w' => e = .returned (.bool (divided p l)) ∧ w' = w := by
  have HC := hid (index_any l a c p g w hl hn hp hc hs)
  clear hn hs
  obtain ⟨L, hL⟩ : ∃ L, l.length = L := ⟨_, rfl⟩
  rw [hL] at HC hl ⊢
  clear hL
  go_enter Try.func66, Try.ntmps66
  go_wp2_with fail
  refine HC.out.mono ?_
  rintro e w1 ⟨⟨z, rfl, hz⟩, hw⟩
  subst hw
  by_cases hd : divided p l = true
  · rw [IdxOk, if_pos hd] at hz
    have hz' : z ≥ 0 := hz
    have HD := hid hd
    clear hd
    go_wp2_with fail
    go_ret
    exact ⟨by rw [HD.out]; rfl, rfl⟩
  · rw [IdxOk, if_neg hd] at hz
    subst hz
    have HD : Hid (divided p l = false) := by rw [Hid]; simpa using hd
    clear hd
    go_wp2_with fail
    go_ret
    exact ⟨by rw [HD.out]; rfl, rfl⟩

theorem Try.info96 : (Try.prog.info? 96).map (fun i => (i.zero, i.size, i.bytes)) = some (some (.int .u64 0), 1, 8) := by kernel_rfl

/-- v is a row of numbers of the call's own, from block base on. -/
def OwnN (w : World) (base : Nat) (v : Value) (l : List Nat) : Prop := w.ownsRow base 96 1 v l.length (u64s l)

/-- Where it lies. -/
theorem OwnN.at {w : World} {base : Nat} {v : Value} {l : List Nat} (h : OwnN w base v l) : ∃ a c, v = .slice a l.length c ∧ (l ≠ [] → ∃ r, a = some ⟨r, 0, none⟩ ∧ base ≤ r ∧ r < w.heap.size ∧ NumsAt w r 0 l) ∧ (∀ r, v.ownBlock = some r → base ≤ r ∧ r < w.heap.size) ∧ c ≤ maxLen ∧ l.length ≤ c := by
  have hlt := h.lt
  rcases h.2 with ⟨rfl, h0⟩ | ⟨g, cap, cur, rfl, hg, hh, hn, hc, hs, ht⟩
  · have : l = [] := List.length_eq_zero_iff.1 h0
    subst this
    exact ⟨none, 0, rfl, fun h => absurd rfl h, by simp [Value.ownBlock], Nat.zero_le _, Nat.le_refl _⟩
  · refine ⟨_, cap, rfl, fun _ => ⟨g, rfl, hg, (hlt g rfl).2, fun i hi => ?_⟩, fun r hr => hlt r hr, hc, hn⟩
    have h1 : w.ownsRow base 96 1 (.slice (some ⟨g, 0, none⟩) l.length cap) l.length (u64s l) := h
    rw [Nat.zero_add, h1.cellAt i (by omega)]
    exact u64s_at l i hi

/-- The number that a pointer's cell holds. -/
def ptrNat (w : World) : Value → Nat
  | .pointer (some a) => match w.cell? a with
    | some (.int _ n) => n.toNat
    | _ => 0
  | _ => 0

end Go.Proofs.Ytbmdnjmdehmahaa
