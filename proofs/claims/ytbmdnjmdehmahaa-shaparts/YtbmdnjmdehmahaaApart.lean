/-
  ShaApart, walked.
-/
import Derived.Test.YtbmdnjmdehmahaaEq
namespace Go.Proofs.Ytbmdnjmdehmahaa
open Go.RowKit

/-- Two streams of one engine, in blocks that are all new. -/
def Two (w wk : World) (H g1 g2 N : Nat) (p1 p2 : List Nat) : Prop :=
  Below w.heap.size w wk ∧ (∃ f n, (f = 0 ∨ f = 1) ∧ Eng wk H f n ∧ 0 ≤ n ∧ n ≤ (N : Int)) ∧ StrOf wk g1 H p1 ∧ StrOf wk g2 H p2 ∧ w.heap.size ≤ H ∧ w.heap.size ≤ g1 ∧ w.heap.size ≤ g2 ∧ H ≠ g1 ∧ H ≠ g2 ∧ g1 ≠ g2

theorem Two.below {w wk wx : World} {H g1 g2 N : Nat} {p1 p2 : List Nat} (h : Two w wk H g1 g2 N p1 p2) (k : Below wk.heap.size wk wx) : Two w wx H g1 g2 N p1 p2 := by
  obtain ⟨h1, ⟨f, n, hf, he, hn⟩, h3, h4, h5⟩ := h
  exact ⟨h1.trans (k.mono h1.size), ⟨f, n, hf, he.below k, hn⟩, h3.kept (l := []) (Kp.below k) (by simp), h4.kept (l := []) (Kp.below k) (by simp), h5⟩
/-- Another block turns. -/
theorem Two.kept {w wk wx : World} {H g1 g2 N r : Nat} {p1 p2 : List Nat} (h : Two w wk H g1 g2 N p1 p2) (k : Kp [r] wk wx) (h1 : r ≠ H) (h2 : r ≠ g1) (h3 : r ≠ g2) (h4 : w.heap.size ≤ r) : Two w wx H g1 g2 N p1 p2 := by
  obtain ⟨k1, ⟨f, n, hf, he, hn⟩, k3, k4, k5⟩ := h
  refine ⟨?_, ⟨f, n, hf, he.kept k (by simp; omega), hn⟩, k3.kept k (by simp; omega), k4.kept k (by simp; omega), k5⟩
  exact k1.trans ⟨k.os, k.tape, k.output, k.size, fun i hi => k.block i (Nat.lt_of_lt_of_le hi k1.size) (by simp; omega)⟩
theorem below_kp {w wk wx : World} {l : List Nat} (h : Below w.heap.size w wk) (k : Kp l wk wx) (hl : ∀ x ∈ l, w.heap.size ≤ x) : Below w.heap.size w wx :=
  h.trans ⟨k.os, k.tape, k.output, k.size, fun i hi => k.block i (Nat.lt_of_lt_of_le hi h.size) (fun hm => by have := hl i hm; omega)⟩
/-- What came in is there still, in blocks that are not new. -/
theorem BySl.old {w wk : World} {v : Value} {bs l : List Nat} (h : BySl [] w v bs) (k : Below w.heap.size w wk) (hl : ∀ x ∈ l, w.heap.size ≤ x) : BySl l wk v bs :=
  (h.mono (m := l) (fun x hx => .inr (hl x hx))).kept (m := []) (Kp.below k) (by simp)

theorem write_one {w wk : World} {H g1 g2 N : Nat} {p1 p2 : List Nat} (h : Two w wk H g1 g2 N p1 p2) (v : Value) (bs : List Nat) (hv : BySl [H, g1] wk v bs) (hb : bs.length ≤ 1000) (hp : p1.length ≤ 1000) (hN : N ≤ 1000000) :
    Calls Try.prog 13 #[.pointer (some ⟨g1, 0, none⟩), v] wk fun e w' => e = .returned (.int .i64 (bs.length : Nat)) ∧ Two w w' H g1 g2 (N + 100) (p1 ++ bs) p2 ∧ Kp [H, g1] wk w' := by
  obtain ⟨k1, ⟨f, n, hf, he, hn0, hn1⟩, k3, k4, k5, k6, k7, k8, k9, k10⟩ := h
  refine (write_any g1 H f n v p1 bs wk hf he k3 (fun e => k8 e.symm) hv (by omega) hn0 (by omega)).mono ?_
  rintro e w' ⟨rfl, hk, hs, f', hf', he'⟩
  refine ⟨rfl, ⟨below_kp k1 hk (by simp; omega), ⟨f', _, hf', he', by omega, ?_⟩, hs, k4.kept hk (by simp; omega), k5, k6, k7, k8, k9, k10⟩, hk⟩
  have : (p1 ++ bs).length / 64 - p1.length / 64 ≤ 32 := by rw [List.length_append]; omega
  omega
theorem write_two {w wk : World} {H g1 g2 N : Nat} {p1 p2 : List Nat} (h : Two w wk H g1 g2 N p1 p2) (v : Value) (bs : List Nat) (hv : BySl [H, g2] wk v bs) (hb : bs.length ≤ 1000) (hp : p2.length ≤ 1000) (hN : N ≤ 1000000) :
    Calls Try.prog 13 #[.pointer (some ⟨g2, 0, none⟩), v] wk fun e w' => e = .returned (.int .i64 (bs.length : Nat)) ∧ Two w w' H g1 g2 (N + 100) p1 (p2 ++ bs) ∧ Kp [H, g2] wk w' := by
  obtain ⟨k1, ⟨f, n, hf, he, hn0, hn1⟩, k3, k4, k5, k6, k7, k8, k9, k10⟩ := h
  refine (write_any g2 H f n v p2 bs wk hf he k4 (fun e => k9 e.symm) hv (by omega) hn0 (by omega)).mono ?_
  rintro e w' ⟨rfl, hk, hs, f', hf', he'⟩
  refine ⟨rfl, ⟨below_kp k1 hk (by simp; omega), ⟨f', _, hf', he', by omega, ?_⟩, k3.kept hk (by simp; omega), hs, k5, k6, k7, k8, k9, k10⟩, hk⟩
  have : (p2 ++ bs).length / 64 - p2.length / 64 ≤ 32 := by rw [List.length_append]; omega
  omega
theorem ssum_one {w wk : World} {H g1 g2 N : Nat} {p1 p2 : List Nat} (h : Two w wk H g1 g2 N p1 p2) (hp : p1.length ≤ 2000) (hN : N ≤ 1000000) :
    Calls Try.prog 15 #[.pointer (some ⟨g1, 0, none⟩)] wk fun e w' => e = .returned (.agg (u8s (sha p1)).toArray) ∧ Two w w' H g1 g2 (N + 100) p1 p2 ∧ Kp [H] wk w' := by
  obtain ⟨k1, ⟨f, n, hf, he, hn0, hn1⟩, k3, k4, k5, k6, k7, k8, k9, k10⟩ := h
  refine (ssum_any g1 H f n p1 wk hf he k3 (by omega) hn0 (by omega)).mono ?_
  rintro e w' ⟨rfl, hk, f', hf', he'⟩
  refine ⟨rfl, ⟨below_kp k1 hk (by simp; omega), ⟨f', _, hf', he', by omega, ?_⟩, k3.kept hk (by simp; omega), k4.kept hk (by simp; omega), k5, k6, k7, k8, k9, k10⟩, hk⟩
  have : nblk p1.length - p1.length / 64 ≤ 2 := by unfold nblk; omega
  omega
theorem ssum_two {w wk : World} {H g1 g2 N : Nat} {p1 p2 : List Nat} (h : Two w wk H g1 g2 N p1 p2) (hp : p2.length ≤ 2000) (hN : N ≤ 1000000) :
    Calls Try.prog 15 #[.pointer (some ⟨g2, 0, none⟩)] wk fun e w' => e = .returned (.agg (u8s (sha p2)).toArray) ∧ Two w w' H g1 g2 (N + 100) p1 p2 ∧ Kp [H] wk w' := by
  obtain ⟨k1, ⟨f, n, hf, he, hn0, hn1⟩, k3, k4, k5, k6, k7, k8, k9, k10⟩ := h
  refine (ssum_any g2 H f n p2 wk hf he k4 (by omega) hn0 (by omega)).mono ?_
  rintro e w' ⟨rfl, hk, f', hf', he'⟩
  refine ⟨rfl, ⟨below_kp k1 hk (by simp; omega), ⟨f', _, hf', he', by omega, ?_⟩, k3.kept hk (by simp; omega), k4.kept hk (by simp; omega), k5, k6, k7, k8, k9, k10⟩, hk⟩
  have : nblk p2.length - p2.length / 64 ≤ 2 := by unfold nblk; omega
  omega
theorem sum_two {w wk : World} {H g1 g2 N : Nat} {p1 p2 : List Nat} (h : Two w wk H g1 g2 N p1 p2) (v : Value) (bs : List Nat) (hv : BySl [H] wk v bs) (hb : bs.length ≤ 2000) (hN : N ≤ 1000000) :
    Calls Try.prog 11 #[.pointer (some ⟨H, 0, none⟩), v] wk fun e w' => e = .returned (.agg (u8s (sha bs)).toArray) ∧ Two w w' H g1 g2 (N + 100) p1 p2 ∧ Kp [H] wk w' := by
  obtain ⟨k1, ⟨f, n, hf, he, hn0, hn1⟩, k3, k4, k5, k6, k7, k8, k9, k10⟩ := h
  refine (sum_any H f n v bs wk hf he hv hn0 (by omega)).mono ?_
  rintro e w' ⟨rfl, hk, f', hf', he'⟩
  refine ⟨rfl, ⟨below_kp k1 hk (by simp; omega), ⟨f', _, hf', he', by omega, ?_⟩, k3.kept hk (by simp; omega), k4.kept hk (by simp; omega), k5, k6, k7, k8, k9, k10⟩, hk⟩
  have : nblk bs.length ≤ 40 := by unfold nblk; omega
  omega

theorem own_empty (w : World) : OwnB (w.alloc (.cells #[] 5)) w.heap.size (.slice (some ⟨w.heap.size, 0, none⟩) 0 0) [] := World.ownsRow_made w #[] 0 (Nat.le_refl _) (Nat.zero_le _) rfl
end Go.Proofs.Ytbmdnjmdehmahaa
