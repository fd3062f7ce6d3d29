/-
  Hashes held against one another; what nil ones say.
-/
import Derived.Test.YtbmdnjmdehmahaaAlive
import Derived.Stop.BytesEq
namespace Go.Proofs.Ytbmdnjmdehmahaa
open Go.RowKit

theorem cells_u8s (l : List Nat) (h : ∀ x ∈ l, x < 256) : (l.map Nat.toUInt8).map Extern.Stop.cell = u8s l := by
  unfold u8s
  rw [List.map_map]
  apply List.map_congr_left
  intro x hx
  have := h x hx
  simp [Extern.Stop.cell]
  omega
theorem map_inj : ∀ (xs ys : List Nat), (∀ x ∈ xs, x < 256) → (∀ x ∈ ys, x < 256) → xs.map Nat.toUInt8 = ys.map Nat.toUInt8 → xs = ys
  | [], [], _, _, _ => rfl
  | [], _ :: _, _, _, h => by simp at h
  | _ :: _, [], _, _, h => by simp at h
  | x :: xs, y :: ys, h1, h2, h => by
    simp only [List.map_cons, List.cons.injEq] at h
    have hx := h1 x (by simp)
    have hy := h2 y (by simp)
    have e := congrArg UInt8.toNat h.1
    simp at e
    have e2 : x = y := by omega
    rw [e2, map_inj xs ys (fun z hz => h1 z (by simp [hz])) (fun z hz => h2 z (by simp [hz])) h.2]

/-- Two hashes. -/
theorem eq30 (xs ys : List Nat) (hx : xs.length = 32) (hy : ys.length = 32) (bx : ∀ x ∈ xs, x < 256) (bY : ∀ x ∈ ys, x < 256) (w : World) :
    (Op.equalIn 10000 30 (.agg (u8s xs).toArray) (.agg (u8s ys).toArray)).run Try.prog w = .ok (decide (xs = ys)) w := by
  have h := run_equalIn_bytes (P := Try.prog) w 9998 30 5 32 Try.underlying30 Try.underlying5 Try.sizeOf5 (xs.map Nat.toUInt8) (ys.map Nat.toUInt8) (by simpa using hx) (by simpa using hy)
  rw [cells_u8s xs bx, cells_u8s ys bY] at h
  have e : (xs.map Nat.toUInt8 == ys.map Nat.toUInt8) = decide (xs = ys) := by
    rw [Bool.eq_iff_iff]
    simp only [beq_iff_eq, decide_eq_true_eq]
    exact ⟨map_inj xs ys bx bY, fun e => by rw [e]⟩
  rw [e] at h
  exact h
theorem eq30_same (xs : List Nat) (hx : xs.length = 32) (bx : ∀ x ∈ xs, x < 256) (w : World) :
    (Op.equalIn 10000 30 (.agg (u8s xs).toArray) (.agg (u8s xs).toArray)).run Try.prog w = .ok true w := by
  rw [eq30 xs xs hx hx bx bx w, decide_eq_true rfl]
theorem sha_length (b : List Nat) : (sha b).length = 32 := by rw [sha_hash, hashOf_length]
theorem sha_lt (b : List Nat) : ∀ x ∈ sha b, x < 256 := by rw [sha_hash]; exact hashOf_lt _

set_option maxRecDepth 100000 in
theorem many_nil (a : Option Addr) (l c : Nat) (w : World) :
    Calls Try.prog 9 #[.pointer none, .slice a l c] w fun e w' => e = .returned (.slice none 0 0) ∧ w' = w := by
  go_enter Try.func9, Try.ntmps9
  go_wp2_with fail
  go_ret
  exact ⟨rfl, rfl⟩
set_option maxRecDepth 100000 in
theorem blocks_nil (w : World) :
    Calls Try.prog 17 #[.pointer none] w fun e w' => e = .returned (.int .i64 0) ∧ w' = w := by
  go_enter Try.func17, Try.ntmps17
  go_wp2_with fail
  go_ret
  exact ⟨rfl, rfl⟩
end Go.Proofs.Ytbmdnjmdehmahaa
