/-
  The chapter's example: alive, walked.
-/
import Derived.Test.YtbmdnjmdehmahaaSum
import Derived.Test.YtbmdnjmdehmahaaText
import Derived.Lib.SlBytesConst
namespace Go.Proofs.Ytbmdnjmdehmahaa
open Go.RowKit

theorem abc_text : ((hexOf (sha [97, 98, 99])).map Nat.toUInt8).toArray = #[98, 97, 55, 56, 49, 54, 98, 102, 56, 102, 48, 49, 99, 102, 101, 97, 52, 49, 52, 49, 52, 48, 100, 101, 53, 100, 97, 101, 50, 50, 50, 51, 98, 48, 48, 51, 54, 49, 97, 51, 57, 54, 49, 55, 55, 97, 57, 99, 98, 52, 49, 48, 102, 102, 54, 49, 102, 50, 48, 48, 49, 53, 97, 100] := by
  rw [sha_abc]
  rfl
theorem bySl_abc (l : List Nat) (w : World) (hl : ∀ x ∈ l, x < w.heap.size) :
    BySl l (w.alloc (.cells #[.int .u8 97, .int .u8 98, .int .u8 99] 5 (3, 4))) (.slice (some ⟨w.heap.size, 0, none⟩) 3 3) [97, 98, 99] := by
  refine ⟨_, 3, rfl, by simp, by decide, by simp, by simp, by decide, fun _ => ⟨w.heap.size, 0, rfl, fun h => by have := hl _ h; omega, by simp, fun i hi => ?_⟩⟩
  rw [Nat.zero_add, World.cell?_alloc_mark]
  have : i = 0 ∨ i = 1 ∨ i = 2 := by simp at hi; omega
  rcases this with rfl | rfl | rfl <;> rfl

set_option maxHeartbeats 1000000 in
set_option maxRecDepth 100000 in
theorem alive_any (w : World) :
    Calls Try.prog 7 #[] w fun e w' => e = .returned (.bool true) ∧ Below w.heap.size w w' := by
  have kc := fun (w : World) (C : Array Value) (n c : Nat) => Lib.run_convert_bytes_const (P := Try.prog) w 28 5 C n c Try.underlying28 Try.underlying5
  go_enter Try.func7, Try.ntmps7
  go_wp2_with fail
  refine (new_any _).mono ?_
  rintro e w1 ⟨rfl, hb, hs, ht⟩
  have HS := hid hs
  have HB := hid hb
  have HT := hid ht
  clear hs hb ht
  go_wp2_with fail
  have hk := (HB.out.alloc HB.out.size (Obj.cells #[Value.int IntKind.u8 97, Value.int IntKind.u8 98, Value.int IntKind.u8 99] 5 (3, 4)))
  refine (sum_any w.heap.size 0 0 _ [97, 98, 99] _ (.inl rfl) (HT.out.below ((Below.refl _ _).alloc (Nat.le_refl _) _)) (bySl_abc [w.heap.size] w1 (by have := HS.out; simp; omega)) (by omega) (by omega)).mono ?_
  rintro e w2 ⟨rfl, hk2, _⟩
  have HK2 : Hid (Below w.heap.size w w2) := ((Kp.below (l := [w.heap.size]) hk).trans hk2).toBelow (by simp)
  clear hk hk2
  obtain ⟨S, hS⟩ : ∃ S, sha [97, 98, 99] = S := ⟨_, rfl⟩
  have HSH := hid hS
  have hSl : S.length = 32 := by rw [← hS, sha_hash, hashOf_length]
  have hSw : ∀ x ∈ S, x < 256 := by rw [← hS, sha_hash]; exact hashOf_lt _
  rw [hS]
  have HTX := hid (fun w => text_any S w hSl hSw)
  clear hS hSl hSw
  obtain ⟨us, hus⟩ : ∃ us, u8s S = us := ⟨_, rfl⟩
  rw [hus] at HTX ⊢
  clear hus
  go_wp2_with fail
  refine (HTX.out w2).mono ?_
  rintro e w3 ⟨rfl, hb3⟩
  have HK3 := hid (HK2.out.trans (hb3.mono HK2.out.size))
  clear hb3
  rw [← HSH.out, abc_text]
  go_wp2_with fail
  go_ret
  exact ⟨rfl, HK3.out⟩
end Go.Proofs.Ytbmdnjmdehmahaa
