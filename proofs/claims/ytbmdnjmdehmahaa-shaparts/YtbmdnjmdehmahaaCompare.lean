/-
  How two hashes stand: Compare, walked.
-/
import Derived.Test.YtbmdnjmdehmahaaRLess
import Derived.Lib.BytesEntry
namespace Go.Proofs.Ytbmdnjmdehmahaa
open Go.RowKit

/-- How two stand. -/
def cmpL (a b : List Nat) : Int := if lessL b a then 1 else if lessL a b then -1 else 0
theorem lessL_irrefl : ∀ a, lessL a a = false
  | [] => rfl
  | x :: xs => by simp [lessL, lessL_irrefl xs]
theorem cmp_bytes : ∀ (a b : List Nat), a.length = b.length → (∀ x ∈ a, x < 256) → (∀ x ∈ b, x < 256) → Lib.compareBytes (a.map Nat.toUInt8) (b.map Nat.toUInt8) = cmpL a b
  | [], [], _, _, _ => rfl
  | [], _ :: _, h, _, _ => by simp at h
  | _ :: _, [], h, _, _ => by simp at h
  | x :: xs, y :: ys, h, hx, hy => by
    have h1 := hx x (by simp)
    have h2 := hy y (by simp)
    have ih := cmp_bytes xs ys (by simpa using h) (fun z hz => hx z (by simp [hz])) (fun z hz => hy z (by simp [hz]))
    have e : x.toUInt8 < y.toUInt8 ↔ x < y := by
      rw [UInt8.lt_iff_toNat_lt]
      simp
      omega
    have e' : y.toUInt8 < x.toUInt8 ↔ y < x := by
      rw [UInt8.lt_iff_toNat_lt]
      simp
      omega
    simp only [List.map_cons, Lib.compareBytes, e, e', ih, cmpL, lessL]
    by_cases hlt : x < y
    · have n1 : ¬ x = y := by omega
      have n2 : ¬ y = x := by omega
      have n3 : ¬ y < x := by omega
      simp [hlt, n1, n2, n3]
    · by_cases hgt : y < x
      · have n2 : ¬ y = x := by omega
        simp [hlt, hgt, n2]
      · have : x = y := by omega
        subst this
        simp

theorem run_bytesOf {P : Program} (w : World) (g c : Nat) (a : List Nat) (h : BytesAt w g 0 a) :
    (Extern.Bytes.bytesOf (.slice (some ⟨g, 0, none⟩) a.length c)).run P w = .ok ⟨(a.map Nat.toUInt8).toArray⟩ w := by
  have hl := Lib.run_loadBytesX (P := P) w (a.map fun x : Nat => (x : Int)) ⟨g, 0, none⟩ .empty (fun j x hj => by
    have hjl : j < a.length := by have := (List.getElem?_eq_some_iff.1 hj).1; simpa using this
    rw [Addr.add_mid, h j hjl]
    simp [List.getElem?_eq_getElem hjl] at hj
    simp [List.getElem?_eq_getElem hjl, hj])
  rw [List.length_map] at hl
  have he : (⟨ByteArray.empty.data ++ (Lib.bytesOf (a.map fun x : Nat => (x : Int))).toArray⟩ : ByteArray) = ⟨(a.map Nat.toUInt8).toArray⟩ := by
    apply ByteArray.ext
    show (#[] : Array UInt8) ++ (Lib.bytesOf (a.map fun x : Nat => (x : Int))).toArray = (a.map Nat.toUInt8).toArray
    simp [Lib.bytesOf]
  rw [he] at hl
  exact hl

theorem run_cmp {P : Program} (w : World) (g1 g2 k1 k2 : Nat) (a b : List Nat) (h1 : BytesAt w g1 0 a) (h2 : BytesAt w g2 0 b) (hl : a.length = b.length) (ha : ∀ x ∈ a, x < 256) (hb : ∀ x ∈ b, x < 256) :
    (Extern.BytealgCompare.compare #[.slice (some ⟨g1, 0, none⟩) a.length k1, .slice (some ⟨g2, 0, none⟩) b.length k2]).run P w = .ok (.int .i64 (cmpL a b)) w := by
  change Sem.run P (do pure (goInt (Extern.BytealgCompare.cmp (← Extern.Bytes.bytesOf (.slice (some ⟨g1, 0, none⟩) a.length k1)) (← Extern.Bytes.bytesOf (.slice (some ⟨g2, 0, none⟩) b.length k2))))) w = _
  simp only [Sem.run_bind, Sem.run_pure, run_bytesOf w g1 k1 a h1, run_bytesOf w g2 k2 b h2, Result.andThen]
  rw [Lib.cmp_eq, cmp_bytes a b hl ha hb]
  rfl

theorem bcompare_any (g1 g2 : Nat) (a b : List Nat) (w : World) (h1 : BytesAt w g1 0 a) (h2 : BytesAt w g2 0 b) (ha : a.length = 32) (hb : b.length = 32) (ha' : ∀ x ∈ a, x < 256) (hb' : ∀ x ∈ b, x < 256) :
    Calls Try.prog 39 #[.slice (some ⟨g1, 0, none⟩) 32 32, .slice (some ⟨g2, 0, none⟩) 32 32] w fun e w' => e = .returned (.int .i64 (cmpL a b)) ∧ w' = w := by
  have hr := run_cmp (P := Try.prog) w g1 g2 32 32 a b h1 h2 (by omega) ha' hb'
  rw [ha, hb] at hr
  have hc : (callFunc 49 #[.slice (some ⟨g1, 0, none⟩) 32 32, .slice (some ⟨g2, 0, none⟩) 32 32]).run Try.prog w = .ok (.value (.int .i64 (cmpL a b))) w := by
    rw [run_callFunc_extern Try.func49 (by kernel_rfl) (by kernel_rfl) (by kernel_rfl) (e := Extern.BytealgCompare.compare) (by kernel_rfl), hr]
    rfl
  clear hr h1 h2 ha hb ha' hb'
  go_enter Try.func39, Try.ntmps39
  go_wp2_with fail
  go_ret
  exact ⟨rfl, rfl⟩

set_option maxHeartbeats 1000000 in
set_option maxRecDepth 100000 in
theorem compare_any (a b : List Nat) (w : World) (ha : a.length = 32) (hb : b.length = 32) (ha' : ∀ x ∈ a, x < 256) (hb' : ∀ x ∈ b, x < 256) :
    Calls Try.prog 23 #[.agg (u8s a).toArray, .agg (u8s b).toArray] w fun e w' => e = .returned (.int .i64 (cmpL a b)) ∧ Below w.heap.size w w' := by
  have HC : Hid (∀ W, BytesAt W w.heap.size 0 a → BytesAt W (w.heap.size + 1) 0 b → Calls Try.prog 39 #[.slice (some ⟨w.heap.size, 0, none⟩) 32 32, .slice (some ⟨w.heap.size + 1, 0, none⟩) 32 32] W fun e w' => e = .returned (.int .i64 (cmpL a b)) ∧ w' = W) := fun W h1 h2 => bcompare_any w.heap.size (w.heap.size + 1) a b W h1 h2 ha hb ha' hb'
  obtain ⟨ca, hca⟩ : ∃ c, u8s a = c := ⟨_, rfl⟩
  obtain ⟨cb, hcb⟩ : ∃ c, u8s b = c := ⟨_, rfl⟩
  have HCA := hid hca
  have HCB := hid hcb
  rw [hca, hcb]
  clear hca hcb ha hb ha' hb'
  go_enter Try.func23, Try.ntmps23
  go_wp2_with fail
  obtain ⟨W1, hW1⟩ : ∃ W1, (w.alloc (.cells ca.toArray 30)).alloc (.cells cb.toArray 30) = W1 := ⟨_, rfl⟩
  have HW : Hid (BytesAt W1 w.heap.size 0 a ∧ BytesAt W1 (w.heap.size + 1) 0 b ∧ Below w.heap.size w W1) := by
    rw [Hid, ← hW1, ← HCA.out, ← HCB.out]
    exact ⟨BytesAt.of_block (heap_alloc2_old _ _ _), BytesAt.of_block (heap_alloc2_new _ _ _), ((Below.refl _ _).alloc (Nat.le_refl _) _).alloc (by simp) _⟩
  rw [hW1]
  clear hW1
  have HD : Hid (Calls Try.prog 39 #[.slice (some ⟨w.heap.size, 0, none⟩) 32 32, .slice (some ⟨w.heap.size + 1, 0, none⟩) 32 32] W1.drew fun e w' => e = .returned (.int .i64 (cmpL a b)) ∧ w' = W1.drew) := HC.out W1.drew HW.out.1 HW.out.2.1
  go_region_with (go_at_call 39; refine HD.out.mono ?_; rintro e w3 ⟨rfl, hw3⟩; subst hw3)
  go_wp2_with fail
  go_ret
  exact ⟨rfl, HW.out.2.2.drew⟩
end Go.Proofs.Ytbmdnjmdehmahaa
