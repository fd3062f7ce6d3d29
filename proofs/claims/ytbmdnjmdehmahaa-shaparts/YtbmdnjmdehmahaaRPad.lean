/-
  The reference's padded, walked.
-/
import Derived.Test.YtbmdnjmdehmahaaApart
namespace Go.Proofs.Ytbmdnjmdehmahaa
open Go.RowKit

/-- How long a slice is. -/
def lenS : Value → Nat
  | .slice _ l _ => l
  | _ => 0
theorem OwnB.len {w : World} {base : Nat} {a : Option Addr} {l c : Nat} {xs : List Nat} (h : OwnB w base (.slice a l c) xs) : l = xs.length := by
  rcases h.2 with ⟨e, h0⟩ | ⟨g, cap, cur, e, _⟩
  · simp only [Value.slice.injEq] at e
    omega
  · simp only [Value.slice.injEq] at e
    exact e.2.1

set_option maxHeartbeats 1000000 in
set_option maxRecDepth 100000 in
theorem rpad_any (a : Option Addr) (cap : Nat) (bs : List Nat) (w : World) (hv : BySl [] w (.slice a bs.length cap) bs) (hl : bs.length ≤ 1000000) :
    Calls Try.prog 26 #[.slice a bs.length cap] w fun e w' => ∃ v', e = .returned v' ∧ OwnB w' w.heap.size v' (padded bs) ∧ Below w.heap.size w w' := by
  have HV := hid hv
  clear hv
  obtain ⟨L, hL⟩ : ∃ L, bs.length = L := ⟨_, rfl⟩
  have HL := hid hL
  rw [hL] at hl HV ⊢
  clear hL
  obtain ⟨Z, hZ⟩ : ∃ Z, (119 - L % 64) % 64 = Z := ⟨_, rfl⟩
  have hZ64 : Z < 64 := by omega
  have HZ := hid hZ
  clear hZ
  have HPD : Hid (padded bs = bs ++ [128] ++ List.replicate Z 0 ++ (List.range 8).map fun i => (L * 8) >>> (8 * (7 - i)) % 256) := by
    rw [Hid, padded, tailOf, HL.out, HZ.out]
    simp
  go_enter Try.func26, Try.ntmps26
  go_wp2_with (at_builtin; first | (refine app_bytes _ rfl _ _ rfl w.heap.size _ _ [] bs rfl rfl (own_empty w) ?hy ?hl ?hb ?_; (case hy => exact HV.out.old ((Below.refl _ _).alloc (Nat.le_refl _) _) (by simp)); (case hl => (have h := HL.out; simp; omega)); (case hb => simp); intro v1 w1 hown1 hbel1) | (refine app_bytes _ rfl _ _ rfl w.heap.size _ _ ([] ++ bs) [128] rfl rfl (hown1.alloc _) (bySl_one w1 128 (by decide)) ?hl ?hb ?_; (case hl => (have h := HL.out; simp; omega)); (case hb => (have h := hbel1.size; simp at h ⊢; omega)); intro v2 w2 hown2 hbel2))
  have HB2 : Hid (Below w.heap.size w w2) := ((((Below.refl _ _).alloc (Nat.le_refl _) _).trans hbel1).alloc (by have h := hbel1.size; simp at h; omega) _).trans hbel2
  have HO2 : Hid (OwnB w2 w.heap.size v2 (bs ++ [128] ++ List.replicate 0 0)) := by rw [Hid]; simpa using hown2
  obtain ⟨A2, l2, c2, rfl⟩ := hown2.form
  clear hown1 hbel1 hown2 hbel2
  have hl2 : l2 = L + 1 := by have h := HO2.out.len; have := HL.out; simp at h; omega
  subst hl2
  go_loopw [3] (fun s3 wr => ∃ (A : Option Addr) (k l c : Nat), s3 = .slice A l c ∧ k ≤ Z ∧ l ≤ L + 1 + Z ∧ Hid (l = L + 1 + k ∧ OwnB wr w.heap.size s3 (bs ++ [128] ++ List.replicate k 0) ∧ Below w.heap.size w wr)) (fun s _ => L + 1 + Z - lenS s)
  case atStart => exact ⟨A2, 0, L + 1, c2, rfl, by omega, by omega, rfl, HO2.out, HB2.out⟩
  case round =>
    obtain ⟨A, k, l, c, rfl, hk, hlZ, HI⟩ := hrel
    clear HO2 HB2
    by_cases hlt : k < Z
    · have hm : Hid ((l % 64) ≠ 56) := by have h1 := HI.out.1; have h2 := HZ.out; rw [Hid]; omega
      have hmI : ¬ (l : Int) % 64 = 56 := by have := hm.out; omega
      have hmB : ((l : Int) % 64 == 56) = false := by simpa using hmI
      have hmC : ((l : Int) % 64 != 56) = true := by simpa using hmI
      have hlI : (l : Int) ≤ 9223372036854775807 := by omega
      go_wp2_with (at_builtin; go_must (refine app_bytes _ (by rfl) _ _ (by rfl) w.heap.size _ _ (bs ++ [128] ++ List.replicate k 0) [0] (by rfl) (by rfl) (HI.out.2.1.alloc _) (bySl_one wr 0 (by decide)) ?hl ?hb ?_); (case hl => (have h := HL.out; simp; omega)); (case hb => (have h := HI.out.2.2.size; simp; omega)); intro v' w3 hown hbel)
      obtain ⟨A', l', c', rfl⟩ := hown.form
      have hl' : l' = l + 1 := by have h := hown.len; have := HL.out; have := HI.out.1; simp at h; omega
      subst hl'
      have hfin : Below w.heap.size w w3 := (HI.out.2.2.alloc HI.out.2.2.size _).trans hbel
      have ho : OwnB w3 w.heap.size (.slice A' (l + 1) c') (bs ++ [128] ++ List.replicate (k + 1) 0) := by
        rw [List.replicate_succ', ← List.append_assoc]
        exact hown
      have hl1 := HI.out.1
      go_roundw
      case rel => exact ⟨A', k + 1, l + 1, c', rfl, by omega, by omega, by omega, ho, hfin⟩
      case measure => simp [lenS]; omega
    · have hkZ : k = Z := by omega
      subst hkZ
      have hmI : (l : Int) % 64 = 56 := by have h1 := HI.out.1; have h2 := HZ.out; omega
      have hlI : (l : Int) ≤ 9223372036854775807 := by omega
      clear hlt hk
      go_wp2_with fail
      clear hmI
      generalize (l : Int) % 64 = zz
      have HO : Hid (OwnB wr w.heap.size (.slice A l c) (bs ++ [128] ++ List.replicate k 0 ++ (List.range 0).map fun i => (L * 8) >>> (8 * (7 - i)) % 256)) := by rw [Hid]; simpa using HI.out.2.1
      have HB := hid HI.out.2.2
      clear HI hlZ hlI
      as_aux_lemma =>
        go_loopw [3, 5] (fun s3 s5 wr => ∃ (j : Nat) (A : Option Addr) (l c : Nat), s3 = .slice A l c ∧ s5 = .int .i64 (7 - (j : Int)) ∧ j ≤ 8 ∧ Hid (OwnB wr w.heap.size s3 (bs ++ [128] ++ List.replicate k 0 ++ (List.range j).map fun i => (L * 8) >>> (8 * (7 - i)) % 256) ∧ Below w.heap.size w wr)) (fun _ s _ => (intOf s + 1).toNat)
        case atStart => exact ⟨0, A, l, c, rfl, rfl, by omega, HO.out, HB.out⟩
        case round =>
          clear HO HB
          obtain ⟨j, A, l, c, rfl, rfl, hj, HI⟩ := hrel
          by_cases hlt : j < 8
          · have hbs : Hid ((bs ++ [128] ++ List.replicate k 0 ++ (List.range j).map fun i => (L * 8) >>> (8 * (7 - i)) % 256) ++ [L * 8 / 2 ^ (8 * (7 - j)) % 256] = bs ++ [128] ++ List.replicate k 0 ++ (List.range (j + 1)).map fun i => (L * 8) >>> (8 * (7 - i)) % 256) := by
              rw [Hid, List.range_succ, List.map_append, ← len_byte]
              simp
            have hll : Hid ((bs ++ [128] ++ List.replicate k 0 ++ (List.range j).map fun i => (L * 8) >>> (8 * (7 - i)) % 256).length ≤ 2000000) := by rw [Hid]; have := HL.out; simp; omega
            obtain ⟨xs, hxs⟩ : ∃ xs, (bs ++ [128] ++ List.replicate k 0 ++ (List.range j).map fun i => (L * 8) >>> (8 * (7 - i)) % 256) = xs := ⟨_, rfl⟩
            rw [hxs] at HI hbs hll
            clear hxs
            obtain ⟨V, hV⟩ : ∃ V, L * 8 / 2 ^ (8 * (7 - j)) % 256 = V := ⟨_, rfl⟩
            have hVI : ((L : Int) * 8 / 2 ^ (8 * (7 - j))) % 256 = (V : Int) := by rw [← hV]; simp
            have hV256 : V < 256 := by rw [← hV]; exact Nat.mod_lt _ (by decide)
            rw [hV] at hbs
            clear hV
            have hltI : (j : Int) < 8 := by omega
            have h0I : (0 : Int) ≤ 7 - (j : Int) := by omega
            have h1I : (0 : Int) ≤ (j : Int) := by omega
            have hsub : ((7 : Int) - (j : Int)).toNat = 7 - j := by omega
            have hsh : ((8 : Int) * (7 - (j : Int))).toNat = 8 * (7 - j) := by omega
            go_wp2_with (at_builtin; go_must (refine app_bytes _ (by rfl) _ _ (by rfl) w.heap.size _ _ xs [V] (by rfl) (by rfl) (HI.out.1.alloc _) (bySl_one wr V hV256) ?hl ?hb ?_); (case hl => (have h := hll.out; simp; omega)); (case hb => (have h := HI.out.2.size; simp; omega)); intro v' w2 hown hbel)
            go_roundw
            case rel =>
              obtain ⟨A', l', c', hv⟩ := hown.form
              rw [hbs.out] at hown
              have hfin : Below w.heap.size w w2 := (HI.out.2.alloc HI.out.2.size _).trans hbel
              exact ⟨j + 1, A', l', c', hv, by congr 1; omega, by omega, hown, hfin⟩
            case measure => simp [intOf]; omega
          · have hj8 : j = 8 := by omega
            subst hj8
            go_wp2_with fail
            go_ret
            rw [HPD.out]
            exact ⟨_, rfl, HI.out.1, HI.out.2⟩
end Go.Proofs.Ytbmdnjmdehmahaa
