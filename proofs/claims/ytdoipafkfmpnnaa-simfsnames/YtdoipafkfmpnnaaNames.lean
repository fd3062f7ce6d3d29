/-
  SimfsNames, walked.
-/
import Derived.Test.YtdoipafkfmpnnaaAlive
namespace Go.Proofs.Ytdoipafkfmpnnaa
open Go.RowKit Go.Maps

/-- The system of the state p at s, in blocks from B on. -/
def Live (B N : Nat) (w : World) (s : Nat) (p : PS) : Prop := ∃ P, Sys P N w s p ∧ ∀ x, P x → B ≤ x
theorem Live.done {B N M : Nat} {w0 w w' : World} {s : Nat} {p : PS} {P : Nat → Prop} (h : Done P M w w' s p) (hP : ∀ x, P x → B ≤ x) (hB : B ≤ w.heap.size) (k : Kp No w0 w) (hk : w0.heap.size ≤ B) (hM : M ≤ N) (hN : N ≤ 1000) : Live B N w' s p ∧ Kp No w0 w' := by
  obtain ⟨P', h1, h2, h3⟩ := h
  refine ⟨⟨P', h1.more hM hN, fun x hx => ?_⟩, k.trans h2 (fun x hx => .inr (Nat.le_trans hk (hP x hx)))⟩
  rcases h3 x hx with h | h
  · exact hP x h
  · omega
theorem Live.kept {B N : Nat} {w w' : World} {s : Nat} {p : PS} (h : Live B N w s p) (k : Kp No w w') : Live B N w' s p := by
  obtain ⟨P, h1, h2⟩ := h
  exact ⟨P, h1.kept k, h2⟩

section
variable {B N : Nat} {w W : World} {s : Nat} {p : PS} (h : Live B N W s p) (k : Kp No w W) (hB : w.heap.size = B) (hN : N + 1 ≤ 1000) (t : ByteArray) (ht : t.size ≤ 1000000)
include h k hB hN ht
theorem live_create : Calls Try.prog 10 #[.pointer (some ⟨s, 0, none⟩), .string t] W fun e w' => ∃ b, p.files b = none ∧ e = .returned (.int .i64 ((pCreate (nm t) b p).1 : Nat)) ∧ Live B (N + 1) w' s (pCreate (nm t) b p).2 ∧ Kp No w w' := by
  obtain ⟨P, h1, h2⟩ := h
  refine (create_any W s p t ht h1 hN).mono ?_
  rintro e w' ⟨b, hb, rfl, hD⟩
  exact ⟨b, hb, rfl, Live.done hD h2 (by have := k.size; omega) k (by omega) (Nat.le_refl _) hN⟩
theorem live_append : Calls Try.prog 14 #[.pointer (some ⟨s, 0, none⟩), .string t, .slice none 0 0] W fun e w' => e = .returned (.int .i64 ((pAppend (nm t) [] p).1 : Nat)) ∧ Live B (N + 1) w' s (pAppend (nm t) [] p).2 ∧ Kp No w w' := by
  obtain ⟨P, h1, h2⟩ := h
  refine (append_any (Q := No) W s p t _ [] ht h1 hN (ByP.nil _ _) (fun _ h => h.elim) (by decide)).mono ?_
  rintro e w' ⟨rfl, hD⟩
  exact ⟨rfl, Live.done hD h2 (by have := k.size; omega) k (by omega) (Nat.le_refl _) hN⟩
theorem live_rename (t' : ByteArray) (ht' : t'.size ≤ 1000000) : Calls Try.prog 11 #[.pointer (some ⟨s, 0, none⟩), .string t, .string t'] W fun e w' => e = .returned (.int .i64 ((pRename (nm t) (nm t') p).1 : Nat)) ∧ Live B (N + 1) w' s (pRename (nm t) (nm t') p).2 ∧ Kp No w w' := by
  obtain ⟨P, h1, h2⟩ := h
  refine (rename_any W s p t t' ht ht' h1 hN).mono ?_
  rintro e w' ⟨rfl, hD⟩
  exact ⟨rfl, Live.done hD h2 (by have := k.size; omega) k (by omega) (Nat.le_refl _) hN⟩
theorem live_remove : Calls Try.prog 15 #[.pointer (some ⟨s, 0, none⟩), .string t] W fun e w' => e = .returned (.int .i64 ((pRemove (nm t) p).1 : Nat)) ∧ Live B (N + 1) w' s (pRemove (nm t) p).2 ∧ Kp No w w' := by
  obtain ⟨P, h1, h2⟩ := h
  refine (remove_any W s p t ht h1 hN).mono ?_
  rintro e w' ⟨rfl, hD⟩
  exact ⟨rfl, Live.done hD h2 (by have := k.size; omega) k (by omega) (Nat.le_refl _) hN⟩
theorem live_fsync : Calls Try.prog 16 #[.pointer (some ⟨s, 0, none⟩), .string t] W fun e w' => e = .returned (.int .i64 ((pFsync (nm t) p).1 : Nat)) ∧ Live B (N + 1) w' s (pFsync (nm t) p).2 ∧ Kp No w w' := by
  obtain ⟨P, h1, h2⟩ := h
  refine (fsync_any W s p t ht h1 hN).mono ?_
  rintro e w' ⟨rfl, hD⟩
  exact ⟨rfl, Live.done hD h2 (by have := k.size; omega) k (by omega) (Nat.le_refl _) hN⟩
theorem live_flip (z : Int) (x : Nat) (hx : x < 256) : Calls Try.prog 17 #[.pointer (some ⟨s, 0, none⟩), .string t, .int .i64 z, .int .u8 (x : Int)] W fun e w' => e = .returned (.int .i64 ((pFlip (nm t) z x p).1 : Nat)) ∧ Live B (N + 1) w' s (pFlip (nm t) z x p).2 ∧ Kp No w w' := by
  obtain ⟨P, h1, h2⟩ := h
  refine (flip_any W s p t z x hx ht h1 hN).mono ?_
  rintro e w' ⟨rfl, hD⟩
  exact ⟨rfl, Live.done hD h2 (by have := k.size; omega) k (by omega) (Nat.le_refl _) hN⟩
end
section
variable {B N : Nat} {w W : World} {s : Nat} {p : PS} (h : Live B N W s p) (k : Kp No w W) (t : ByteArray) (ht : t.size ≤ 1000000)
include h k ht
theorem live_read : Calls Try.prog 12 #[.pointer (some ⟨s, 0, none⟩), .string t] W fun e w' => ∃ ad cap, e = .returned (.tuple #[.slice ad (pBytes (nm t) p).length cap, .int .i64 (finds p (nm t) : Nat)]) ∧ Live B N w' s p ∧ Kp No w w' := by
  obtain ⟨P, h1, h2⟩ := h
  refine (read_any W s p t ht h1).mono ?_
  rintro e w' ⟨ad, cap, rfl, _, _, hk⟩
  exact ⟨ad, cap, rfl, ⟨P, h1.kept hk, h2⟩, k.andNone hk⟩
theorem live_size : Calls Try.prog 13 #[.pointer (some ⟨s, 0, none⟩), .string t] W fun e w' => e = .returned (.tuple #[.int .i64 ((pBytes (nm t) p).length : Nat), .int .i64 (finds p (nm t) : Nat)]) ∧ Live B N w' s p ∧ Kp No w w' := by
  obtain ⟨P, h1, h2⟩ := h
  refine (size_any W s p t ht h1).mono ?_
  rintro e w' ⟨rfl, hk⟩
  exact ⟨rfl, ⟨P, h1.kept hk, h2⟩, k.andNone hk⟩
end

/-! ### What the states are -/
theorem new_wrong (n : Nm) (h : nameB n = false) : wrongs (newPS 100) [n] = 10 := by simp [wrongs, newPS, h]
theorem new_finds (n : Nm) (h : nameB n = false) : finds (newPS 100) n = 10 := by simp [finds, new_wrong n h]
theorem good1 (n : Nm) (b : Nat) (h : nameB n = true) : (pCreate n b (newPS 100)).1 = 0 ∧ dfind (pCreate n b (newPS 100)).2.seen n = some b ∧ (pCreate n b (newPS 100)).2.down = false := by
  have h1 : wrongs (newPS 100) [n] = 0 := by simp [wrongs, newPS, h]
  have h2 : dfind (newPS 100).seen n = none := rfl
  have h3 : dead (newPS 100) = false := rfl
  have e : pCreate n b (newPS 100) = (0, chgd ⟨0, n, [], b⟩ (setF b ⟨[], 0⟩ (tick (newPS 100)))) := by simp only [pCreate, h1, h2, stp, h3]; rfl
  rw [e]
  refine ⟨rfl, ?_, rfl⟩
  show dfind (pdo [] ⟨0, n, [], b⟩) n = some b
  simp [pdo, dput, ddel, dins, dfind]
theorem good2 (n : Nm) (b : Nat) (p : PS) (h : nameB n = true) (h1 : dfind p.seen n ≠ none) (h2 : p.down = false) : pCreate n b p = (6, p) := by
  have h3 : wrongs p [n] = 0 := by simp [wrongs, h2, h]
  have h4 : (dfind p.seen n).isSome = true := by cases hd : dfind p.seen n with
    | none => exact absurd hd h1
    | some _ => rfl
  simp [pCreate, h3, h4]
theorem good3 (n m : Nm) (p : PS) (h : nameB m = false) (h2 : p.down = false) : pRename n m p = (10, p) := by
  have h3 : wrongs p [n, m] = 10 := by simp [wrongs, h2, h]
  simp [pRename, h3]

set_option maxHeartbeats 4000000 in
set_option maxRecDepth 100000 in
theorem names_main (s t : ByteArray) (hs : s.size ≤ maxLen) (ht : t.size ≤ maxLen) (w : World) : Calls Try.prog 3 #[.string s, .string t] w fun e w' => e = .returned (.bool true) ∧ Kp No w w' := by
  have hsm : Hid (∀ n : Nat, n ≤ maxLen → (n : Int) ≤ 9223372036854775807) := fun n h => by unfold maxLen at h; omega
  have hsI := hsm.out _ hs
  have htI := hsm.out _ ht
  clear hs ht hsm
  by_cases h1 : 100 < s.size
  · have h1' : (100 : Int) < (s.size : Int) := by omega
    go_enter Try.func3, Try.ntmps3
    go_wp2_with (go_at_call 6; refine (alive_any _).mono ?_; rintro e w1 ⟨rfl, hk⟩; have HK := hid hk; clear hk)
    go_ret
    exact ⟨rfl, HK.out⟩
  · have h1' : ¬ (100 : Int) < (s.size : Int) := by omega
    by_cases h2 : 100 < t.size
    · have h2' : (100 : Int) < (t.size : Int) := by omega
      go_enter Try.func3, Try.ntmps3
      go_wp2_with (go_at_call 6; refine (alive_any _).mono ?_; rintro e w1 ⟨rfl, hk⟩; have HK := hid hk; clear hk)
      go_ret
      exact ⟨rfl, HK.out⟩
    · have h2' : ¬ (100 : Int) < (t.size : Int) := by omega
      have hs' : s.size ≤ 1000000 := by omega
      have ht' : t.size ≤ 1000000 := by omega
      have HRN : Hid (∀ W, Calls Try.prog 9 #[.string s] W fun e w' => e = .returned (.bool (nameB (nm s))) ∧ w' = W) := fun W => rName_any s hs' W
      have HRT : Hid (∀ W, Calls Try.prog 9 #[.string t] W fun e w' => e = .returned (.bool (nameB (nm t))) ∧ w' = W) := fun W => rName_any t ht' W
      have HPN : Hid (∀ W, Calls Try.prog 8 #[.string s] W fun e w' => e = .returned (.bool (nameB (nm s))) ∧ Kp No W w') := fun W => pNameS_any s hs' W
      have hbn : ∀ b : Bool, (b != b) = false := fun b => by cases b <;> rfl
      cases hn : nameB (nm s) with
      | true =>
        rw [hn] at HRN HPN
        have HN := hid hn
        clear hn
        go_enter Try.func3, Try.ntmps3
        go_wp2_with fail
        refine (new_yes 100 (by decide) w).mono ?_
        rintro e w1 ⟨rfl, hS, hk⟩
        have HL : Hid (Live w.heap.size 0 w1 w.heap.size (newPS 100)) := ⟨_, hS, fun x hx => by rw [hx]; exact Nat.le_refl _⟩
        have HK := hid hk
        clear hS hk
        go_wp2_with fail
        refine (HPN.out w1).mono ?_
        rintro e w2 ⟨rfl, hk⟩
        have HL2 := hid (HL.out.kept hk)
        have HK2 := hid (HK.out.andNone hk)
        clear hk HL HK
        go_wp2_with (go_at_call 9; refine (HRN.out _).mono ?_; rintro e w3 ⟨rfl, h3⟩; subst w3)
        refine (live_create HL2.out HK2.out rfl (by decide) s hs').mono ?_
        rintro e w4 ⟨b, _, rfl, hL4, hK4⟩
        obtain ⟨g1, g2, g3⟩ := good1 (nm s) b HN.out
        rw [g1]
        have HL4 := hid hL4
        have HK4 := hid hK4
        have G2 := hid g2
        have G3 := hid g3
        generalize (pCreate (nm s) b (newPS 100)).2 = p1 at *
        clear hL4 hK4 g1 g2 g3 HL2 HK2
        go_wp2_with fail
        refine (live_create HL4.out HK4.out rfl (by decide) s hs').mono ?_
        rintro e w5 ⟨b', _, rfl, hL5, hK5⟩
        rw [good2 (nm s) b' p1 HN.out (by rw [G2.out]; simp) G3.out] at hL5 ⊢
        have HL5 := hid hL5
        have HK5 := hid hK5
        clear hL5 hK5 HL4 HK4
        cases hm : nameB (nm t) with
        | true =>
          rw [hm] at HRT
          clear hm
          go_wp2_with (first | (go_at_call 9; refine (HRT.out _).mono ?_; rintro e w6 ⟨rfl, h6⟩; subst w6) | (go_at_call 6; refine (alive_any _).mono ?_; rintro e w7 ⟨rfl, hk⟩; have HK := hid hk; clear hk))
          go_ret
          exact ⟨rfl, HK5.out.andNone HK.out⟩
        | false =>
          rw [hm] at HRT
          have HMF := hid hm
          clear hm
          go_wp2_with (go_at_call 9; refine (HRT.out _).mono ?_; rintro e w6 ⟨rfl, h6⟩; subst w6)
          refine (live_rename HL5.out HK5.out rfl (by decide) s hs' t ht').mono ?_
          rintro e w8 ⟨rfl, _, hK8⟩
          rw [good3 (nm s) (nm t) p1 HMF.out G3.out]
          have HK8 := hid hK8
          clear hK8
          go_wp2_with (go_at_call 6; refine (alive_any _).mono ?_; rintro e w7 ⟨rfl, hk⟩; have HK := hid hk; clear hk)
          go_ret
          exact ⟨rfl, HK8.out.andNone HK.out⟩
      | false =>
        rw [hn] at HRN HPN
        have HN := hid hn
        have f1 : Hid (∀ b, pCreate (nm s) b (newPS 100) = (10, newPS 100)) := fun b => by simp [pCreate, new_wrong _ hn]
        have f2 : Hid (pAppend (nm s) [] (newPS 100) = (10, newPS 100)) := by simp [Hid, pAppend, new_finds _ hn]
        have f3 : Hid (pRename (nm s) (nm ⟨#[97]⟩) (newPS 100) = (10, newPS 100)) := by
          have : wrongs (newPS 100) [nm s, nm ⟨#[97]⟩] = 10 := by simp [wrongs, newPS, hn]
          simp [Hid, pRename, this]
        have f4 : Hid (pRemove (nm s) (newPS 100) = (10, newPS 100)) := by simp [Hid, pRemove, new_finds _ hn]
        have f5 : Hid (pFsync (nm s) (newPS 100) = (10, newPS 100)) := by simp [Hid, pFsync, new_finds _ hn]
        have f6 : Hid (pFlip (nm s) 0 1 (newPS 100) = (10, newPS 100)) := by simp [Hid, pFlip, new_finds _ hn]
        have f7 := hid (new_finds _ hn)
        clear hn HRT
        go_enter Try.func3, Try.ntmps3
        go_wp2_with fail
        refine (new_yes 100 (by decide) w).mono ?_
        rintro e w1 ⟨rfl, hS, hk⟩
        have HL : Hid (Live w.heap.size 0 w1 w.heap.size (newPS 100)) := ⟨_, hS, fun x hx => by rw [hx]; exact Nat.le_refl _⟩
        have HK := hid hk
        clear hS hk
        go_wp2_with fail
        refine (HPN.out w1).mono ?_
        rintro e w2 ⟨rfl, hk⟩
        have HL2 := hid (HL.out.kept hk)
        have HK2 := hid (HK.out.andNone hk)
        clear hk HL HK
        go_wp2_with (go_at_call 9; refine (HRN.out _).mono ?_; rintro e w3 ⟨rfl, h3⟩; subst w3)
        refine (live_read HL2.out HK2.out s hs').mono ?_
        rintro e w3 ⟨ad, cap, rfl, hL, hK⟩
        rw [f7.out]
        have HL3 := hid hL
        have HK3 := hid hK
        clear hL hK HL2 HK2
        generalize (pBytes (nm s) (newPS 100)).length = L0 at *
        go_wp2_with fail
        refine (live_size HL3.out HK3.out s hs').mono ?_
        rintro e w4 ⟨rfl, hL, hK⟩
        rw [f7.out]
        have HL4 := hid hL
        have HK4 := hid hK
        clear hL hK HL3 HK3
        generalize (pBytes (nm s) (newPS 100)).length = L1 at *
        go_wp2_with fail
        refine (live_create HL4.out HK4.out rfl (by decide) s hs').mono ?_
        rintro e w5 ⟨b, _, rfl, hL, hK⟩
        rw [f1.out] at hL ⊢
        have HL5 := hid hL
        have HK5 := hid hK
        clear hL hK HL4 HK4
        go_wp2_with fail
        refine (live_append HL5.out HK5.out rfl (by decide) s hs').mono ?_
        rintro e w6 ⟨rfl, hL, hK⟩
        rw [f2.out] at hL ⊢
        have HL6 := hid hL
        have HK6 := hid hK
        clear hL hK HL5 HK5
        go_wp2_with fail
        refine (live_rename HL6.out HK6.out rfl (by decide) s hs' ⟨#[97]⟩ (by decide)).mono ?_
        rintro e w7 ⟨rfl, hL, hK⟩
        rw [f3.out] at hL ⊢
        have HL7 := hid hL
        have HK7 := hid hK
        clear hL hK HL6 HK6
        go_wp2_with fail
        refine (live_remove HL7.out HK7.out rfl (by decide) s hs').mono ?_
        rintro e w8 ⟨rfl, hL, hK⟩
        rw [f4.out] at hL ⊢
        have HL8 := hid hL
        have HK8 := hid hK
        clear hL hK HL7 HK7
        go_wp2_with fail
        refine (live_fsync HL8.out HK8.out rfl (by decide) s hs').mono ?_
        rintro e w9 ⟨rfl, hL, hK⟩
        rw [f5.out] at hL ⊢
        have HL9 := hid hL
        have HK9 := hid hK
        clear hL hK HL8 HK8
        go_wp2_with fail
        refine (live_flip HL9.out HK9.out rfl (by decide) s hs' 0 1 (by decide)).mono ?_
        rintro e w10 ⟨rfl, hL, hK⟩
        rw [f6.out] at hL ⊢
        have HK10 := hid hK
        clear hL hK HL9 HK9
        go_wp2_with (go_at_call 6; refine (alive_any _).mono ?_; rintro e w11 ⟨rfl, hk⟩; have HK := hid hk; clear hk)
        go_ret
        exact ⟨rfl, HK10.out.andNone HK.out⟩

end Go.Proofs.Ytdoipafkfmpnnaa
