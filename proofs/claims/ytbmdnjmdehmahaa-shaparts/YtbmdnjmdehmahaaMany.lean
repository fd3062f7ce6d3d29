/-
  Many, walked.
-/
import Derived.Test.YtbmdnjmdehmahaaApart
namespace Go.Proofs.Ytbmdnjmdehmahaa
open Go.RowKit

theorem Try.info30' : (Try.prog.info? 30).map (fun i => (i.zero, i.size, i.bytes)) = some (some (.agg (u8s (List.replicate 32 0)).toArray), 32, 32) := by kernel_rfl

/-- Rows of bytes that lie in a row. -/
def RowsB (w : World) (a : Option Addr) (k : Nat) (A : Nat → Option Addr) (L C : Nat → Nat) (B : Nat → List Nat) : Prop :=
  ∀ r, r < k → ∃ b o, a = some ⟨b, o, none⟩ ∧ b < w.heap.size ∧ w.cell? ⟨b, o + r, none⟩ = some (.slice (A r) (L r) (C r)) ∧ BySl [] w (.slice (A r) (L r) (C r)) (B r) ∧ (B r).length = L r

theorem Kp.fresh {l : List Nat} {w0 w w' : World} (hb : Below w0.heap.size w0 w) (k : Kp l w w') (hl : ∀ x ∈ l, w0.heap.size ≤ x) : Below w0.heap.size w0 w' := below_kp hb k hl

/-- What Many has made so far. -/
def Done (w wr : World) (b g k i : Nat) (n : Int) (B : Nat → List Nat) : Prop :=
  (∀ j, j < i → wr.rangeAt g (j * 32) (u8s (sha (B j)))) ∧ wr.there g 0 (32 * k) ∧ Kp [b] w wr ∧ ∃ f n', (f = 0 ∨ f = 1) ∧ Eng wr b f n' ∧ 0 ≤ n' ∧ n' ≤ n + (i : Int) * 4398046511104

set_option maxHeartbeats 1000000 in
set_option maxRecDepth 100000 in
theorem many_any (w0 w : World) (b f : Nat) (n : Int) (a : Option Addr) (cap k : Nat) (A : Nat → Option Addr) (L C : Nat → Nat) (B : Nat → List Nat) (hk : k ≤ 20) (hf : f = 0 ∨ f = 1) (he : Eng w b f n) (hn0 : 0 ≤ n) (hn1 : n ≤ 1000)
    (hw : Below w0.heap.size w0 w) (hb : w0.heap.size ≤ b) (hr : RowsB w0 a k A L C B) :
    Calls Try.prog 9 #[.pointer (some ⟨b, 0, none⟩), .slice a k cap] w fun e w' => e = .returned (.slice (some ⟨w.heap.size, 0, none⟩) k k) ∧ w.heap.size < w'.heap.size ∧ Done w w' b w.heap.size k k n B := by
  have HE := hid he
  have HW := hid hw
  have HR := hid hr
  have hbw : b < w.heap.size := he.1
  clear he hw hr
  obtain ⟨M, hM⟩ : ∃ M, madeCells (u8s (List.replicate 32 0)).toArray (k * 32) = M := ⟨_, rfl⟩
  have hmk : ∀ w, (Instr.makeSlice 26 (.int .i64 (k : Int)) (.int .i64 (k : Int))).run Try.prog w = .ok (.slice (some ⟨w.heap.size, 0, none⟩) k k) (w.alloc (.cells M 30)) := by
    intro w
    obtain ⟨i0, hi, hz0, hz1, hz2⟩ := info_parts Try.info30'
    have h := run_make (P := Try.prog) w 26 30 i0 _ Try.underlying26 hi hz0 .i64 .i64 (k : Int) (k : Int) (by omega) (by omega) (by rw [hz2]; omega) (by omega)
    rw [h, hz1, ← hM]
    rfl
  have HM : Hid (M.size = k * 32) := by rw [Hid, ← hM]; exact size_madeCells _ _
  clear hM
  go_enter Try.func9, Try.ntmps9
  go_wp2_with fail
  clear hmk
  obtain ⟨W1, hW1⟩ : ∃ W1, w.alloc (.cells M 30) = W1 := ⟨_, rfl⟩
  obtain ⟨g, hg⟩ : ∃ g, w.heap.size = g := ⟨_, rfl⟩
  have HD : Hid (Done w W1 b g k 0 n B) := by
    refine ⟨fun j hj => by omega, ?_, ?_, f, n, hf, ?_, hn0, by omega⟩
    · rw [← hW1, ← hg]
      exact there_of_block (heap_alloc_new _ _) 0 (32 * k) (by rw [HM.out]; omega)
    · rw [← hW1]
      exact (Kp.refl _ _).alloc _
    · rw [← hW1]
      exact HE.out.below ((Below.refl _ _).alloc (Nat.le_refl _) _)
  have HS : Hid (g < W1.heap.size) := by rw [Hid, ← hW1, ← hg]; simp
  have HGW : Hid (w.heap.size = g) := hg
  have hbg : b < g := by omega
  rw [hW1, hg]
  clear hW1 hg HM HE hbw
  go_loopw [15] (fun s wr => ∃ i : Nat, s = .int .i64 i ∧ i ≤ k ∧ Hid (g < wr.heap.size ∧ Done w wr b g k i n B)) (fun s _ => k - (intOf s).toNat)
  case atStart => exact ⟨0, rfl, by omega, HS.out, HD.out⟩
  case round =>
    clear HD HS
    obtain ⟨i, rfl, hi, HI⟩ := hrel
    by_cases hlt : i < k
    · obtain ⟨hgs, h1, h2, h3, f', n', hf', he', hn0', hn1'⟩ := HI.out
      have hbel : Below w0.heap.size w0 wr := below_kp HW.out h3 (by simpa using hb)
      obtain ⟨bb, oo, rfl, hbb, hcell, hby, hBL⟩ := HR.out i hlt
      have c0 : wr.cell? ⟨bb, oo + i, none⟩ = some (.slice (A i) (L i) (C i)) := (hbel.cell (p := ⟨bb, oo + i, none⟩) hbb).trans hcell
      have HBY : Hid (BySl [b] wr (.slice (A i) (L i) (C i)) (B i)) := hby.old hbel (by simpa using hb)
      have HEE := hid he'
      have HD := hid (And.intro h1 (And.intro h2 h3))
      have hnb : Hid (nblk (B i).length ≤ 4398046511104) := by
        obtain ⟨_, _, _, _, _, _, h5, _⟩ := hby
        rw [Hid]
        unfold nblk
        omega
      have hl47 : Hid (L i ≤ 140737488355328) := by
        obtain ⟨_, _, _, _, _, _, h5, _⟩ := hby
        rw [Hid, ← hBL]
        exact h5
      clear h1 h2 h3 hcell hby he' hbel
      have hltI : (i : Int) < (k : Int) := by omega
      have h0I : (0 : Int) ≤ (i : Int) := by omega
      go_wp2_with fail
      refine (sum_any b f' n' _ (B i) wr hf' HEE.out HBY.out hn0' (by omega)).mono ?_
      rintro e w2 ⟨rfl, hk2, f2, hf2, he2⟩
      obtain ⟨S, hS⟩ : ∃ S, u8s (sha (B i)) = S := ⟨_, rfl⟩
      have HS : Hid (u8s (sha (B i)) = S) := hS
      rw [hS]
      clear hS
      have HSL : Hid (S.length = 32) := by rw [Hid, ← HS.out, u8s_length, sha_hash, hashOf_length]
      have HS1 : Hid (∀ v ∈ S, v.oneCell' = true) := by rw [Hid, ← HS.out]; exact u8s_one _
      have HI2 : Hid ((Try.prog.info? 30).map (·.size) = some S.toArray.size) := by rw [Hid, List.size_toArray, HSL.out]; exact Try.info30
      have HTT : Hid (w2.there g (i * 32) S.toArray.size) := by
        have e : S.toArray.size = 32 := by rw [List.size_toArray, HSL.out]
        rw [Hid, e]
        intro j hj
        have h := HD.out.2.1 (i * 32 + j) (by omega)
        rw [Nat.zero_add] at h
        exact ⟨by rw [hk2.cell (p := ⟨g, i * 32 + j, none⟩) hgs (by simp; omega)]; exact h.1, by rw [hk2.frozen (p := ⟨g, i * 32 + j, none⟩) hgs (by simp; omega)]; exact h.2⟩
      have H1c : Hid (S.toArray.all (·.oneCell') = true) := all_oneCell_toArray HS1.out
      have HK2 := hid hk2
      have HE2 := hid he2
      clear hk2 he2
      go_wp2_with (refine wpList_store_mid (by rfl) 30 _ _ (by rfl) g (i * 32) S.toArray (by rfl) (by rfl) ?ht HI2.out H1c.out ?_; (case ht => exact HTT.out))
      have HN : Hid (g < (w2.setCells g (i * 32) S).heap.size ∧ Done w (w2.setCells g (i * 32) S) b g k (i + 1) n B) := by
        have hkk : Kp [g] w2 (w2.setCells g (i * 32) S) := (Kp.refl _ _).setCells (.inl (by simp)) _ _
        have hss : w2.heap.size ≤ (w2.setCells g (i * 32) S).heap.size := hkk.size
        have hs2 := HK2.out.size
        have htt : w2.there g (i * 32) S.length := by have h := HTT.out; rwa [List.size_toArray] at h
        have hlen := HSL.out
        refine ⟨by omega, ?_, ?_, ?_, f2, n' + ((nblk (B i).length : Nat) : Int), hf2, ?_, by omega, ?_⟩
        · intro j hj
          by_cases e : j = i
          · subst e
            rw [HS.out]
            exact World.rangeAt_setCells_same _ _ _ _ htt
          · have hjl : (u8s (sha (B j))).length = 32 := by rw [u8s_length, sha_hash, hashOf_length]
            have hold : w2.rangeAt g (j * 32) (u8s (sha (B j))) := fun x v hv => by
              rw [HK2.out.cell (p := ⟨g, j * 32 + x, none⟩) hgs (by simp; omega)]
              exact HD.out.1 j (by omega) x v hv
            exact World.rangeAt_setCells_apart hold _ _ _ (.inr (.inl (by rw [hjl]; omega)))
        · refine World.there_setCells (fun j hj => ?_) _ _ _
          have h := HD.out.2.1 j hj
          exact ⟨by rw [HK2.out.cell (p := ⟨g, 0 + j, none⟩) hgs (by simp; omega)]; exact h.1, by rw [HK2.out.frozen (p := ⟨g, 0 + j, none⟩) hgs (by simp; omega)]; exact h.2⟩
        · exact (HD.out.2.2.trans HK2.out).setCells (.inr (by have := HGW.out; omega)) _ _
        · exact HE2.out.kept hkk (by simp; omega)
        · have := hnb.out
          omega
      go_wp2_with fail
      exact ⟨⟨i + 1, rfl, by omega, HN.out⟩, by simp [intOf]; omega⟩
    · have hik : i = k := by omega
      subst hik
      go_wp2_with fail
      go_ret
      rw [HGW.out]
      exact ⟨rfl, HI.out⟩
end Go.Proofs.Ytbmdnjmdehmahaa
