/-
  What tells alone: Read, Size, Down, Steps, List.
-/
import Derived.Test.YtmiipifhbliamaaGreatSimLook
namespace Go.Proofs.YtmiipifhbliamaaGreat.Sim
open Go.RowKit

theorem OwnB.kept {w w' : World} {v : Value} {xs : List Nat} (h : OwnB w v xs) (k : Kp No w w') : OwnB w' v xs := h.row.kept k
theorem pBytes_of {p : PS} {n : Nm} {b : Nat} (h : foundP p n = some b) : finds p n = 0 ∧ dfind p.seen n = some b ∧ pBytes n p = (fileAt p b).b := by
  unfold foundP at h
  split at h
  · rename_i h0
    refine ⟨h0, h, ?_⟩
    simp [pBytes, h0, blockOf, h]
  · cases h
theorem found_zero {N : Nat} {p : PS} {n : Nm} (_hi : PInv N p) (h : finds p n = 0) : ∃ b, foundP p n = some b := by
  unfold finds at h
  split at h
  · omega
  · split at h
    · rename_i h1 h2
      obtain ⟨b, hb⟩ := Option.isSome_iff_exists.1 h2
      refine ⟨b, ?_⟩
      unfold foundP finds
      rw [if_neg h1, if_pos h2, if_pos rfl, hb]
    · cases h

theorem read_nil (t : ByteArray) (w : World) : Calls Tryz.prog 13 #[.pointer none, .string t] w fun e w' => e = .returned (.tuple #[.slice none 0 0, .int .i64 18]) ∧ Kp No w w' := by
  go_enter Tryz.func13, Tryz.ntmps13
  go_wp2_with (go_at_call 48; refine (find_nil t _).mono ?_; rintro e w1 ⟨rfl, h1⟩; have H1 := hid h1; clear h1)
  go_ret2
  exact ⟨rfl, H1.out⟩
theorem size_nil (t : ByteArray) (w : World) : Calls Tryz.prog 28 #[.pointer none, .string t] w fun e w' => e = .returned (.tuple #[.int .i64 0, .int .i64 18]) ∧ Kp No w w' := by
  go_enter Tryz.func28, Tryz.ntmps28
  go_wp2_with (go_at_call 48; refine (find_nil t _).mono ?_; rintro e w1 ⟨rfl, h1⟩; have H1 := hid h1; clear h1)
  go_ret2
  exact ⟨rfl, H1.out⟩

set_option maxHeartbeats 1000000 in
theorem read_any {P : Nat → Prop} {N : Nat} (w : World) (s : Nat) (p : PS) (t : ByteArray) (ht : t.size ≤ 1000000) (h : Sys P N w s p) :
    Calls Tryz.prog 13 #[.pointer (some ⟨s, 0, none⟩), .string t] w fun e w' => ∃ ad cap, e = .returned (.tuple #[.slice ad (pBytes (nm t) p).length cap, .int .i64 (finds p (nm t) : Nat)]) ∧
      OwnB w' (.slice ad (pBytes (nm t) p).length cap) (pBytes (nm t) p) ∧ (∀ x, (Value.slice ad (pBytes (nm t) p).length cap).ownBlock = some x → w.heap.size ≤ x) ∧ Kp No w w' := by
  have HC := hid (find_any w s p t ht h)
  have hI := h.inv
  by_cases h0 : finds p (nm t) = 0
  · obtain ⟨b, hb⟩ := found_zero hI h0
    obtain ⟨_, hd, hy⟩ := pBytes_of hb
    have hf := hI.hasFound hd
    have hlen := hI.lfile b _ hf
    have hbig := hI.big
    obtain ⟨vs, vf, vc, u, hR⟩ := h
    obtain ⟨hPb, hF, hPu⟩ := hR.file b _ hf
    have hbl := hR.lt b hPb
    have hul : ∀ x, (u b).ownBlock = some x → x < w.heap.size := fun x hx => hR.lt x (hPu x hx)
    have HF := hid hF
    rw [hy, h0]
    rw [h0, hb] at HC
    have e0 : ptrV (some b) = .pointer (some ⟨b, 0, none⟩) := rfl
    rw [e0] at HC
    generalize (fileAt p b) = f at *
    clear hy hd hf hR hF e0
    obtain ⟨a, cap, hv, _⟩ := HF.out.own.shape
    generalize u b = v at *
    subst hv
    go_enter Tryz.func13, Tryz.ntmps13
    go_wp2_with (go_at_call 48; refine (HC.out).mono ?_; rintro e w1 ⟨rfl, h1⟩; have H1 := hid h1; have c0 : w1.cell? ⟨b, 0, none⟩ = some (.slice a f.b.length cap) := (h1.cell (p := ⟨b, 0, none⟩) hbl (fun h => h.elim)).trans (HF.out.blk.cell 0); clear h1)
    refine (clone_any (P := fun _ => True) _ f.b w1 ((HF.out.own.kept H1.out).byP (fun _ _ => trivial) (by omega) HF.out.byt) (by omega)).mono ?_
    rintro e w2 ⟨ad, cap2, rfl, ho, hn, hk⟩
    have HO := hid ho
    have HN := hid hn
    have HK := hid hk
    clear ho hn hk
    go_wp2
    go_ret2
    exact ⟨ad, cap2, rfl, HO.out, fun x hx => Nat.le_trans H1.out.size (HN.out x hx), H1.out.andNone HK.out⟩
  · have hy : pBytes (nm t) p = [] := by simp [pBytes, h0]
    have hn : foundP p (nm t) = none := by simp [foundP, h0]
    rw [hy]
    rw [hn] at HC
    have e0 : ptrV none = .pointer none := rfl
    rw [e0] at HC
    generalize finds p (nm t) = x at *
    have hne : ((x : Int) != 0) = true := by simp; omega
    clear hy hn h0 h hI e0
    go_enter Tryz.func13, Tryz.ntmps13
    go_wp2_with (go_at_call 48; refine (HC.out).mono ?_; rintro e w1 ⟨rfl, h1⟩; have H1 := hid h1; clear h1)
    go_ret2
    exact ⟨none, 0, rfl, OwnB.nil _, by simp [Value.ownBlock], H1.out⟩

set_option maxHeartbeats 1000000 in
theorem size_any {P : Nat → Prop} {N : Nat} (w : World) (s : Nat) (p : PS) (t : ByteArray) (ht : t.size ≤ 1000000) (h : Sys P N w s p) :
    Calls Tryz.prog 28 #[.pointer (some ⟨s, 0, none⟩), .string t] w fun e w' => e = .returned (.tuple #[.int .i64 ((pBytes (nm t) p).length : Nat), .int .i64 (finds p (nm t) : Nat)]) ∧ Kp No w w' := by
  have HC := hid (find_any w s p t ht h)
  have hI := h.inv
  by_cases h0 : finds p (nm t) = 0
  · obtain ⟨b, hb⟩ := found_zero hI h0
    obtain ⟨_, hd, hy⟩ := pBytes_of hb
    have hf := hI.hasFound hd
    have hlen := hI.lfile b _ hf
    have hbig := hI.big
    obtain ⟨vs, vf, vc, u, hR⟩ := h
    obtain ⟨hPb, hF, hPu⟩ := hR.file b _ hf
    have hbl := hR.lt b hPb
    have HF := hid hF
    rw [hy, h0]
    rw [h0, hb] at HC
    have e0 : ptrV (some b) = .pointer (some ⟨b, 0, none⟩) := rfl
    rw [e0] at HC
    generalize (fileAt p b) = f at *
    clear hy hd hf hR hF e0
    obtain ⟨a, cap, hv, _⟩ := HF.out.own.shape
    generalize u b = v at *
    subst hv
    go_enter Tryz.func28, Tryz.ntmps28
    go_wp2_with (go_at_call 48; refine (HC.out).mono ?_; rintro e w1 ⟨rfl, h1⟩; have H1 := hid h1; have c0 : w1.cell? ⟨b, 0, none⟩ = some (.slice a f.b.length cap) := (h1.cell (p := ⟨b, 0, none⟩) hbl (fun h => h.elim)).trans (HF.out.blk.cell 0); clear h1)
    go_ret2
    exact ⟨rfl, H1.out⟩
  · have hy : pBytes (nm t) p = [] := by simp [pBytes, h0]
    have hn : foundP p (nm t) = none := by simp [foundP, h0]
    rw [hy]
    rw [hn] at HC
    have e0 : ptrV none = .pointer none := rfl
    rw [e0] at HC
    generalize finds p (nm t) = x at *
    have hne : ((x : Int) != 0) = true := by simp; omega
    clear hy hn h0 h hI e0
    go_enter Tryz.func28, Tryz.ntmps28
    go_wp2_with (go_at_call 48; refine (HC.out).mono ?_; rintro e w1 ⟨rfl, h1⟩; have H1 := hid h1; clear h1)
    go_ret2
    exact ⟨rfl, H1.out⟩

/-! ### Down, Steps -/
theorem down_nil (w : World) : Calls Tryz.prog 45 #[.pointer none] w fun e w' => e = .returned (.bool false) ∧ w' = w := by
  go_enter Tryz.func45, Tryz.ntmps45
  go_wp2
  go_ret
  exact ⟨rfl, rfl⟩
theorem down_any {P : Nat → Prop} {N : Nat} (w : World) (s : Nat) (p : PS) (h : Sys P N w s p) : Calls Tryz.prog 45 #[.pointer (some ⟨s, 0, none⟩)] w fun e w' => e = .returned (.bool p.down) ∧ w' = w := by
  obtain ⟨vs, vf, vc, u, h⟩ := h
  have q4 : w.cell? ⟨s, 4, none⟩ = some (.bool p.down) := h.c 4
  clear h
  go_enter Tryz.func45, Tryz.ntmps45
  go_wp2
  go_ret
  exact ⟨rfl, rfl⟩
theorem load_any (a : Addr) (n : Int) (w : World) (hc : w.cell? a = some (.int .i64 n)) : Calls Tryz.prog 21 #[.pointer (some a)] w fun e w' => e = .returned (.int .i64 n) ∧ w' = w := by
  have hl := run_call_load (P := Tryz.prog) Tryz.func60 (by kernel_rfl) (by kernel_rfl) (by kernel_rfl) .i64 (by kernel_rfl) hc
  go_enter Tryz.func21, Tryz.ntmps21
  go_wp2
  go_ret
  exact ⟨rfl, rfl⟩
theorem steps_nil (w : World) : Calls Tryz.prog 46 #[.pointer none] w fun e w' => e = .returned (.int .i64 0) ∧ w' = w := by
  go_enter Tryz.func46, Tryz.ntmps46
  go_wp2
  go_ret
  exact ⟨rfl, rfl⟩
theorem steps_any {P : Nat → Prop} {N : Nat} (w : World) (s : Nat) (p : PS) (h : Sys P N w s p) : Calls Tryz.prog 46 #[.pointer (some ⟨s, 0, none⟩)] w fun e w' => e = .returned (.int .i64 (p.steps : Nat)) ∧ w' = w := by
  obtain ⟨vs, vf, vc, u, h⟩ := h
  have q7 : w.cell? ⟨s, 7, none⟩ = some (.int .i64 (p.steps : Int)) := h.c 7
  have HL := hid (load_any ⟨s, 7, none⟩ _ w q7)
  clear h
  go_enter Tryz.func46, Tryz.ntmps46
  go_wp2_with (go_at_call 21; refine (HL.out).mono ?_; rintro e w1 ⟨rfl, h1⟩; subst w1)
  go_ret
  exact ⟨rfl, rfl⟩

/-! ### List -/
theorem list_nil (w : World) : Calls Tryz.prog 12 #[.pointer none] w fun e w' => e = .returned (.slice none 0 0) ∧ w' = w := by
  go_enter Tryz.func12, Tryz.ntmps12
  go_wp2
  go_ret
  exact ⟨rfl, rfl⟩
theorem list_any {P : Nat → Prop} {N : Nat} (w : World) (s : Nat) (p : PS) (h : Sys P N w s p) :
    Calls Tryz.prog 12 #[.pointer (some ⟨s, 0, none⟩)] w fun e w' => ∃ u, e = .returned u ∧ OwnN w' u (pList p) ∧ (∀ x, u.ownBlock = some x → w.heap.size ≤ x) ∧ Kp No w w' := by
  obtain ⟨vs, vf, vc, u, h⟩ := h
  have q4 : w.cell? ⟨s, 4, none⟩ = some (.bool p.down) := h.c 4
  have q1 : w.cell? ⟨s, 1, none⟩ = some vs := h.c 1
  have HN := hid (names_any w vs p.seen h.seen (by have := h.inv.lseen; have := h.inv.big; omega))
  clear h
  unfold pList
  cases hd : p.down with
  | true =>
    rw [hd] at q4
    clear hd
    go_enter Tryz.func12, Tryz.ntmps12
    go_wp2
    go_ret
    exact ⟨_, rfl, Row.nil _ _ _, by simp [Value.ownBlock], Kp.refl _ _⟩
  | false =>
    rw [hd] at q4
    clear hd
    simp only [Bool.false_eq_true, if_false]
    go_enter Tryz.func12, Tryz.ntmps12
    go_wp2_with (go_at_call 47; refine (HN.out).mono ?_; rintro e w1 ⟨u1, rfl, h1, h2, h3⟩; have H1 := hid h1; have H2 := hid h2; have H3 := hid h3; clear h1 h2 h3)
    go_ret
    exact ⟨u1, rfl, H1.out, H2.out, H3.out⟩

end Go.Proofs.YtmiipifhbliamaaGreat.Sim
