/-
  What tells alone: wrong, find, Read, Size, Down, Steps.
-/
import Derived.Test.YtmiipifhbliamaaGreatSimRep
namespace Go.Proofs.YtmiipifhbliamaaGreat.Sim
open Go.RowKit

theorem pNameS_any (s : ByteArray) (hs : s.size ≤ 1000000) (w : World) : Calls Tryz.prog 70 #[.string s] w fun e w' => e = .returned (.bool (nameB (nm s))) ∧ Kp No w w' := pName_any s hs w

/-- A slice of names, as it is handed to wrong. -/
def NsAt (w : World) (v : Value) (ns : List Nm) : Prop :=
  ∃ a cap, v = .slice a ns.length cap ∧ ns.length ≤ 100 ∧ (∀ n ∈ ns, n.length ≤ 1000000) ∧ (ns ≠ [] → ∃ g, a = some ⟨g, 0, none⟩ ∧ g < w.heap.size ∧ ∀ i, i < ns.length → w.cell? ⟨g, i, none⟩ = some (.string (sOf (ns.getD i []))))

theorem wrong_nil (v : Value) (w : World) : Calls Tryz.prog 50 #[.pointer none, v] w fun e w' => e = .returned (.int .i64 18) ∧ w' = w := by
  go_enter Tryz.func50, Tryz.ntmps50
  go_wp2
  go_ret
  exact ⟨rfl, rfl⟩

set_option maxHeartbeats 1000000 in
theorem wrong_any (sb : Nat) (v : Value) (ns : List Nm) (d : Bool) (w : World) (hd : w.cell? ⟨sb, 4, none⟩ = some (.bool d)) (h : NsAt w v ns) :
    Calls Tryz.prog 50 #[.pointer (some ⟨sb, 0, none⟩), v] w fun e w' => e = .returned (.int .i64 ((if d then 12 else if ns.all nameB then 0 else 10 : Nat) : Int)) ∧ Kp No w w' := by
  obtain ⟨a, cap, rfl, hl, hn, hc⟩ := h
  have HN := hid hn
  have HC := hid hc
  clear hn hc
  cases d with
  | true =>
    go_enter Tryz.func50, Tryz.ntmps50
    go_wp2
    go_ret
    exact ⟨rfl, Kp.refl _ _⟩
  | false =>
    simp only [Bool.false_eq_true, if_false]
    obtain ⟨r, hr⟩ : ∃ r : Nat, (if ns.all nameB = true then 0 else 10) = r := ⟨_, rfl⟩
    have HR := hid hr
    rw [hr]
    clear hr
    have hnot : ∀ (x : Bool) (w : World), (Op.unary .not (.bool x)).run Tryz.prog w = .ok (.bool (!x)) w := fun _ _ => rfl
    go_enter Tryz.func50, Tryz.ntmps50
    go_wp2
    go_loopw [15] (fun x wr => ∃ i : Nat, x = .int .i64 i ∧ i ≤ ns.length ∧ Hid ((ns.take i).all nameB = true) ∧ Hid (Kp No w wr)) (fun x _ => ns.length - (intOf x).toNat)
    case atStart => exact ⟨0, rfl, by omega, by simp [Hid], Kp.refl _ _⟩
    case round =>
      obtain ⟨i, rfl, hi, HI, HK⟩ := hrel
      by_cases hlt : i < ns.length
      · obtain ⟨g, rfl, hg, hcell⟩ := HC.out (by intro e; subst e; simp at hlt)
        have c1 := (HK.out.cell (p := ⟨g, i, none⟩) hg (fun h => h.elim)).trans (hcell i hlt)
        have hmem : ns.getD i [] ∈ ns := by rw [List.getD_eq_getElem?_getD, List.getElem?_eq_getElem hlt, Option.getD_some]; exact List.getElem_mem hlt
        have HT : Hid (ns.take (i + 1) = ns.take i ++ [ns.getD i []]) := by rw [Hid, List.take_succ_eq_append_getElem hlt, List.getD_eq_getElem?_getD, List.getElem?_eq_getElem hlt, Option.getD_some]
        have HM := hid hmem
        have hsz : Hid ((sOf (ns.getD i [])).size ≤ 1000000) := by rw [Hid, sOf_size]; exact HN.out _ hmem
        have hnm : Hid (nm (sOf (ns.getD i [])) = ns.getD i []) := nm_sOf _
        generalize sOf (ns.getD i []) = s at *
        generalize ns.getD i [] = n at *
        clear hcell hmem HC
        cases hok : nameB n with
        | true =>
          have HO := hid hok
          clear hok
          go_wp2_with (go_at_call 70; refine (pNameS_any s hsz.out _).mono ?_; rintro e w2 ⟨rfl, hk⟩; rw [hnm.out, HO.out]; have HK2 := hid hk; clear hk)
          go_roundw
          case rel => exact ⟨i + 1, by go_num, by omega, by rw [Hid, HT.out, List.all_append, HI.out]; simp [HO.out], HK.out.andNone HK2.out⟩
          case measure => simp [intOf]; omega
        | false =>
          have HO := hid hok
          clear hok
          go_wp2_with (go_at_call 70; refine (pNameS_any s hsz.out _).mono ?_; rintro e w2 ⟨rfl, hk⟩; rw [hnm.out, HO.out]; have HK2 := hid hk; clear hk)
          go_ret
          refine ⟨?_, HK.out.andNone HK2.out⟩
          rw [← HR.out, List.all_eq_false.2 ⟨n, HM.out, by simp [HO.out]⟩]
          rfl
      · go_wp2
        go_ret
        refine ⟨?_, HK.out⟩
        have := HI.out
        rw [List.take_of_length_le (by omega)] at this
        rw [← HR.out, this]
        rfl

theorem NsAt.one (w : World) (s : ByteArray) (hs : s.size ≤ 1000000) : NsAt (w.alloc (.cells #[.string s] 9)) (.slice (some ⟨w.heap.size, 0, none⟩) 1 1) [nm s] := by
  refine ⟨_, 1, rfl, by simp, by simp [nm_len, hs], fun _ => ⟨_, rfl, by simp, fun i hi => ?_⟩⟩
  have : i = 0 := by simpa using hi
  subst this
  rw [World.cell?_alloc_at _ _ _ _ rfl]
  simp [sOf_nm]
theorem NsAt.two (w : World) (s t : ByteArray) (hs : s.size ≤ 1000000) (ht : t.size ≤ 1000000) : NsAt (w.alloc (.cells #[.string s, .string t] 9)) (.slice (some ⟨w.heap.size, 0, none⟩) 2 2) [nm s, nm t] := by
  refine ⟨_, 2, rfl, by simp, by simp [nm_len, hs, ht], fun _ => ⟨_, rfl, by simp, fun i hi => ?_⟩⟩
  rw [World.cell?_alloc_at _ _ _ _ rfl]
  have : i = 0 ∨ i = 1 := by simp at hi; omega
  rcases this with rfl | rfl
  · simp [sOf_nm]
  · simp [sOf_nm]
theorem NsAt.none (w : World) : NsAt w (.slice none 0 0) [] := ⟨_, 0, rfl, by decide, by simp, fun h => absurd rfl h⟩

/-- The cells of a system's struct. -/
theorem Rp.c {P : Nat → Prop} {I : PS → Prop} {w : World} {s : Nat} {p : PS} {vs vf vc : Value} {u : Nat → Value} (h : Rp P I w s p vs vf vc u) (j : Nat) : w.cell? ⟨s, j, none⟩ = (fsCells p vs vf vc)[j]? := h.blk.cell j

theorem find_nil (t : ByteArray) (w : World) : Calls Tryz.prog 48 #[.pointer none, .string t] w fun e w' => e = .returned (.tuple #[.pointer none, .int .i64 18]) ∧ Kp No w w' := by
  go_enter Tryz.func48, Tryz.ntmps48
  go_wp2_with (go_at_call 50; refine (wrong_nil _ _).mono ?_; rintro e w1 ⟨rfl, h1⟩; subst w1)
  go_ret2
  exact ⟨rfl, (Kp.refl _ _).alloc _⟩

/-- Where a name leads, if nothing is wrong. -/
def foundP (p : PS) (n : Nm) : Option Nat := if finds p n = 0 then dfind p.seen n else none

set_option maxHeartbeats 1000000 in
theorem find_any {P : Nat → Prop} {N : Nat} (w : World) (s : Nat) (p : PS) (t : ByteArray) (ht : t.size ≤ 1000000) (h : Sys P N w s p) :
    Calls Tryz.prog 48 #[.pointer (some ⟨s, 0, none⟩), .string t] w fun e w' => e = .returned (.tuple #[ptrV (foundP p (nm t)), .int .i64 (finds p (nm t) : Nat)]) ∧ Kp No w w' := by
  obtain ⟨vs, vf, vc, u, h⟩ := h
  have H := hid h
  have hsl := h.lt s h.ps
  have q4 : w.cell? ⟨s, 4, none⟩ = some (.bool p.down) := h.c 4
  have q1 : w.cell? ⟨s, 1, none⟩ = some vs := h.c 1
  have hW : Hid (∀ W, Kp No w W → W.cell? ⟨s, 1, none⟩ = some vs ∧ (Instr.lookup 55 vs (.string t) false).run Tryz.prog W = .ok (ptrV (dfind p.seen (nm t))) W) := fun W k =>
    ⟨(k.cell (p := ⟨s, 1, none⟩) hsl (fun h => h.elim)).trans q1, (H.out.seen.kp k (fun _ _ h => h.elim)).lookS t ht⟩
  have HC : Hid (Calls Tryz.prog 50 #[.pointer (some ⟨s, 0, none⟩), .slice (some ⟨w.heap.size, 0, none⟩) 1 1] (w.alloc (.cells #[.string t] 9)) fun e w' => e = .returned (.int .i64 (wrongs p [nm t] : Nat)) ∧ Kp No w w') := by
    refine (wrong_any s _ [nm t] p.down _ ?_ (NsAt.one w t ht)).mono ?_
    · exact (((Kp.refl No w).alloc _).cell (p := ⟨s, 4, none⟩) hsl (fun h => h.elim)).trans q4
    · rintro e w' ⟨rfl, hk⟩
      exact ⟨rfl, ((Kp.refl No w).alloc _).andNone hk⟩
  clear h q1 q4
  by_cases hw : wrongs p [nm t] = 0
  · rw [hw] at HC
    cases hd : dfind p.seen (nm t) with
    | none =>
      have e1 : finds p (nm t) = 5 := by simp [finds, hw, hd]
      have e2 : foundP p (nm t) = none := by simp [foundP, e1]
      rw [e1, e2]
      rw [hd] at hW
      clear e1 e2 hd hw
      go_enter Tryz.func48, Tryz.ntmps48
      go_wp2_with (go_at_call 50; refine (HC.out).mono ?_; rintro e w1 ⟨rfl, hk⟩; have HK := hid hk; obtain ⟨r1, r2⟩ := hW.out _ hk; have e0 : ptrV none = .pointer none := rfl; rw [e0] at r2; clear hk e0)
      go_ret2
      exact ⟨rfl, HK.out⟩
    | some b =>
      have e1 : finds p (nm t) = 0 := by simp [finds, hw, hd]
      have e2 : foundP p (nm t) = some b := by simp [foundP, e1, hd]
      rw [e1, e2]
      rw [hd] at hW
      clear e1 e2 hd hw
      go_enter Tryz.func48, Tryz.ntmps48
      go_wp2_with (go_at_call 50; refine (HC.out).mono ?_; rintro e w1 ⟨rfl, hk⟩; have HK := hid hk; obtain ⟨r1, r2⟩ := hW.out _ hk; have e0 : ptrV (some b) = .pointer (some ⟨b, 0, none⟩) := rfl; rw [e0] at r2; clear hk e0)
      go_ret2
      exact ⟨rfl, HK.out⟩
  · have e1 : finds p (nm t) = wrongs p [nm t] := by simp [finds, hw]
    have e2 : foundP p (nm t) = none := by simp [foundP, e1, hw]
    rw [e1, e2]
    generalize wrongs p [nm t] = x at *
    have hne : ((x : Int) != 0) = true := by simp; omega
    clear e1 e2 hw
    go_enter Tryz.func48, Tryz.ntmps48
    go_wp2_with (go_at_call 50; refine (HC.out).mono ?_; rintro e w1 ⟨rfl, hk⟩; have HK := hid hk; clear hk)
    go_ret2
    exact ⟨rfl, HK.out⟩

end Go.Proofs.YtmiipifhbliamaaGreat.Sim
