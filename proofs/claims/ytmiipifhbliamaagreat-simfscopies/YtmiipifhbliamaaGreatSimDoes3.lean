/-
  The statements' own Step, of any kind but Up.
-/
import Derived.Test.YtmiipifhbliamaaGreatSimDoes2
namespace Go.Proofs.YtmiipifhbliamaaGreat.Sim
open Go.RowKit Go.Maps

/-- What a call makes of a state, and its answer. -/
def stepP (o : RawOp) (bs : List Nat) (c : Nat) (p : PS) : Nat × PS :=
  if o.k = 0 then pCreate (nm o.s) c p else if o.k = 1 then pAppend (nm o.s) bs p else if o.k = 3 then pRename (nm o.s) (nm o.t) p else if o.k = 4 then pRemove (nm o.s) p
  else if o.k = 5 then pFsync (nm o.s) p else if o.k = 6 then pSyncDir p else if o.k = 7 then pArm o.z p else if o.k = 9 then pFlip (nm o.s) o.z o.y p else (0, p)
/-- What both answer. -/
def stepB (o : RawOp) (bs : List Nat) (c d : Nat) (p r : PS) : Bool :=
  if o.k = 2 then decide (pBytes (nm o.s) p = pBytes (nm o.s) r) && (finds p (nm o.s) == finds r (nm o.s)) else (stepP o bs c p).1 == (stepP o bs d r).1

set_option maxRecDepth 100000 in
theorem step_any {A : Nat → Prop} {N : Nat} {w : World} {s m : Nat} {p r : PS} (h : Two A N w s p m r) (hN : N + 2 ≤ 1000) (o : RawOp) (bs : List Nat) (h8 : o.k ≠ 8) (hs : o.s.size ≤ 60) (ht : o.t.size ≤ 60) (hy : ByP A w (.slice o.a o.l o.c) bs) (hl : bs.length ≤ 200) (hz : o.z ≤ 9223372036854775807) (hy2 : o.y < 256) :
    Calls Tryz.prog 10 #[.pointer (some ⟨s, 0, none⟩), .pointer (some ⟨m, 0, none⟩), .agg #[.int .i64 o.k, .string o.s, .string o.t, .slice o.a o.l o.c, .int .i64 o.z, .int .u8 (o.y : Int), .slice o.a' o.l' o.c']] w fun e w' =>
      ∃ c d, (o.k = 0 → p.files c = none ∧ r.files d = none) ∧ e = .returned (.bool (stepB o bs c d p r)) ∧ Two A (N + 2) w' s (stepP o bs c p).2 m (stepP o bs d r).2 ∧ Keeps A w w' := by
  obtain ⟨k, n, t, a, l, c, z, y, a', l', c'⟩ := o
  simp only at h8 hs ht hy hz hy2 ⊢
  have hs' : n.size ≤ 1000000 := by omega
  have ht' : t.size ≤ 1000000 := by omega
  by_cases k0 : k = 0
  · subst k0
    refine (step0 h hN n t _ _ z y hs').mono ?_
    rintro e w' ⟨b, d, hb, hd, rfl, h2, k2⟩
    exact ⟨b, d, fun _ => ⟨hb, hd⟩, rfl, h2, k2⟩
  by_cases k1 : k = 1
  · subst k1
    refine (step1 h hN n t _ _ z y hs' bs hy hl).mono ?_
    rintro e w' ⟨rfl, h2, k2⟩
    exact ⟨0, 0, fun hk => absurd hk k0, rfl, h2, k2⟩
  by_cases k2 : k = 2
  · subst k2
    refine (step2 h hN n t _ _ z y hs').mono ?_
    rintro e w' ⟨rfl, h2, k2⟩
    exact ⟨0, 0, fun hk => absurd hk k0, rfl, h2, k2⟩
  by_cases k3 : k = 3
  · subst k3
    refine (step3 h hN n t _ _ z y hs' ht').mono ?_
    rintro e w' ⟨rfl, h2, k2⟩
    exact ⟨0, 0, fun hk => absurd hk k0, rfl, h2, k2⟩
  by_cases k4 : k = 4
  · subst k4
    refine (step4 h hN n t _ _ z y hs').mono ?_
    rintro e w' ⟨rfl, h2, k2⟩
    exact ⟨0, 0, fun hk => absurd hk k0, rfl, h2, k2⟩
  by_cases k5 : k = 5
  · subst k5
    refine (step5 h hN n t _ _ z y hs').mono ?_
    rintro e w' ⟨rfl, h2, k2⟩
    exact ⟨0, 0, fun hk => absurd hk k0, rfl, h2, k2⟩
  by_cases k6 : k = 6
  · subst k6
    refine (step6 h hN n t _ _ z y).mono ?_
    rintro e w' ⟨rfl, h2, k2⟩
    exact ⟨0, 0, fun hk => absurd hk k0, rfl, h2, k2⟩
  by_cases k7 : k = 7
  · subst k7
    refine (step7 h hN n t _ _ z y hz).mono ?_
    rintro e w' ⟨rfl, h2, k2⟩
    exact ⟨0, 0, fun hk => absurd hk k0, rfl, h2, k2⟩
  by_cases k9 : k = 9
  · subst k9
    refine (step9 h hN n t _ _ z y hs' hy2).mono ?_
    rintro e w' ⟨rfl, h2, k2⟩
    exact ⟨0, 0, fun hk => absurd hk k0, rfl, h2, k2⟩
  · refine (stepO h hN k (by omega) n t _ _ z y).mono ?_
    rintro e w' ⟨rfl, h2, kk⟩
    have e1 : ∀ q, stepP ⟨k, n, t, a, l, c, z, y, a', l', c'⟩ bs 0 q = (0, q) := fun q => by simp [stepP, k0, k1, k3, k4, k5, k6, k7, k9]
    refine ⟨0, 0, fun hk => absurd hk k0, ?_, ?_, kk⟩
    · simp [stepB, e1, k2]
    · rw [e1, e1]; exact h2

end Go.Proofs.YtmiipifhbliamaaGreat.Sim
