/-
  The program's system and the document's one, side by side; each call of either.
-/
import Derived.Test.YtmiipifhbliamaaGreatSimRApp
namespace Go.Proofs.YtmiipifhbliamaaGreat.Sim
open Go.RowKit Go.Maps

/-- The program's system p at s, the document's r at m, each in blocks of its own; those of A are neither's. -/
def Two (A : Nat → Prop) (N : Nat) (w : World) (s : Nat) (p : PS) (m : Nat) (r : PS) : Prop :=
  ∃ P Q, Sys P N w s p ∧ RSys Q N w m r ∧ (∀ x, P x → ¬ Q x) ∧ ∀ x, A x → x < w.heap.size ∧ ¬ P x ∧ ¬ Q x
/-- What A has is kept. -/
def Keeps (A : Nat → Prop) (w w' : World) : Prop := Kp (fun x => ¬ A x) w w'
theorem Keeps.refl (A : Nat → Prop) (w : World) : Keeps A w w := Kp.refl _ _
theorem Keeps.trans {A : Nat → Prop} {u v w : World} (h : Keeps A u v) (k : Keeps A v w) : Keeps A u w := Kp.trans h k (fun _ hx => .inl hx)
theorem Keeps.drew {A : Nat → Prop} {u w : World} (h : Keeps A u w) : Keeps A u w.drew := Kp.drew h
theorem Keeps.none {A : Nat → Prop} {u v w : World} (h : Keeps A u v) (k : Kp No v w) : Keeps A u w := Kp.andNone h k
theorem Keeps.less {A A' : Nat → Prop} {u w : World} (h : Keeps A u w) (ha : ∀ x, A' x → A x) : Keeps A' u w := Kp.mono h (fun x hx => .inl (fun h' => hx (ha x h')))
theorem Keeps.cell {A : Nat → Prop} {w w' : World} (h : Keeps A w w') {p : Addr} (h1 : p.block < w.heap.size) (h2 : A p.block) : w'.cell? p = w.cell? p := Kp.cell h h1 (fun h => h h2)
theorem Keeps.ofNo {A : Nat → Prop} {w w' : World} (h : Kp No w w') : Keeps A w w' := Kp.ofNo h

theorem two_done {A P Q : Nat → Prop} {N M : Nat} {w w' : World} {s m : Nat} {q r : PS} (hD : Done P M w w' s q) (hQ : RSys Q N w m r) (hPQ : ∀ x, P x → ¬ Q x) (hA : ∀ x, A x → x < w.heap.size ∧ ¬ P x ∧ ¬ Q x) (hNM : N ≤ M) (hM : M ≤ 1000) :
    Two A M w' s q m r ∧ Keeps A w w' := by
  obtain ⟨P', h1, h2, h3⟩ := hD
  refine ⟨⟨P', Q, h1, (hQ.kp h2 (fun x hx => hPQ x hx)).more hNM hM, fun x hx hq => ?_, fun x hx => ?_⟩, h2.mono (fun x hx => .inl (fun ha => (hA x ha).2.1 hx))⟩
  · rcases h3 x hx with h | h
    · exact hPQ x h hq
    · have := hQ.lt x hq; omega
  · obtain ⟨a1, a2, a3⟩ := hA x hx
    refine ⟨Nat.lt_of_lt_of_le a1 h2.size, fun hp => ?_, a3⟩
    rcases h3 x hp with h | h
    · exact a2 h
    · omega
theorem two_rdone {A P Q : Nat → Prop} {N M : Nat} {w w' : World} {s m : Nat} {p q : PS} (hD : RDone Q M w w' m q) (hP : Sys P N w s p) (hPQ : ∀ x, P x → ¬ Q x) (hA : ∀ x, A x → x < w.heap.size ∧ ¬ P x ∧ ¬ Q x) (hNM : N ≤ M) (hM : M ≤ 1000) :
    Two A M w' s p m q ∧ Keeps A w w' := by
  obtain ⟨Q', h1, h2, h3⟩ := hD
  refine ⟨⟨P, Q', (hP.kp h2 (fun x hx hp => hPQ x hp hx)).more hNM hM, h1, fun x hx hq => ?_, fun x hx => ?_⟩, h2.mono (fun x hx => .inl (fun ha => (hA x ha).2.2 hx))⟩
  · rcases h3 x hq with h | h
    · exact hPQ x hx h
    · have := hP.lt x hx; omega
  · obtain ⟨a1, a2, a3⟩ := hA x hx
    refine ⟨Nat.lt_of_lt_of_le a1 h2.size, a2, fun hp => ?_⟩
    rcases h3 x hp with h | h
    · exact a3 h
    · omega
theorem Two.kept {A : Nat → Prop} {N : Nat} {w w' : World} {s m : Nat} {p r : PS} (h : Two A N w s p m r) (k : Kp No w w') : Two A N w' s p m r := by
  obtain ⟨P, Q, h1, h2, h3, h4⟩ := h
  exact ⟨P, Q, h1.kept k, h2.kp k (fun _ h => h.elim), h3, fun x hx => ⟨Nat.lt_of_lt_of_le (h4 x hx).1 k.size, (h4 x hx).2⟩⟩
theorem Two.more {A : Nat → Prop} {N M : Nat} {w : World} {s m : Nat} {p r : PS} (h : Two A N w s p m r) (hm : N ≤ M) (hb : M ≤ 1000) : Two A M w s p m r := by
  obtain ⟨P, Q, h1, h2, h3, h4⟩ := h
  exact ⟨P, Q, h1.more hm hb, h2.more hm hb, h3, h4⟩
theorem Two.less {A A' : Nat → Prop} {N : Nat} {w : World} {s m : Nat} {p r : PS} (h : Two A N w s p m r) (ha : ∀ x, A' x → A x) : Two A' N w s p m r := by
  obtain ⟨P, Q, h1, h2, h3, h4⟩ := h
  exact ⟨P, Q, h1, h2, h3, fun x hx => h4 x (ha x hx)⟩
/-- A block that is made is neither's. -/
theorem Two.alloc {A : Nat → Prop} {N : Nat} {w : World} {s m : Nat} {p r : PS} (h : Two A N w s p m r) (o : Obj) : Two (fun x => A x ∨ x = w.heap.size) N (w.alloc o) s p m r := by
  obtain ⟨P, Q, h1, h2, h3, h4⟩ := h
  have k : Kp No w (w.alloc o) := (Kp.refl _ _).alloc _
  have hs : (w.alloc o).heap.size = w.heap.size + 1 := by simp
  refine ⟨P, Q, h1.kept k, h2.kp k (fun _ h => h.elim), h3, fun x hx => ?_⟩
  rcases hx with hx | hx
  · exact ⟨Nat.lt_of_lt_of_le (h4 x hx).1 k.size, (h4 x hx).2⟩
  · subst hx
    exact ⟨by omega, fun hp => by have := h1.lt _ hp; omega, fun hq => by have := h2.lt _ hq; omega⟩
theorem Two.lt {A : Nat → Prop} {N : Nat} {w : World} {s m : Nat} {p r : PS} (h : Two A N w s p m r) : ∀ x, A x → x < w.heap.size := by
  obtain ⟨P, Q, h1, h2, h3, h4⟩ := h
  exact fun x hx => (h4 x hx).1
theorem ByP.keeps {A : Nat → Prop} {w w' : World} {v : Value} {bs : List Nat} (h : ByP A w v bs) (k : Keeps A w w') : ByP A w' v bs := h.kp k (fun _ hx _ ha => hx ha)

section
variable {A : Nat → Prop} {N : Nat} {w : World} {s m : Nat} {p r : PS} (h : Two A N w s p m r) (hN : N + 1 ≤ 1000)
include h hN
theorem two_create (t : ByteArray) (ht : t.size ≤ 1000000) : Calls Tryz.prog 14 #[.pointer (some ⟨s, 0, none⟩), .string t] w fun e w' => ∃ b, p.files b = none ∧ e = .returned (.int .i64 ((pCreate (nm t) b p).1 : Nat)) ∧ Two A (N + 1) w' s (pCreate (nm t) b p).2 m r ∧ Keeps A w w' := by
  obtain ⟨P, Q, h1, h2, h3, h4⟩ := h
  refine (create_any w s p t ht h1 hN).mono ?_
  rintro e w' ⟨b, hb, rfl, hD⟩
  exact ⟨b, hb, rfl, two_done hD h2 h3 h4 (by omega) hN⟩
theorem two_append (t : ByteArray) (ht : t.size ≤ 1000000) (vb : Value) (ys : List Nat) (hy : ByP A w vb ys) (hl : ys.length ≤ 200) : Calls Tryz.prog 15 #[.pointer (some ⟨s, 0, none⟩), .string t, vb] w fun e w' => e = .returned (.int .i64 ((pAppend (nm t) ys p).1 : Nat)) ∧ Two A (N + 1) w' s (pAppend (nm t) ys p).2 m r ∧ Keeps A w w' := by
  obtain ⟨P, Q, h1, h2, h3, h4⟩ := h
  refine (append_any w s p t vb ys ht h1 hN hy (fun x hx => (h4 x hx).2.1) hl).mono ?_
  rintro e w' ⟨rfl, hD⟩
  exact ⟨rfl, two_done hD h2 h3 h4 (by omega) hN⟩
theorem two_rename (t t' : ByteArray) (ht : t.size ≤ 1000000) (ht' : t'.size ≤ 1000000) : Calls Tryz.prog 30 #[.pointer (some ⟨s, 0, none⟩), .string t, .string t'] w fun e w' => e = .returned (.int .i64 ((pRename (nm t) (nm t') p).1 : Nat)) ∧ Two A (N + 1) w' s (pRename (nm t) (nm t') p).2 m r ∧ Keeps A w w' := by
  obtain ⟨P, Q, h1, h2, h3, h4⟩ := h
  refine (rename_any w s p t t' ht ht' h1 hN).mono ?_
  rintro e w' ⟨rfl, hD⟩
  exact ⟨rfl, two_done hD h2 h3 h4 (by omega) hN⟩
theorem two_remove (t : ByteArray) (ht : t.size ≤ 1000000) : Calls Tryz.prog 32 #[.pointer (some ⟨s, 0, none⟩), .string t] w fun e w' => e = .returned (.int .i64 ((pRemove (nm t) p).1 : Nat)) ∧ Two A (N + 1) w' s (pRemove (nm t) p).2 m r ∧ Keeps A w w' := by
  obtain ⟨P, Q, h1, h2, h3, h4⟩ := h
  refine (remove_any w s p t ht h1 hN).mono ?_
  rintro e w' ⟨rfl, hD⟩
  exact ⟨rfl, two_done hD h2 h3 h4 (by omega) hN⟩
theorem two_fsync (t : ByteArray) (ht : t.size ≤ 1000000) : Calls Tryz.prog 16 #[.pointer (some ⟨s, 0, none⟩), .string t] w fun e w' => e = .returned (.int .i64 ((pFsync (nm t) p).1 : Nat)) ∧ Two A (N + 1) w' s (pFsync (nm t) p).2 m r ∧ Keeps A w w' := by
  obtain ⟨P, Q, h1, h2, h3, h4⟩ := h
  refine (fsync_any w s p t ht h1 hN).mono ?_
  rintro e w' ⟨rfl, hD⟩
  exact ⟨rfl, two_done hD h2 h3 h4 (by omega) hN⟩
theorem two_syncdir : Calls Tryz.prog 17 #[.pointer (some ⟨s, 0, none⟩)] w fun e w' => e = .returned (.int .i64 ((pSyncDir p).1 : Nat)) ∧ Two A (N + 1) w' s (pSyncDir p).2 m r ∧ Keeps A w w' := by
  obtain ⟨P, Q, h1, h2, h3, h4⟩ := h
  refine (syncdir_any w s p h1 hN).mono ?_
  rintro e w' ⟨rfl, hD⟩
  exact ⟨rfl, two_done hD h2 h3 h4 (by omega) hN⟩
theorem two_arm (k : Int) (hk : k ≤ 9223372036854775807) : Calls Tryz.prog 36 #[.pointer (some ⟨s, 0, none⟩), .int .i64 k] w fun e w' => e = .returned (.int .i64 ((pArm k p).1 : Nat)) ∧ Two A (N + 1) w' s (pArm k p).2 m r ∧ Keeps A w w' := by
  obtain ⟨P, Q, h1, h2, h3, h4⟩ := h
  refine (arm_any w s p k hk h1 hN).mono ?_
  rintro e w' ⟨rfl, hD⟩
  exact ⟨rfl, two_done hD h2 h3 h4 (by omega) hN⟩
theorem two_flip (t : ByteArray) (ht : t.size ≤ 1000000) (k : Int) (x : Nat) (hx : x < 256) : Calls Tryz.prog 39 #[.pointer (some ⟨s, 0, none⟩), .string t, .int .i64 k, .int .u8 (x : Int)] w fun e w' => e = .returned (.int .i64 ((pFlip (nm t) k x p).1 : Nat)) ∧ Two A (N + 1) w' s (pFlip (nm t) k x p).2 m r ∧ Keeps A w w' := by
  obtain ⟨P, Q, h1, h2, h3, h4⟩ := h
  refine (flip_any w s p t k x hx ht h1 hN).mono ?_
  rintro e w' ⟨rfl, hD⟩
  exact ⟨rfl, two_done hD h2 h3 h4 (by omega) hN⟩

theorem two_rcreate (t : ByteArray) (ht : t.size ≤ 1000000) : Calls Tryz.prog 25 #[.pointer (some ⟨m, 0, none⟩), .string t] w fun e w' => ∃ b, r.files b = none ∧ e = .returned (.int .i64 ((pCreate (nm t) b r).1 : Nat)) ∧ Two A (N + 1) w' s p m (pCreate (nm t) b r).2 ∧ Keeps A w w' := by
  obtain ⟨P, Q, h1, h2, h3, h4⟩ := h
  refine (rcreate_any w m r t ht h2 hN).mono ?_
  rintro e w' ⟨b, hb, rfl, hD⟩
  exact ⟨b, hb, rfl, two_rdone hD h1 h3 h4 (by omega) hN⟩
theorem two_rappend (t : ByteArray) (ht : t.size ≤ 1000000) (vb : Value) (ys : List Nat) (hy : ByP A w vb ys) (hl : ys.length ≤ 200) : Calls Tryz.prog 26 #[.pointer (some ⟨m, 0, none⟩), .string t, vb] w fun e w' => e = .returned (.int .i64 ((pAppend (nm t) ys r).1 : Nat)) ∧ Two A (N + 1) w' s p m (pAppend (nm t) ys r).2 ∧ Keeps A w w' := by
  obtain ⟨P, Q, h1, h2, h3, h4⟩ := h
  refine (rappend_any w m r t vb ys ht h2 hN hy (fun x hx => (h4 x hx).2.2) hl).mono ?_
  rintro e w' ⟨rfl, hD⟩
  exact ⟨rfl, two_rdone hD h1 h3 h4 (by omega) hN⟩
theorem two_rrename (t t' : ByteArray) (ht : t.size ≤ 1000000) (ht' : t'.size ≤ 1000000) : Calls Tryz.prog 31 #[.pointer (some ⟨m, 0, none⟩), .string t, .string t'] w fun e w' => e = .returned (.int .i64 ((pRename (nm t) (nm t') r).1 : Nat)) ∧ Two A (N + 1) w' s p m (pRename (nm t) (nm t') r).2 ∧ Keeps A w w' := by
  obtain ⟨P, Q, h1, h2, h3, h4⟩ := h
  refine (rrename_any w m r t t' ht ht' h2 hN).mono ?_
  rintro e w' ⟨rfl, hD⟩
  exact ⟨rfl, two_rdone hD h1 h3 h4 (by omega) hN⟩
theorem two_rremove (t : ByteArray) (ht : t.size ≤ 1000000) : Calls Tryz.prog 33 #[.pointer (some ⟨m, 0, none⟩), .string t] w fun e w' => e = .returned (.int .i64 ((pRemove (nm t) r).1 : Nat)) ∧ Two A (N + 1) w' s p m (pRemove (nm t) r).2 ∧ Keeps A w w' := by
  obtain ⟨P, Q, h1, h2, h3, h4⟩ := h
  refine (rremove_any w m r t ht h2 hN).mono ?_
  rintro e w' ⟨rfl, hD⟩
  exact ⟨rfl, two_rdone hD h1 h3 h4 (by omega) hN⟩
theorem two_rfsync (t : ByteArray) (ht : t.size ≤ 1000000) : Calls Tryz.prog 34 #[.pointer (some ⟨m, 0, none⟩), .string t] w fun e w' => e = .returned (.int .i64 ((pFsync (nm t) r).1 : Nat)) ∧ Two A (N + 1) w' s p m (pFsync (nm t) r).2 ∧ Keeps A w w' := by
  obtain ⟨P, Q, h1, h2, h3, h4⟩ := h
  refine (rfsync_any w m r t ht h2 hN).mono ?_
  rintro e w' ⟨rfl, hD⟩
  exact ⟨rfl, two_rdone hD h1 h3 h4 (by omega) hN⟩
theorem two_rsyncdir : Calls Tryz.prog 35 #[.pointer (some ⟨m, 0, none⟩)] w fun e w' => e = .returned (.int .i64 ((pSyncDir r).1 : Nat)) ∧ Two A (N + 1) w' s p m (pSyncDir r).2 ∧ Keeps A w w' := by
  obtain ⟨P, Q, h1, h2, h3, h4⟩ := h
  refine (rsyncdir_any w m r h2 hN).mono ?_
  rintro e w' ⟨rfl, hD⟩
  exact ⟨rfl, two_rdone hD h1 h3 h4 (by omega) hN⟩
theorem two_rarm (k : Int) (hk : k ≤ 9223372036854775807) : Calls Tryz.prog 37 #[.pointer (some ⟨m, 0, none⟩), .int .i64 k] w fun e w' => e = .returned (.int .i64 ((pArm k r).1 : Nat)) ∧ Two A (N + 1) w' s p m (pArm k r).2 ∧ Keeps A w w' := by
  obtain ⟨P, Q, h1, h2, h3, h4⟩ := h
  refine (rarm_any w m r k hk h2 hN).mono ?_
  rintro e w' ⟨rfl, hD⟩
  exact ⟨rfl, two_rdone hD h1 h3 h4 (by omega) hN⟩
theorem two_rflip (t : ByteArray) (ht : t.size ≤ 1000000) (k : Int) (x : Nat) (hx : x < 256) : Calls Tryz.prog 40 #[.pointer (some ⟨m, 0, none⟩), .string t, .int .i64 k, .int .u8 (x : Int)] w fun e w' => e = .returned (.int .i64 ((pFlip (nm t) k x r).1 : Nat)) ∧ Two A (N + 1) w' s p m (pFlip (nm t) k x r).2 ∧ Keeps A w w' := by
  obtain ⟨P, Q, h1, h2, h3, h4⟩ := h
  refine (rflip_any w m r t k x hx ht h2 hN).mono ?_
  rintro e w' ⟨rfl, hD⟩
  exact ⟨rfl, two_rdone hD h1 h3 h4 (by omega) hN⟩
end
section
variable {A : Nat → Prop} {N : Nat} {w : World} {s m : Nat} {p r : PS} (h : Two A N w s p m r)
include h
theorem two_read (t : ByteArray) (ht : t.size ≤ 1000000) : Calls Tryz.prog 13 #[.pointer (some ⟨s, 0, none⟩), .string t] w fun e w' => ∃ ad cap, e = .returned (.tuple #[.slice ad (pBytes (nm t) p).length cap, .int .i64 (finds p (nm t) : Nat)]) ∧ OwnB w' (.slice ad (pBytes (nm t) p).length cap) (pBytes (nm t) p) ∧ Two A N w' s p m r ∧ Kp No w w' := by
  have h' := h
  obtain ⟨P, Q, h1, h2, h3, h4⟩ := h
  refine (read_any w s p t ht h1).mono ?_
  rintro e w' ⟨ad, cap, rfl, ho, hn, hk⟩
  exact ⟨ad, cap, rfl, ho, h'.kept hk, hk⟩
theorem two_size (t : ByteArray) (ht : t.size ≤ 1000000) : Calls Tryz.prog 28 #[.pointer (some ⟨s, 0, none⟩), .string t] w fun e w' => e = .returned (.tuple #[.int .i64 ((pBytes (nm t) p).length : Nat), .int .i64 (finds p (nm t) : Nat)]) ∧ Two A N w' s p m r ∧ Kp No w w' := by
  have h' := h
  obtain ⟨P, Q, h1, h2, h3, h4⟩ := h
  refine (size_any w s p t ht h1).mono ?_
  rintro e w' ⟨rfl, hk⟩
  exact ⟨rfl, h'.kept hk, hk⟩
theorem two_rread (t : ByteArray) (ht : t.size ≤ 1000000) : Calls Tryz.prog 27 #[.pointer (some ⟨m, 0, none⟩), .string t] w fun e w' => ∃ ad cap Q, e = .returned (.tuple #[.slice ad (pBytes (nm t) r).length cap, .int .i64 (finds r (nm t) : Nat)]) ∧ ByP Q w' (.slice ad (pBytes (nm t) r).length cap) (pBytes (nm t) r) ∧ Two A N w' s p m r ∧ Kp No w w' := by
  have h' := h
  obtain ⟨P, Q, h1, h2, h3, h4⟩ := h
  refine (rread_any w m r t ht h2).mono ?_
  rintro e w' ⟨ad, cap, rfl, hb, hk⟩
  exact ⟨ad, cap, Q, rfl, hb, h'.kept hk, hk⟩
theorem two_down : Calls Tryz.prog 45 #[.pointer (some ⟨s, 0, none⟩)] w fun e w' => e = .returned (.bool p.down) ∧ w' = w := by
  obtain ⟨P, Q, h1, h2, h3, h4⟩ := h
  exact down_any w s p h1
theorem two_steps : Calls Tryz.prog 46 #[.pointer (some ⟨s, 0, none⟩)] w fun e w' => e = .returned (.int .i64 (p.steps : Nat)) ∧ w' = w := by
  obtain ⟨P, Q, h1, h2, h3, h4⟩ := h
  exact steps_any w s p h1
end

end Go.Proofs.YtmiipifhbliamaaGreat.Sim
