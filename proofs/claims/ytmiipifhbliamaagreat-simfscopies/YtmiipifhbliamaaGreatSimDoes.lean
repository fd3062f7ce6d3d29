/-
  The statements' own Step: a call of both systems, kind by kind.
-/
import Derived.Test.YtmiipifhbliamaaGreatSimTwo
import Derived.Deep.RegionHeld3
namespace Go.Proofs.YtmiipifhbliamaaGreat.Sim
open Go.RowKit Go.Maps

theorem cast_beq (a b : Nat) : ((a : Int) == (b : Int)) = (a == b) := by
  by_cases h : a = b
  · subst h; rw [beq_self_eq_true, beq_self_eq_true]
  · rw [beq_eq_false_iff_ne.2 h, beq_eq_false_iff_ne.2 (by omega)]
/-- An op in its box: the cells stay while what A has is kept. -/
theorem box_cells {A : Nat → Prop} {w W : World} {s m N : Nat} {p r : PS} (h : Two A N w s p m r) (cs : List Value) (t : TypeId) (hW : w.alloc (.cells cs.toArray t) = W) :
    Two (fun x => A x ∨ x = w.heap.size) N W s p m r ∧ Keeps A w W ∧ ∀ V, Keeps (fun x => A x ∨ x = w.heap.size) W V → ∀ j, V.cell? ⟨w.heap.size, j, none⟩ = cs[j]? := by
  subst hW
  refine ⟨h.alloc _, Keeps.ofNo ((Kp.refl _ _).alloc _), fun V k j => ?_⟩
  rw [k.cell (by simp) (.inr rfl)]
  exact (Blk.new w t cs).cell j

set_option maxHeartbeats 4000000 in
set_option maxRecDepth 100000 in
theorem step0 {A : Nat → Prop} {N : Nat} {w : World} {s m : Nat} {p r : PS} (h : Two A N w s p m r) (hN : N + 2 ≤ 1000) (n t : ByteArray) (vB vC : Value) (z : Int) (y : Nat) (hn : n.size ≤ 1000000) :
    Calls Tryz.prog 10 #[.pointer (some ⟨s, 0, none⟩), .pointer (some ⟨m, 0, none⟩), .agg #[.int .i64 0, .string n, .string t, vB, .int .i64 z, .int .u8 (y : Int), vC]] w fun e w' => ∃ b d, p.files b = none ∧ r.files d = none ∧ e = .returned (.bool ((pCreate (nm n) b p).1 == (pCreate (nm n) d r).1)) ∧ Two A (N + 2) w' s (pCreate (nm n) b p).2 m (pCreate (nm n) d r).2 ∧ Keeps A w w' := by
  obtain ⟨W, hW⟩ : ∃ W, w.alloc (.cells #[.int .i64 0, .string n, .string t, vB, .int .i64 z, .int .u8 (y : Int), vC] 35) = W := ⟨_, rfl⟩
  obtain ⟨hT, hK, hC⟩ := box_cells h [.int .i64 0, .string n, .string t, vB, .int .i64 z, .int .u8 (y : Int), vC] _ hW
  have c0 := hC W (Keeps.refl _ _) 0
  have r1 := fun V k => hC V k 1
  simp only [List.getElem?_cons_zero, List.getElem?_cons_succ] at c0 r1
  have HLA : Hid (∀ x, A x → (fun x => A x ∨ x = w.heap.size) x) := fun x hx => .inl hx
  generalize (fun x => A x ∨ x = w.heap.size) = A' at *
  have HT := hid hT
  have HK := hid hK
  clear h hT hK hC
  go_enter Tryz.func10, Tryz.ntmps10
  go_wp2_with fail
  go_region_held3 (fun V => Keeps A' W V) (first | (with_reducible exact (Keeps.refl _ _).drew) | (with_reducible exact K3.out) | (with_reducible exact K2.out)) (first | (go_at_call 14; refine (two_create (HT.out.kept ((Kp.refl _ _).drew)) (by omega) n hn).mono ?_; rintro e w2 ⟨b, hb, rfl, h2, k2⟩; have HB := hid hb; have H2 := hid h2; have K2 : Hid (Keeps A' W w2) := ((Keeps.refl _ _).drew).trans k2; clear hb h2 k2) | (go_at_call 25; refine (two_rcreate H2.out (by omega) n hn).mono ?_; rintro e w3 ⟨d, hd, rfl, h3, k3⟩; have HD := hid hd; have H3 := hid h3; have K3 : Hid (Keeps A' W w3) := K2.out.trans k3; clear hd h3 k3))
  go_wp2
  go_ret
  exact ⟨b, d, HB.out, HD.out, (by rw [cast_beq]; rfl), H3.out.less HLA.out, HK.out.trans (K3.out.less HLA.out)⟩

set_option maxHeartbeats 4000000 in
set_option maxRecDepth 100000 in
theorem step1 {A : Nat → Prop} {N : Nat} {w : World} {s m : Nat} {p r : PS} (h : Two A N w s p m r) (hN : N + 2 ≤ 1000) (n t : ByteArray) (vB vC : Value) (z : Int) (y : Nat) (hn : n.size ≤ 1000000) (ys : List Nat) (hy : ByP A w vB ys) (hl : ys.length ≤ 200) :
    Calls Tryz.prog 10 #[.pointer (some ⟨s, 0, none⟩), .pointer (some ⟨m, 0, none⟩), .agg #[.int .i64 1, .string n, .string t, vB, .int .i64 z, .int .u8 (y : Int), vC]] w fun e w' => e = .returned (.bool ((pAppend (nm n) ys p).1 == (pAppend (nm n) ys r).1)) ∧ Two A (N + 2) w' s (pAppend (nm n) ys p).2 m (pAppend (nm n) ys r).2 ∧ Keeps A w w' := by
  obtain ⟨W, hW⟩ : ∃ W, w.alloc (.cells #[.int .i64 1, .string n, .string t, vB, .int .i64 z, .int .u8 (y : Int), vC] 35) = W := ⟨_, rfl⟩
  obtain ⟨hT, hK, hC⟩ := box_cells h [.int .i64 1, .string n, .string t, vB, .int .i64 z, .int .u8 (y : Int), vC] _ hW
  have c0 := hC W (Keeps.refl _ _) 0
  have r1 := fun V k => hC V k 1
  have r3 := fun V k => hC V k 3
  simp only [List.getElem?_cons_zero, List.getElem?_cons_succ] at c0 r1 r3
  have HLA : Hid (∀ x, A x → (fun x => A x ∨ x = w.heap.size) x) := fun x hx => .inl hx
  generalize (fun x => A x ∨ x = w.heap.size) = A' at *
  have HT := hid hT
  have HK := hid hK
  obtain ⟨va, vl, vc, hv⟩ : ∃ a l c, vB = .slice a l c := by obtain ⟨a, c, e, _⟩ := hy; exact ⟨a, _, c, e⟩
  subst hv
  have HY : Hid (ByP A' W (.slice va vl vc) ys) := (hy.keeps hK).mono (fun x _ hx => HLA.out x hx)
  clear hy
  clear h hT hK hC
  go_enter Tryz.func10, Tryz.ntmps10
  go_wp2_with fail
  go_region_held3 (fun V => Keeps A' W V) (first | (with_reducible exact (Keeps.refl _ _).drew) | (with_reducible exact K3.out) | (with_reducible exact K2.out)) (first | (go_at_call 15; refine (two_append (HT.out.kept ((Kp.refl _ _).drew)) (by omega) n hn (.slice va vl vc) ys (HY.out.keeps ((Keeps.refl _ _).drew)) hl).mono ?_; rintro e w2 ⟨rfl, h2, k2⟩; have H2 := hid h2; have K2 : Hid (Keeps A' W w2) := ((Keeps.refl _ _).drew).trans k2; clear h2 k2) | (go_at_call 26; refine (two_rappend H2.out (by omega) n hn (.slice va vl vc) ys (HY.out.keeps K2.out) hl).mono ?_; rintro e w3 ⟨rfl, h3, k3⟩; have H3 := hid h3; have K3 : Hid (Keeps A' W w3) := K2.out.trans k3; clear h3 k3))
  go_wp2
  go_ret
  exact ⟨(by rw [cast_beq]; rfl), H3.out.less HLA.out, HK.out.trans (K3.out.less HLA.out)⟩

set_option maxHeartbeats 4000000 in
set_option maxRecDepth 100000 in
theorem step3 {A : Nat → Prop} {N : Nat} {w : World} {s m : Nat} {p r : PS} (h : Two A N w s p m r) (hN : N + 2 ≤ 1000) (n t : ByteArray) (vB vC : Value) (z : Int) (y : Nat) (hn : n.size ≤ 1000000) (ht : t.size ≤ 1000000) :
    Calls Tryz.prog 10 #[.pointer (some ⟨s, 0, none⟩), .pointer (some ⟨m, 0, none⟩), .agg #[.int .i64 3, .string n, .string t, vB, .int .i64 z, .int .u8 (y : Int), vC]] w fun e w' => e = .returned (.bool ((pRename (nm n) (nm t) p).1 == (pRename (nm n) (nm t) r).1)) ∧ Two A (N + 2) w' s (pRename (nm n) (nm t) p).2 m (pRename (nm n) (nm t) r).2 ∧ Keeps A w w' := by
  obtain ⟨W, hW⟩ : ∃ W, w.alloc (.cells #[.int .i64 3, .string n, .string t, vB, .int .i64 z, .int .u8 (y : Int), vC] 35) = W := ⟨_, rfl⟩
  obtain ⟨hT, hK, hC⟩ := box_cells h [.int .i64 3, .string n, .string t, vB, .int .i64 z, .int .u8 (y : Int), vC] _ hW
  have c0 := hC W (Keeps.refl _ _) 0
  have r1 := fun V k => hC V k 1
  have r2 := fun V k => hC V k 2
  simp only [List.getElem?_cons_zero, List.getElem?_cons_succ] at c0 r1 r2
  have HLA : Hid (∀ x, A x → (fun x => A x ∨ x = w.heap.size) x) := fun x hx => .inl hx
  generalize (fun x => A x ∨ x = w.heap.size) = A' at *
  have HT := hid hT
  have HK := hid hK
  clear h hT hK hC
  go_enter Tryz.func10, Tryz.ntmps10
  go_wp2_with fail
  go_region_held3 (fun V => Keeps A' W V) (first | (with_reducible exact (Keeps.refl _ _).drew) | (with_reducible exact K3.out) | (with_reducible exact K2.out)) (first | (go_at_call 30; refine (two_rename (HT.out.kept ((Kp.refl _ _).drew)) (by omega) n t hn ht).mono ?_; rintro e w2 ⟨rfl, h2, k2⟩; have H2 := hid h2; have K2 : Hid (Keeps A' W w2) := ((Keeps.refl _ _).drew).trans k2; clear h2 k2) | (go_at_call 31; refine (two_rrename H2.out (by omega) n t hn ht).mono ?_; rintro e w3 ⟨rfl, h3, k3⟩; have H3 := hid h3; have K3 : Hid (Keeps A' W w3) := K2.out.trans k3; clear h3 k3))
  go_wp2
  go_ret
  exact ⟨(by rw [cast_beq]; rfl), H3.out.less HLA.out, HK.out.trans (K3.out.less HLA.out)⟩

set_option maxHeartbeats 4000000 in
set_option maxRecDepth 100000 in
theorem step4 {A : Nat → Prop} {N : Nat} {w : World} {s m : Nat} {p r : PS} (h : Two A N w s p m r) (hN : N + 2 ≤ 1000) (n t : ByteArray) (vB vC : Value) (z : Int) (y : Nat) (hn : n.size ≤ 1000000) :
    Calls Tryz.prog 10 #[.pointer (some ⟨s, 0, none⟩), .pointer (some ⟨m, 0, none⟩), .agg #[.int .i64 4, .string n, .string t, vB, .int .i64 z, .int .u8 (y : Int), vC]] w fun e w' => e = .returned (.bool ((pRemove (nm n) p).1 == (pRemove (nm n) r).1)) ∧ Two A (N + 2) w' s (pRemove (nm n) p).2 m (pRemove (nm n) r).2 ∧ Keeps A w w' := by
  obtain ⟨W, hW⟩ : ∃ W, w.alloc (.cells #[.int .i64 4, .string n, .string t, vB, .int .i64 z, .int .u8 (y : Int), vC] 35) = W := ⟨_, rfl⟩
  obtain ⟨hT, hK, hC⟩ := box_cells h [.int .i64 4, .string n, .string t, vB, .int .i64 z, .int .u8 (y : Int), vC] _ hW
  have c0 := hC W (Keeps.refl _ _) 0
  have r1 := fun V k => hC V k 1
  simp only [List.getElem?_cons_zero, List.getElem?_cons_succ] at c0 r1
  have HLA : Hid (∀ x, A x → (fun x => A x ∨ x = w.heap.size) x) := fun x hx => .inl hx
  generalize (fun x => A x ∨ x = w.heap.size) = A' at *
  have HT := hid hT
  have HK := hid hK
  clear h hT hK hC
  go_enter Tryz.func10, Tryz.ntmps10
  go_wp2_with fail
  go_region_held3 (fun V => Keeps A' W V) (first | (with_reducible exact (Keeps.refl _ _).drew) | (with_reducible exact K3.out) | (with_reducible exact K2.out)) (first | (go_at_call 32; refine (two_remove (HT.out.kept ((Kp.refl _ _).drew)) (by omega) n hn).mono ?_; rintro e w2 ⟨rfl, h2, k2⟩; have H2 := hid h2; have K2 : Hid (Keeps A' W w2) := ((Keeps.refl _ _).drew).trans k2; clear h2 k2) | (go_at_call 33; refine (two_rremove H2.out (by omega) n hn).mono ?_; rintro e w3 ⟨rfl, h3, k3⟩; have H3 := hid h3; have K3 : Hid (Keeps A' W w3) := K2.out.trans k3; clear h3 k3))
  go_wp2
  go_ret
  exact ⟨(by rw [cast_beq]; rfl), H3.out.less HLA.out, HK.out.trans (K3.out.less HLA.out)⟩

set_option maxHeartbeats 4000000 in
set_option maxRecDepth 100000 in
theorem step5 {A : Nat → Prop} {N : Nat} {w : World} {s m : Nat} {p r : PS} (h : Two A N w s p m r) (hN : N + 2 ≤ 1000) (n t : ByteArray) (vB vC : Value) (z : Int) (y : Nat) (hn : n.size ≤ 1000000) :
    Calls Tryz.prog 10 #[.pointer (some ⟨s, 0, none⟩), .pointer (some ⟨m, 0, none⟩), .agg #[.int .i64 5, .string n, .string t, vB, .int .i64 z, .int .u8 (y : Int), vC]] w fun e w' => e = .returned (.bool ((pFsync (nm n) p).1 == (pFsync (nm n) r).1)) ∧ Two A (N + 2) w' s (pFsync (nm n) p).2 m (pFsync (nm n) r).2 ∧ Keeps A w w' := by
  obtain ⟨W, hW⟩ : ∃ W, w.alloc (.cells #[.int .i64 5, .string n, .string t, vB, .int .i64 z, .int .u8 (y : Int), vC] 35) = W := ⟨_, rfl⟩
  obtain ⟨hT, hK, hC⟩ := box_cells h [.int .i64 5, .string n, .string t, vB, .int .i64 z, .int .u8 (y : Int), vC] _ hW
  have c0 := hC W (Keeps.refl _ _) 0
  have r1 := fun V k => hC V k 1
  simp only [List.getElem?_cons_zero, List.getElem?_cons_succ] at c0 r1
  have HLA : Hid (∀ x, A x → (fun x => A x ∨ x = w.heap.size) x) := fun x hx => .inl hx
  generalize (fun x => A x ∨ x = w.heap.size) = A' at *
  have HT := hid hT
  have HK := hid hK
  clear h hT hK hC
  go_enter Tryz.func10, Tryz.ntmps10
  go_wp2_with fail
  go_region_held3 (fun V => Keeps A' W V) (first | (with_reducible exact (Keeps.refl _ _).drew) | (with_reducible exact K3.out) | (with_reducible exact K2.out)) (first | (go_at_call 16; refine (two_fsync (HT.out.kept ((Kp.refl _ _).drew)) (by omega) n hn).mono ?_; rintro e w2 ⟨rfl, h2, k2⟩; have H2 := hid h2; have K2 : Hid (Keeps A' W w2) := ((Keeps.refl _ _).drew).trans k2; clear h2 k2) | (go_at_call 34; refine (two_rfsync H2.out (by omega) n hn).mono ?_; rintro e w3 ⟨rfl, h3, k3⟩; have H3 := hid h3; have K3 : Hid (Keeps A' W w3) := K2.out.trans k3; clear h3 k3))
  go_wp2
  go_ret
  exact ⟨(by rw [cast_beq]; rfl), H3.out.less HLA.out, HK.out.trans (K3.out.less HLA.out)⟩

set_option maxHeartbeats 4000000 in
set_option maxRecDepth 100000 in
theorem step7 {A : Nat → Prop} {N : Nat} {w : World} {s m : Nat} {p r : PS} (h : Two A N w s p m r) (hN : N + 2 ≤ 1000) (n t : ByteArray) (vB vC : Value) (z : Int) (y : Nat) (hz : z ≤ 9223372036854775807) :
    Calls Tryz.prog 10 #[.pointer (some ⟨s, 0, none⟩), .pointer (some ⟨m, 0, none⟩), .agg #[.int .i64 7, .string n, .string t, vB, .int .i64 z, .int .u8 (y : Int), vC]] w fun e w' => e = .returned (.bool ((pArm z p).1 == (pArm z r).1)) ∧ Two A (N + 2) w' s (pArm z p).2 m (pArm z r).2 ∧ Keeps A w w' := by
  obtain ⟨W, hW⟩ : ∃ W, w.alloc (.cells #[.int .i64 7, .string n, .string t, vB, .int .i64 z, .int .u8 (y : Int), vC] 35) = W := ⟨_, rfl⟩
  obtain ⟨hT, hK, hC⟩ := box_cells h [.int .i64 7, .string n, .string t, vB, .int .i64 z, .int .u8 (y : Int), vC] _ hW
  have c0 := hC W (Keeps.refl _ _) 0
  have r4 := fun V k => hC V k 4
  simp only [List.getElem?_cons_zero, List.getElem?_cons_succ] at c0 r4
  have HLA : Hid (∀ x, A x → (fun x => A x ∨ x = w.heap.size) x) := fun x hx => .inl hx
  generalize (fun x => A x ∨ x = w.heap.size) = A' at *
  have HT := hid hT
  have HK := hid hK
  clear h hT hK hC
  go_enter Tryz.func10, Tryz.ntmps10
  go_wp2_with fail
  go_region_held3 (fun V => Keeps A' W V) (first | (with_reducible exact (Keeps.refl _ _).drew) | (with_reducible exact K3.out) | (with_reducible exact K2.out)) (first | (go_at_call 36; refine (two_arm (HT.out.kept ((Kp.refl _ _).drew)) (by omega) z hz).mono ?_; rintro e w2 ⟨rfl, h2, k2⟩; have H2 := hid h2; have K2 : Hid (Keeps A' W w2) := ((Keeps.refl _ _).drew).trans k2; clear h2 k2) | (go_at_call 37; refine (two_rarm H2.out (by omega) z hz).mono ?_; rintro e w3 ⟨rfl, h3, k3⟩; have H3 := hid h3; have K3 : Hid (Keeps A' W w3) := K2.out.trans k3; clear h3 k3))
  go_wp2
  go_ret
  exact ⟨(by rw [cast_beq]; rfl), H3.out.less HLA.out, HK.out.trans (K3.out.less HLA.out)⟩

set_option maxHeartbeats 4000000 in
set_option maxRecDepth 100000 in
theorem step9 {A : Nat → Prop} {N : Nat} {w : World} {s m : Nat} {p r : PS} (h : Two A N w s p m r) (hN : N + 2 ≤ 1000) (n t : ByteArray) (vB vC : Value) (z : Int) (y : Nat) (hn : n.size ≤ 1000000) (hy : y < 256) :
    Calls Tryz.prog 10 #[.pointer (some ⟨s, 0, none⟩), .pointer (some ⟨m, 0, none⟩), .agg #[.int .i64 9, .string n, .string t, vB, .int .i64 z, .int .u8 (y : Int), vC]] w fun e w' => e = .returned (.bool ((pFlip (nm n) z y p).1 == (pFlip (nm n) z y r).1)) ∧ Two A (N + 2) w' s (pFlip (nm n) z y p).2 m (pFlip (nm n) z y r).2 ∧ Keeps A w w' := by
  obtain ⟨W, hW⟩ : ∃ W, w.alloc (.cells #[.int .i64 9, .string n, .string t, vB, .int .i64 z, .int .u8 (y : Int), vC] 35) = W := ⟨_, rfl⟩
  obtain ⟨hT, hK, hC⟩ := box_cells h [.int .i64 9, .string n, .string t, vB, .int .i64 z, .int .u8 (y : Int), vC] _ hW
  have c0 := hC W (Keeps.refl _ _) 0
  have r1 := fun V k => hC V k 1
  have r4 := fun V k => hC V k 4
  have r5 := fun V k => hC V k 5
  simp only [List.getElem?_cons_zero, List.getElem?_cons_succ] at c0 r1 r4 r5
  have HLA : Hid (∀ x, A x → (fun x => A x ∨ x = w.heap.size) x) := fun x hx => .inl hx
  generalize (fun x => A x ∨ x = w.heap.size) = A' at *
  have HT := hid hT
  have HK := hid hK
  clear h hT hK hC
  go_enter Tryz.func10, Tryz.ntmps10
  go_wp2_with fail
  go_region_held3 (fun V => Keeps A' W V) (first | (with_reducible exact (Keeps.refl _ _).drew) | (with_reducible exact K3.out) | (with_reducible exact K2.out)) (first | (go_at_call 39; refine (two_flip (HT.out.kept ((Kp.refl _ _).drew)) (by omega) n hn z y hy).mono ?_; rintro e w2 ⟨rfl, h2, k2⟩; have H2 := hid h2; have K2 : Hid (Keeps A' W w2) := ((Keeps.refl _ _).drew).trans k2; clear h2 k2) | (go_at_call 40; refine (two_rflip H2.out (by omega) n hn z y hy).mono ?_; rintro e w3 ⟨rfl, h3, k3⟩; have H3 := hid h3; have K3 : Hid (Keeps A' W w3) := K2.out.trans k3; clear h3 k3))
  go_wp2
  go_ret
  exact ⟨(by rw [cast_beq]; rfl), H3.out.less HLA.out, HK.out.trans (K3.out.less HLA.out)⟩

end Go.Proofs.YtmiipifhbliamaaGreat.Sim
