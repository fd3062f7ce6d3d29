/-
  The statements' own Step, the kinds that are left: Read, SyncDir, and what is no call.
-/
import Derived.Test.YtmiipifhbliamaaGreatSimDoes
import Derived.Test.YtmiipifhbliamaaGreatSimOpen
namespace Go.Proofs.YtmiipifhbliamaaGreat.Sim
open Go.RowKit Go.Maps

theorem sys_bytes {P : Nat → Prop} {N : Nat} {w : World} {s : Nat} {p : PS} (h : Sys P N w s p) (n : Nm) : (∀ x ∈ pBytes n p, x < 256) ∧ (pBytes n p).length ≤ 200000 := by
  have hI := h.inv
  obtain ⟨vs, vf, vc, u, hR⟩ := h
  unfold pBytes
  by_cases h0 : finds p n = 0
  · obtain ⟨hw, b, hb⟩ := finds_zero h0
    have hf := hI.hasFound hb
    have e : blockOf p n = b := by simp [blockOf, hb]
    rw [if_neg (by simp [h0]), e]
    exact ⟨(hR.file b _ hf).2.1.byt, by have := hI.lfile b _ hf; have := hI.big; omega⟩
  · rw [if_pos h0]
    exact ⟨by simp, by simp⟩

set_option maxHeartbeats 4000000 in
set_option maxRecDepth 100000 in
theorem step6 {A : Nat → Prop} {N : Nat} {w : World} {s m : Nat} {p r : PS} (h : Two A N w s p m r) (hN : N + 2 ≤ 1000) (n t : ByteArray) (vB vC : Value) (z : Int) (y : Nat) :
    Calls Tryz.prog 10 #[.pointer (some ⟨s, 0, none⟩), .pointer (some ⟨m, 0, none⟩), .agg #[.int .i64 6, .string n, .string t, vB, .int .i64 z, .int .u8 (y : Int), vC]] w fun e w' => e = .returned (.bool ((pSyncDir p).1 == (pSyncDir r).1)) ∧ Two A (N + 2) w' s (pSyncDir p).2 m (pSyncDir r).2 ∧ Keeps A w w' := by
  obtain ⟨W, hW⟩ : ∃ W, w.alloc (.cells #[.int .i64 6, .string n, .string t, vB, .int .i64 z, .int .u8 (y : Int), vC] 35) = W := ⟨_, rfl⟩
  obtain ⟨hT, hK, hC⟩ := box_cells h [.int .i64 6, .string n, .string t, vB, .int .i64 z, .int .u8 (y : Int), vC] _ hW
  have c0 := hC W (Keeps.refl _ _) 0
  simp only [List.getElem?_cons_zero] at c0
  have HT := hid (hT.less (A' := A) (fun x hx => .inl hx))
  have HK := hid hK
  clear h hT hK hC
  go_enter Tryz.func10, Tryz.ntmps10
  go_wp2_with fail
  refine (two_syncdir HT.out (by omega)).mono ?_
  rintro e w2 ⟨rfl, h2, k2⟩
  have H2 := hid h2
  have K2 := hid (HK.out.trans k2)
  clear h2 k2
  go_wp2_with fail
  refine (two_rsyncdir H2.out (by omega)).mono ?_
  rintro e w3 ⟨rfl, h3, k3⟩
  have H3 := hid h3
  have K3 := hid (K2.out.trans k3)
  clear h3 k3
  go_wp2
  go_ret
  exact ⟨(by rw [cast_beq]; rfl), H3.out, K3.out⟩

set_option maxHeartbeats 4000000 in
set_option maxRecDepth 100000 in
theorem stepO {A : Nat → Prop} {N : Nat} {w : World} {s m : Nat} {p r : PS} (h : Two A N w s p m r) (hN : N + 2 ≤ 1000) (k : Int) (hk : k < 0 ∨ 9 < k) (n t : ByteArray) (vB vC : Value) (z : Int) (y : Nat) :
    Calls Tryz.prog 10 #[.pointer (some ⟨s, 0, none⟩), .pointer (some ⟨m, 0, none⟩), .agg #[.int .i64 k, .string n, .string t, vB, .int .i64 z, .int .u8 (y : Int), vC]] w fun e w' => e = .returned (.bool true) ∧ Two A (N + 2) w' s p m r ∧ Keeps A w w' := by
  obtain ⟨W, hW⟩ : ∃ W, w.alloc (.cells #[.int .i64 k, .string n, .string t, vB, .int .i64 z, .int .u8 (y : Int), vC] 35) = W := ⟨_, rfl⟩
  obtain ⟨hT, hK, hC⟩ := box_cells h [.int .i64 k, .string n, .string t, vB, .int .i64 z, .int .u8 (y : Int), vC] _ hW
  have c0 := hC W (Keeps.refl _ _) 0
  simp only [List.getElem?_cons_zero] at c0
  have HT := hid ((hT.less (A' := A) (fun x hx => .inl hx)).more (M := N + 2) (by omega) hN)
  have HK := hid hK
  have n0 : (k == 0) = false := by rw [beq_eq_false_iff_ne]; omega
  have n1 : (k == 1) = false := by rw [beq_eq_false_iff_ne]; omega
  have n2 : (k == 2) = false := by rw [beq_eq_false_iff_ne]; omega
  have n3 : (k == 3) = false := by rw [beq_eq_false_iff_ne]; omega
  have n4 : (k == 4) = false := by rw [beq_eq_false_iff_ne]; omega
  have n5 : (k == 5) = false := by rw [beq_eq_false_iff_ne]; omega
  have n6 : (k == 6) = false := by rw [beq_eq_false_iff_ne]; omega
  have n7 : (k == 7) = false := by rw [beq_eq_false_iff_ne]; omega
  have n8 : (k == 8) = false := by rw [beq_eq_false_iff_ne]; omega
  have n9 : (k == 9) = false := by rw [beq_eq_false_iff_ne]; omega
  clear h hT hK hC hk
  go_enter Tryz.func10, Tryz.ntmps10
  go_wp2
  go_ret
  exact ⟨rfl, HT.out, HK.out⟩

set_option maxHeartbeats 4000000 in
set_option maxRecDepth 100000 in
theorem step2 {A : Nat → Prop} {N : Nat} {w : World} {s m : Nat} {p r : PS} (h : Two A N w s p m r) (hN : N + 2 ≤ 1000) (n t : ByteArray) (vB vC : Value) (z : Int) (y : Nat) (hn : n.size ≤ 1000000) :
    Calls Tryz.prog 10 #[.pointer (some ⟨s, 0, none⟩), .pointer (some ⟨m, 0, none⟩), .agg #[.int .i64 2, .string n, .string t, vB, .int .i64 z, .int .u8 (y : Int), vC]] w fun e w' => e = .returned (.bool (decide (pBytes (nm n) p = pBytes (nm n) r) && (finds p (nm n) == finds r (nm n)))) ∧ Two A (N + 2) w' s p m r ∧ Keeps A w w' := by
  obtain ⟨W, hW⟩ : ∃ W, w.alloc (.cells #[.int .i64 2, .string n, .string t, vB, .int .i64 z, .int .u8 (y : Int), vC] 35) = W := ⟨_, rfl⟩
  obtain ⟨hT, hK, hC⟩ := box_cells h [.int .i64 2, .string n, .string t, vB, .int .i64 z, .int .u8 (y : Int), vC] _ hW
  have c0 := hC W (Keeps.refl _ _) 0
  have c1 := hC W (Keeps.refl _ _) 1
  have r1 := fun V k => hC V k 1
  simp only [List.getElem?_cons_zero, List.getElem?_cons_succ] at c0 c1 r1
  have R1 := hid r1
  have hbp : (∀ x ∈ pBytes (nm n) p, x < 256) ∧ (pBytes (nm n) p).length ≤ 200000 := by
    obtain ⟨P, Q, h1, _⟩ := h
    exact sys_bytes h1 (nm n)
  have HBP := hid hbp
  have HLA : Hid (∀ x, A x → (fun x => A x ∨ x = w.heap.size) x) := fun x hx => .inl hx
  have HT := hid hT
  have HK := hid hK
  generalize (fun x => A x ∨ x = w.heap.size) = A' at *
  obtain ⟨B, hB⟩ : ∃ B, (decide (pBytes (nm n) p = pBytes (nm n) r) && (finds p (nm n) == finds r (nm n))) = B := ⟨_, rfl⟩
  rw [hB]
  have HBE := hid hB
  clear h hT hK hC r1 hbp hB
  go_enter Tryz.func10, Tryz.ntmps10
  go_wp2_with fail
  refine (two_read HT.out n hn).mono ?_
  rintro e w2 ⟨a1, p1, rfl, ho, h2, k2⟩
  have HO := hid ho
  have H2 := hid h2
  have K2 : Hid (Keeps A' W w2) := Keeps.ofNo k2
  have c12 := R1.out w2 K2.out
  clear ho h2 k2 c1
  go_wp2_with fail
  refine (two_rread H2.out n hn).mono ?_
  rintro e w3 ⟨a2, p2, Q, rfl, hb, h3, k3⟩
  have HB := hid hb
  have H3 := hid h3
  have K3 : Hid (Keeps A' W w3) := K2.out.none k3
  have HO3 : Hid (OwnB w3 (.slice a1 (pBytes (nm n) p).length p1) (pBytes (nm n) p)) := HO.out.row.kp k3 (fun _ _ h => h)
  have c13 := R1.out w3 K3.out
  clear hb h3 k3 c12 HO
  go_wp2_with fail
  refine (two_size H3.out n hn).mono ?_
  rintro e w4 ⟨rfl, h4, k4⟩
  have H4 := hid h4
  have K4 : Hid (Keeps A' W w4) := K3.out.none k4
  have HO4 : Hid (OwnB w4 (.slice a1 (pBytes (nm n) p).length p1) (pBytes (nm n) p)) := HO3.out.row.kp k4 (fun _ _ h => h)
  have HB4 : Hid (ByP Q w4 (.slice a2 (pBytes (nm n) r).length p2) (pBytes (nm n) r)) := HB.out.kept k4
  have HX4 : Hid (ByP (fun _ => True) w4 (.slice a1 (pBytes (nm n) p).length p1) (pBytes (nm n) p)) := HO4.out.byP (fun _ _ => trivial) (by have := HBP.out.2; omega) HBP.out.1
  clear h4 k4 c13 HO3 HB HO4
  generalize pBytes (nm n) p = xs at *
  generalize pBytes (nm n) r = ys at *
  generalize finds p (nm n) = F at *
  generalize finds r (nm n) = G at *
  have hfin : Hid (∀ w5, Kp No w4 w5 → Two A (N + 2) w5 s p m r ∧ Keeps A w w5) := fun w5 k5 => ⟨((H4.out.kept k5).less HLA.out).more (by omega) hN, (HK.out.trans (K4.out.less HLA.out)).none k5⟩
  by_cases e1 : xs = ys
  · subst e1
    by_cases e2 : F = G
    · subst e2
      go_wp2_with fail
      refine (qbytes_any _ _ xs xs w4 HX4.out HB4.out).mono ?_
      rintro e w5 ⟨rfl, k5⟩
      have K5 := hid k5
      clear k5
      go_wp2
      go_ret
      exact ⟨by rw [← HBE.out]; simp, hfin.out _ K5.out⟩
    · have e2' : (F == G) = false := by rw [beq_eq_false_iff_ne]; exact e2
      have e2'' : ((F : Int) == (G : Int)) = false := by rw [cast_beq]; exact e2'
      go_wp2_with fail
      refine (qbytes_any _ _ xs xs w4 HX4.out HB4.out).mono ?_
      rintro e w5 ⟨rfl, k5⟩
      have K5 := hid k5
      clear k5
      go_wp2
      go_ret
      exact ⟨by rw [← HBE.out, e2']; simp, hfin.out _ K5.out⟩
  · have d1 : decide (xs = ys) = false := by simp [e1]
    go_wp2_with fail
    refine (qbytes_any _ _ xs ys w4 HX4.out HB4.out).mono ?_
    rintro e w5 ⟨rfl, k5⟩
    rw [d1]
    have K5 := hid k5
    clear k5
    go_wp2
    go_ret
    exact ⟨by rw [← HBE.out, d1]; simp, hfin.out _ K5.out⟩

end Go.Proofs.YtmiipifhbliamaaGreat.Sim
