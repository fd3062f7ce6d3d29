/-
  What the statement on the values that are made comes to, walked.
-/
import Derived.Test.YtnnanmpogjmkiaaAlive
import Derived.Test.YtnnanmpogjmkiaaMakesPlain
namespace Go.Proofs.Ytnnanmpogjmkiaa
open Go.RowKit
attribute [local go_sem ↓] Go.wp_at_zero Go.wp_at_succ

/-- Two values more, behind the append that lays them. -/
theorem CInv.push2 {n base g cap L1 B1 L2 B2 : Nat} {ts : List (Tr n)} {t1 t2 : Tr n} {v sb1 sk1 sb2 sk2 : Value} {ps : List (Value × Value)} {w w' : World} (hl : ps.length = ts.length)
    (hk : ∀ (j : Nat) (t : Tr n) (p : Value × Value), ts[j]? = some t → ps[j]? = some p → ∃ L B, Rep L B w n t p.1 p.2 ∧ base ≤ L ∧ B ≤ w.heap.size ∧ (∀ r, v.ownBlock = some r → r < L ∨ B ≤ r))
    (hr1 : Rep L1 B1 w n t1 sb1 sk1) (hL1 : base ≤ L1) (hB1 : B1 ≤ w.heap.size) (hd1 : ∀ r, v.ownBlock = some r → r < L1 ∨ B1 ≤ r)
    (hr2 : Rep L2 B2 w n t2 sb2 sk2) (hL2 : base ≤ L2) (hB2 : B2 ≤ w.heap.size) (hd2 : ∀ r, v.ownBlock = some r → r < L2 ∨ B2 ≤ r)
    (hown : w'.ownsRow base 29 4 (.slice (some ⟨g, 0, none⟩) (ts.length + 2) cap) (ts.length + 2) (cellsK ts ps ++ (cell4 t1 (sb1, sk1) ++ cell4 t2 (sb2, sk2)))) (hgrow : w.grownBy w' v.ownBlock) (hat : v.ownBlock = some g ∨ g = w.heap.size) :
    CInv base (ts ++ [t1, t2]) (.slice (some ⟨g, 0, none⟩) (ts.length + 2) cap) w' := by
  have old : ∀ {L B : Nat} {t : Tr n} {sb sk : Value}, Rep L B w n t sb sk → base ≤ L → B ≤ w.heap.size → (∀ r, v.ownBlock = some r → r < L ∨ B ≤ r) →
      Rep L B w' n t sb sk ∧ base ≤ L ∧ B ≤ w'.heap.size ∧ (∀ r, (Value.slice (some ⟨g, 0, none⟩) (ts.length + 2) cap).ownBlock = some r → r < L ∨ B ≤ r) := by
    intro L B t sb sk hr hL hB hd
    refine ⟨hr.agree (fun k h1 h2 => hgrow.block k (by omega) (fun e => by have := hd k e.symm; omega)) (Nat.le_refl _) (Nat.le_refl _), hL, by have := hgrow.size; omega, ?_⟩
    intro r e
    simp only [Value.ownBlock, Option.some.injEq] at e
    subst e
    rcases hat with hat | hat
    · exact hd _ hat
    · omega
  refine ⟨ps ++ [(sb1, sk1), (sb2, sk2)], by simp [hl], ?_, ?_⟩
  · have e1 : ts ++ [t1, t2] = (ts ++ [t1]) ++ [t2] := by simp
    have e2 : ps ++ [(sb1, sk1), (sb2, sk2)] = (ps ++ [(sb1, sk1)]) ++ [(sb2, sk2)] := by simp
    rw [e1, e2, cellsK_snoc _ _ _ _ (by simp [hl]), cellsK_snoc _ _ _ _ hl, List.append_assoc]
    simpa using hown
  · intro j t' p hj hp
    by_cases hlt : j < ts.length
    · rw [List.getElem?_append_left hlt] at hj
      rw [List.getElem?_append_left (by omega)] at hp
      obtain ⟨L', B', q⟩ := hk j t' p hj hp
      exact ⟨L', B', old q.1 q.2.1 q.2.2.1 q.2.2.2⟩
    · have hjl := (List.getElem?_eq_some_iff.1 hj).1
      simp at hjl
      rw [List.getElem?_append_right (by omega)] at hj
      rw [List.getElem?_append_right (by omega)] at hp
      have : j = ts.length ∨ j = ts.length + 1 := by omega
      rcases this with rfl | rfl
      · simp [hl] at hj hp
        subst hj hp
        exact ⟨L1, B1, old hr1 hL1 hB1 hd1⟩
      · simp [hl] at hj hp
        subst hj hp
        exact ⟨L2, B2, old hr2 hL2 hB2 hd2⟩

set_option maxHeartbeats 2000000 in
set_option maxRecDepth 100000 in
theorem makes_walk (x : Int) (v : Value) (bs : List Int) (many : Int) (w : World) (hx0 : 0 ≤ x) (hx1 : x ≤ 18446744073709551615) (h : BySl 0 w.heap.size w v bs) (hl : bs.length ≤ 3000) (hm0 : 0 ≤ many) (hm1 : many ≤ 10) :
    Calls Try.prog 7 #[.int .u64 x, v, .int .i64 many] w fun e w' => e = .returned (.bool true) ∧ Below w.heap.size w w' := by
  obtain ⟨M, rfl⟩ := Int.eq_ofNat_of_zero_le hm0
  obtain ⟨a, cap, rfl, hr⟩ := id h
  clear hr
  have H := hid h
  clear h
  obtain ⟨L, hL⟩ : ∃ L, bs.length = L := ⟨_, rfl⟩
  rw [hL] at hl ⊢
  have HL := hid hL
  clear hL
  obtain ⟨i0, hi, hz0, hz1, hz2⟩ := info_parts Try.info29
  have hq1 : decide ((3000 : Int) < L) = false := by simp; omega
  have hq2 : decide ((M : Int) < 0) = false := by simp
  have hq3 : decide ((10 : Int) < M) = false := by simp; omega
  go_enter Try.func7, Try.ntmps7
  go_wp2_with fail
  go_loopw [7, 8] (fun y i wr => ∃ k : Nat, k ≤ M ∧ i = .int .i64 k ∧ Hid (CInv w.heap.size (abs x bs k) y wr ∧ Below w.heap.size w wr)) (fun _ i _ => M - (intOf i).toNat)
  case atStart => exact ⟨0, Nat.zero_le _, rfl, CInv.nil _ _, Below.refl _ _⟩
  case round =>
    obtain ⟨k, hk, rfl, HI⟩ := hrel
    obtain ⟨av, cv, hy⟩ := HI.out.1.form
    rw [abs_length] at hy
    subst hy
    have hws := HI.out.2.size
    have hbsl : Hid (BySl 0 wr.heap.size wr (.slice a L cap) bs) := by rw [Hid, ← HL.out]; exact H.out.agree (Agree.below HI.out.2) (Nat.le_refl _) hws
    by_cases hlt : k < M
    · go_wp2_with fail
      refine (number_any x _).mono ?_
      rintro e w1 ⟨rfl, hb1⟩
      have Hb1 := hid hb1
      have hs1 := hb1.size
      clear hb1
      go_wp2_with fail
      refine (bytes_any _ bs _ (BySl.agree (L' := 0) hbsl.out (Agree.below Hb1.out) (Nat.le_refl _) hs1)).mono ?_
      rintro e w2 ⟨v2, rfl, hv2, hb2⟩
      obtain ⟨a2, c2, rfl, hr2⟩ := id hv2
      clear hr2
      rw [HL.out] at hv2 ⊢
      have Hv2 := hid hv2
      have Hb2 := hid hb2
      have hzz2 := hb2.size
      clear hv2 hb2
      have inv1 : CInv w.heap.size (abs x bs k) (.slice av (2 * k) cv) (w2.alloc (Obj.cells #[Value.int .i64 1, Value.int .u64 x, Value.slice none 0 0, Value.slice none 0 0, Value.int .i64 2, Value.int .u64 0, Value.slice a2 L c2, Value.slice none 0 0] 29)) :=
        HI.out.1.agree (((Agree.below Hb1.out).trans (Agree.below (Hb2.out.mono hs1))).alloc (by omega) _) (by simp; omega)
      have hlt0 := hid HI.out.1.lt
      obtain ⟨ps, hl2, hown, hkid⟩ := inv1
      rw [abs_length] at hown
      have HO := hid hown
      have HKid := hid hkid
      have HL2 := hid hl2
      clear hown hkid hl2
      have hr1 : Hid (Rep w1.heap.size w1.heap.size (w2.alloc (Obj.cells #[Value.int .i64 1, Value.int .u64 x, Value.slice none 0 0, Value.slice none 0 0, Value.int .i64 2, Value.int .u64 0, Value.slice a2 L c2, Value.slice none 0 0] 29)) 1 (tN x) (.slice none 0 0) (.slice none 0 0)) := ⟨hx0, hx1, BySl.none _ _ _, KSl.none _ _ _ _⟩
      have hr2 : Hid (Rep w1.heap.size w2.heap.size (w2.alloc (Obj.cells #[Value.int .i64 1, Value.int .u64 x, Value.slice none 0 0, Value.slice none 0 0, Value.int .i64 2, Value.int .u64 0, Value.slice a2 L c2, Value.slice none 0 0] 29)) 1 (tB bs) (.slice a2 L c2) (.slice none 0 0)) :=
        ⟨(by decide : (0 : Int) ≤ 0), (by decide : (0 : Int) ≤ 18446744073709551615), Hv2.out.agree ((Agree.refl _ _ _).alloc (Nat.le_refl _) _) (Nat.le_refl _) (Nat.le_refl _), KSl.none _ _ _ _⟩
      go_wp2_with (at_builtin; go_must (refine wpList_append_lies _ rfl _ _ 27 rfl w.heap.size 29 i0 _ 4 64 Try.underlying27 hi hz0 hz1 hz2 rfl (by decide) _ (2 * k) (cellsK (abs x bs k) ps) rfl HO.out ⟨w2.heap.size, 0, none⟩ 2 2 (cell4 (tN x) (.slice none 0 0, .slice none 0 0) ++ cell4 (tB bs) (.slice a2 L c2, .slice none 0 0)) rfl rfl ?_ ?_ (by omega) (by unfold maxLen; omega) (by omega) (by simp; omega) (w2.heap.size + 1) (by simp) ?_))
      · exact World.news_of_block (cs := #[Value.int .i64 1, Value.int .u64 x, Value.slice none 0 0, Value.slice none 0 0, Value.int .i64 2, Value.int .u64 0, Value.slice a2 L c2, Value.slice none 0 0]) (t := 29) (fr := (0, 0)) (heap_alloc_new _ _)
      · intro u hu
        simp only [cell4, List.mem_append, List.mem_cons, List.not_mem_nil, or_false] at hu
        rcases hu with (rfl | rfl | rfl | rfl) | (rfl | rfl | rfl | rfl) <;> rfl
      intro g' cap' w3 hown3 hgrow3 hat3 hlt3
      have inv3 : Hid (CInv w.heap.size (abs x bs (k + 1)) (.slice (some ⟨g', 0, none⟩) (2 * k + 2) cap') w3) := by
        have P := CInv.push2 (g := g') (cap := cap') HL2.out HKid.out hr1.out (by omega) (by simp; omega) (fun r e => .inl (by have := (hlt0.out r e).2; omega)) hr2.out (by omega) (by simp) (fun r e => .inl (by have := (hlt0.out r e).2; omega)) (by rw [abs_length]; exact hown3) hgrow3 (by simpa using hat3)
        rw [abs_length] at P
        exact P
      have bel3 : Hid (Below w.heap.size w w3) := (((HI.out.2.trans (Hb1.out.mono hws)).trans (Hb2.out.mono (by omega))).alloc (by omega) _).grown hgrow3 (by simp; omega) (fun r e => (hlt0.out r e).1)
      clear hown3 hgrow3 hat3
      go_wp2_with fail
      go_roundw
      case rel => exact ⟨k + 1, by omega, by go_num, inv3.out, bel3.out⟩
      case measure => simp [intOf]; omega
    · have hkM : k = M := by omega
      subst hkM
      have hK := HI.out.1.done (by rw [abs_length]; omega)
      have HK : Hid (KSl 0 wr.heap.size wr (Rep 0 wr.heap.size wr 1) (.slice av (2 * k) cv) (abs x bs k)) := hK.agree (fun _ _ _ r => r.agree (Agree.refl _ _ _) (Nat.zero_le _) (Nat.le_refl _)) (Agree.refl _ _ _) (Nat.zero_le _) (Nat.le_refl _)
      clear hK
      go_wp2_with fail
      refine (many_any (abs x bs k) _ _ HK.out (by omega)).mono ?_
      rintro e w1 ⟨sb1, sk1, rfl, hr1, hb1⟩
      have hs1 := hb1.size
      have Hb1 : Hid (Below w.heap.size w w1) := HI.out.2.trans (hb1.mono hws)
      have HR1 : Hid (Rep 0 w1.heap.size w1 2 (Tr.mk 3 0 [] (abs x bs k)) sb1 sk1) := hr1.agree (Agree.refl _ _ _) (Nat.zero_le _) (Nat.le_refl _)
      have HBy1 : Hid (BySl 0 w1.heap.size w1 (.slice a L cap) bs) := hbsl.out.agree (Agree.below hb1) (Nat.le_refl _) hs1
      obtain ⟨_, _, ⟨a3, c3, rfl, _⟩, ⟨a4, c4, rfl, _⟩⟩ := hr1
      clear hb1
      rw [show (Tr.mk 3 0 [] (abs x bs k)).hd.2.2.length = 0 from rfl, show (Tr.mk 3 0 [] (abs x bs k)).kd.length = 2 * k from abs_length x bs k] at HR1 ⊢
      go_wp2_with fail
      refine (number_any x _).mono ?_
      rintro e w3 ⟨rfl, hb3⟩
      have Hb3 := hid hb3
      have hs3 := hb3.size
      simp at hs3
      clear hb3
      go_wp2_with fail
      have HBy3 : Hid (BySl 0 w3.heap.size w3 (.slice a L cap) bs) := HBy1.out.agree (((Agree.refl _ _ _).alloc (Nat.le_refl _) _).trans (Agree.below (Hb3.out.mono (by simp)))) (Nat.le_refl _) (by omega)
      refine (bytes_any _ bs _ HBy3.out).mono ?_
      rintro e w4 ⟨v4, rfl, hv4, hb4⟩
      obtain ⟨a5, c5, rfl, hr5⟩ := id hv4
      clear hr5
      rw [HL.out] at hv4 ⊢
      have Hv4 := hid hv4
      have Hb4 := hid hb4
      have hs4 := hb4.size
      have hc4 : ∀ o, w4.cell? ⟨w1.heap.size, o, none⟩ = (w1.alloc (Obj.cells #[Value.int .i64 3, Value.int .u64 0, Value.slice a3 0 c3, Value.slice a4 (2 * k) c4] 29)).cell? ⟨w1.heap.size, o, none⟩ := fun o => (hb4.cell (p := ⟨w1.heap.size, o, none⟩) (by simp; omega)).trans (Hb3.out.cell (p := ⟨w1.heap.size, o, none⟩) (by simp))
      have k0 : w4.cell? ⟨w1.heap.size, 0, none⟩ = some (.int .i64 3) := by rw [hc4]; simp [go_sem]
      have k1 : w4.cell? ⟨w1.heap.size, 1, none⟩ = some (.int .u64 0) := by rw [hc4]; simp [go_sem]
      have k2 : w4.cell? ⟨w1.heap.size, 2, none⟩ = some (.slice a3 0 c3) := by rw [hc4]; simp [go_sem]
      have k3 : w4.cell? ⟨w1.heap.size, 3, none⟩ = some (.slice a4 (2 * k) c4) := by rw [hc4]; simp [go_sem]
      have hw14 : w1.heap.size < w4.heap.size := by omega
      clear hv4 hb4 hc4
      go_wp2_with fail
      have hA14 : Agree 0 w1.heap.size w1 ((w4.alloc (Obj.cells #[Value.int .i64 1, Value.int .u64 x, Value.slice none 0 0, Value.slice none 0 0] 29)).alloc (Obj.cells #[Value.int .i64 2, Value.int .u64 0, Value.slice a5 L c5, Value.slice none 0 0] 29)) :=
        (((((Agree.refl _ _ _).alloc (Nat.le_refl _) _).trans (Agree.below (Hb3.out.mono (by simp)))).trans (Agree.below (Hb4.out.mono (by omega)))).alloc (by omega) _).alloc (by simp; omega) _
      have hA45 : Agree 0 w4.heap.size w4 ((w4.alloc (Obj.cells #[Value.int .i64 1, Value.int .u64 x, Value.slice none 0 0, Value.slice none 0 0] 29)).alloc (Obj.cells #[Value.int .i64 2, Value.int .u64 0, Value.slice a5 L c5, Value.slice none 0 0] 29)) := ((Agree.refl _ _ _).alloc (Nat.le_refl _) _).alloc (by simp) _
      refine (refBytes_any _ _ bs bs _ (Hv4.out.agree (hA45.mono (Nat.zero_le _) (Nat.le_refl _)) (Nat.zero_le _) (by simp; omega)) (HBy1.out.agree hA14 (Nat.le_refl _) (by simp; omega))).mono ?_
      rintro e w6 ⟨rfl, hb6⟩
      rw [decide_eq_true rfl]
      have hs6 := hb6.size
      simp at hs6
      obtain ⟨hc6, _⟩ := bcell hb6
      have n0 : w6.cell? ⟨w1.heap.size, 0, none⟩ = some (.int .i64 3) := by rw [hc6 _ _ (by simp; omega)]; simp [go_sem, k0, hw14]
      have n1 : w6.cell? ⟨w1.heap.size, 1, none⟩ = some (.int .u64 0) := by rw [hc6 _ _ (by simp; omega)]; simp [go_sem, k1, hw14]
      have n2 : w6.cell? ⟨w1.heap.size, 2, none⟩ = some (.slice a3 0 c3) := by rw [hc6 _ _ (by simp; omega)]; simp [go_sem, k2, hw14]
      have n3 : w6.cell? ⟨w1.heap.size, 3, none⟩ = some (.slice a4 (2 * k) c4) := by rw [hc6 _ _ (by simp; omega)]; simp [go_sem, k3, hw14]
      have p0 : w6.cell? ⟨w4.heap.size, 0, none⟩ = some (.int .i64 1) := by rw [hc6 _ _ (by simp; omega)]; simp [go_sem]
      have p1 : w6.cell? ⟨w4.heap.size, 1, none⟩ = some (.int .u64 x) := by rw [hc6 _ _ (by simp; omega)]; simp [go_sem]
      have p2 : w6.cell? ⟨w4.heap.size, 2, none⟩ = some (.slice none 0 0) := by rw [hc6 _ _ (by simp; omega)]; simp [go_sem]
      have p3 : w6.cell? ⟨w4.heap.size, 3, none⟩ = some (.slice none 0 0) := by rw [hc6 _ _ (by simp; omega)]; simp [go_sem]
      have q0 : w6.cell? ⟨w4.heap.size + 1, 0, none⟩ = some (.int .i64 2) := by rw [hc6 _ _ (by simp)]; simp [go_sem]
      have q1 : w6.cell? ⟨w4.heap.size + 1, 1, none⟩ = some (.int .u64 0) := by rw [hc6 _ _ (by simp)]; simp [go_sem]
      have q2 : w6.cell? ⟨w4.heap.size + 1, 2, none⟩ = some (.slice a5 L c5) := by rw [hc6 _ _ (by simp)]; simp [go_sem]
      have q3 : w6.cell? ⟨w4.heap.size + 1, 3, none⟩ = some (.slice none 0 0) := by rw [hc6 _ _ (by simp)]; simp [go_sem]
      have Hb6 := hid hb6
      have HR6 : Hid (Rep 0 w6.heap.size w6 2 (Tr.mk 3 0 [] (abs x bs k)) (.slice a3 0 c3) (.slice a4 (2 * k) c4)) := HR1.out.agree (hA14.trans (Agree.below (hb6.mono (by simp; omega)))) (Nat.le_refl _) (by omega)
      have HX6 : Hid (Rep 0 w6.heap.size w6 1 (tN x) (.slice none 0 0) (.slice none 0 0)) := ⟨hx0, hx1, BySl.none _ _ _, KSl.none _ _ _ _⟩
      have HY6 : Hid (Rep 0 w6.heap.size w6 1 (tB bs) (.slice a5 L c5) (.slice none 0 0)) := ⟨(by decide : (0 : Int) ≤ 0), (by decide : (0 : Int) ≤ 18446744073709551615), Hv4.out.agree ((hA45.mono (Nat.zero_le _) (Nat.le_refl _)).trans (Agree.below (hb6.mono (by simp; omega)))) (Nat.zero_le _) (by omega), KSl.none _ _ _ _⟩
      have Hbel6 : Hid (Below w.heap.size w w6) := (((((Hb1.out.alloc Hb1.out.size _).trans (Hb3.out.mono (by have := Hb1.out.size; simp; omega))).trans (Hb4.out.mono (by have := Hb1.out.size; omega))).alloc (by have := Hb1.out.size; omega) _).alloc (by have := Hb1.out.size; simp; omega) _).trans (hb6.mono (by have := Hb1.out.size; simp; omega))
      clear hc6 hb6 k0 k1 k2 k3 hA14 hA45
      have hlb : bs.length ≤ 3000 := by rw [HL.out]; exact hl
      have e3 := szT_abs x bs k hlb (by omega)
      have ex := szT_tN x
      have ey := szT_tB bs hlb
      have hnb := nsz_bd x
      obtain ⟨Zx, hZx⟩ : ∃ Z, szT 1 (tN x) = Z := ⟨_, rfl⟩
      obtain ⟨Zy, hZy⟩ : ∃ Z, szT 1 (tB bs) = Z := ⟨_, rfl⟩
      obtain ⟨P, hP⟩ : ∃ P, (k : Int) * (Zx + Zy) = P := ⟨_, rfl⟩
      rw [hZx, hZy, hP] at e3
      rw [hZx] at ex
      rw [hZy, HL.out] at ey
      have hx3 : 0 ≤ Zx ∧ Zx ≤ 11 := by omega
      have hy3 : 0 ≤ Zy ∧ Zy ≤ 3003 := by omega
      have hP0 : 0 ≤ P ∧ P ≤ 40000 := by
        rw [← hP]
        exact ⟨Int.mul_nonneg (by omega) (by omega), Int.le_trans (Int.mul_le_mul_of_nonneg_left (show Zx + Zy ≤ 3014 by omega) (by omega)) (Int.le_trans (Int.mul_le_mul_of_nonneg_right (show (k : Int) ≤ 10 by omega) (by omega)) (by decide))⟩
      have E3 := hid e3
      have EX := hid hZx
      have EY := hid hZy
      have hw1 : IntKind.i64.wrap (Zx + Zy) = Zx + Zy := by rw [IntKind.wrap_i64]; omega
      have hw2 : IntKind.i64.wrap ((k : Int) * (Zx + Zy)) = P := by rw [hP, IntKind.wrap_i64]; omega
      have hw3 : IntKind.i64.wrap (3 + P) = 3 + P := by rw [IntKind.wrap_i64]; omega
      clear e3 ex ey hnb hZx hZy hP hlb
      have b9 : w1.heap.size < w6.heap.size := by omega
      have b10 : w4.heap.size < w6.heap.size := by omega
      have b11 : w4.heap.size + 1 < w6.heap.size := by omega
      go_wp2_with fail
      go_region_held3 (fun w' => w'.cell? ⟨w1.heap.size, 0, none⟩ = some (.int .i64 3) ∧ w'.cell? ⟨w1.heap.size, 1, none⟩ = some (.int .u64 0) ∧ w'.cell? ⟨w1.heap.size, 2, none⟩ = some (.slice a3 0 c3) ∧ w'.cell? ⟨w1.heap.size, 3, none⟩ = some (.slice a4 (2 * k) c4) ∧
          w'.cell? ⟨w4.heap.size, 0, none⟩ = some (.int .i64 1) ∧ w'.cell? ⟨w4.heap.size, 1, none⟩ = some (.int .u64 x) ∧ w'.cell? ⟨w4.heap.size, 2, none⟩ = some (.slice none 0 0) ∧ w'.cell? ⟨w4.heap.size, 3, none⟩ = some (.slice none 0 0) ∧
          w'.cell? ⟨w4.heap.size + 1, 0, none⟩ = some (.int .i64 2) ∧ w'.cell? ⟨w4.heap.size + 1, 1, none⟩ = some (.int .u64 0) ∧ w'.cell? ⟨w4.heap.size + 1, 2, none⟩ = some (.slice a5 L c5) ∧ w'.cell? ⟨w4.heap.size + 1, 3, none⟩ = some (.slice none 0 0)) (go_keep)
        (first
          | (go_at_call_of 14 a4; refine (size_any (Tr.mk 3 0 [] (abs x bs k)) (.slice a3 0 c3) (.slice a4 (2 * k) c4) w6.drew (HR6.out.agree (Agree.refl _ _ _).drew (Nat.le_refl _) (Nat.le_refl _))).mono ?_; rintro e w7 ⟨rfl, hb7⟩; rw [E3.out]; have HB7 : Hid (Below w6.heap.size w6 w7) := (Below.refl _ _).drew.trans hb7; have hc7 := (bcell HB7.out).1; clear hb7)
          | (go_at_call_of 14 x; refine (size_any (tN x) (.slice none 0 0) (.slice none 0 0) w7 (HX6.out.agree (Agree.below HB7.out) (Nat.le_refl _) HB7.out.size)).mono ?_; rintro e w8 ⟨rfl, hb8⟩; rw [EX.out]; have HB8 : Hid (Below w6.heap.size w6 w8) := HB7.out.trans (hb8.mono HB7.out.size); have hc8 := (bcell HB8.out).1; clear hb8)
          | (go_at_call_of 14 a5; refine (size_any (tB bs) (.slice a5 L c5) (.slice none 0 0) w8 (HY6.out.agree (Agree.below HB8.out) (Nat.le_refl _) HB8.out.size)).mono ?_; rintro e w9 ⟨rfl, hb9⟩; rw [EY.out]; have HB9 : Hid (Below w6.heap.size w6 w9) := HB8.out.trans (hb9.mono HB8.out.size); have hc9 := (bcell HB9.out).1; clear hb9)
          | (go_at_call 9; refine (alive_any w9).mono ?_; rintro e w10 ⟨rfl, hb10⟩; have HB10 : Hid (Below w6.heap.size w6 w10) := HB9.out.trans (hb10.mono HB9.out.size); have hc10 := (bcell HB10.out).1; clear hb10))
      all_goals go_wp2_with fail
      all_goals go_ret
      all_goals exact ⟨rfl, Hbel6.out.trans (HB10.out.mono Hbel6.out.size)⟩

end Go.Proofs.Ytnnanmpogjmkiaa
