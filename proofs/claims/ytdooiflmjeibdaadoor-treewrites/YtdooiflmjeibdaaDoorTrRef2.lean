/-
  Bytes that are the same; items that are the same; Light; Bytes.
-/
import Derived.Test.YtdooiflmjeibdaaDoorTrRef1
import Derived.Laws.IdiomStrings
import Derived.Lib.BufferRead
namespace Go.Proofs.YtdooiflmjeibdaaDoor.Tr
open Go.RowKit

def u8s (bs : List Nat) : Tx := bs.map UInt8.ofNat
theorem u8s_inj : ∀ (a b : List Nat), (∀ x ∈ a, x < 256) → (∀ x ∈ b, x < 256) → u8s a = u8s b → a = b
  | [], [], _, _, _ => rfl
  | [], _ :: _, _, _, h => by simp [u8s] at h
  | _ :: _, [], _, _, h => by simp [u8s] at h
  | x :: a, y :: b, ha, hb, h => by
    simp only [u8s, List.map_cons, List.cons.injEq] at h
    have h1 := congrArg UInt8.toNat h.1
    have hx := ha x (List.mem_cons_self ..)
    have hy := hb y (List.mem_cons_self ..)
    rw [UInt8.toNat_ofNat', UInt8.toNat_ofNat', Nat.mod_eq_of_lt (by omega), Nat.mod_eq_of_lt (by omega)] at h1
    rw [h1, u8s_inj a b (fun z hz => ha z (List.mem_cons_of_mem _ hz)) (fun z hz => hb z (List.mem_cons_of_mem _ hz)) h.2]
theorem conv_by {w : World} {v : Value} {bs : List Nat} (h : ByP Any w v bs) : (convert 23 9 v).run Tryd.prog w = .ok (.string ⟨(u8s bs).toArray⟩) w := by
  obtain ⟨a, cap, rfl, _, _, h4, _, h6, h7⟩ := h
  cases a with
  | none =>
    obtain ⟨rfl, rfl⟩ := h4 rfl
    exact Lib.run_convert_nil_bytes w 23 9 5 0 Tryd.underlying23 Tryd.underlying5 Tryd.underlying9
  | some ad =>
    have hl : (u8s bs).length = bs.length := by simp [u8s]
    have := run_convert_bytes_back (P := Tryd.prog) w 23 9 5 ad cap (u8s bs) Tryd.underlying23 Tryd.underlying5 Tryd.underlying9 (fun j hj => by
      have hj' : j < bs.length := by omega
      obtain ⟨g, o, e, _, _, hc⟩ := h7 (by rintro rfl; simp at hj')
      cases e
      rw [addr_add, hc j hj']
      have h256 := h6 _ (List.getElem_mem hj')
      simp only [u8s, List.getElem_map]
      rw [UInt8.toNat_ofNat', Nat.mod_eq_of_lt (by omega), getD_at hj'])
    rw [hl] at this
    exact this
theorem u8s_eq {a b : List Nat} (ha : ∀ x ∈ a, x < 256) (hb : ∀ x ∈ b, x < 256) : (u8s a == u8s b) = decide (a = b) := by
  rw [Bool.eq_iff_iff, beq_iff_eq, decide_eq_true_eq]
  exact ⟨fun h => u8s_inj a b ha hb h, fun h => by rw [h]⟩

set_option maxHeartbeats 1000000 in
/-- bytes.Equal. -/
theorem equal_any (w : World) (v u : Value) (a b : List Nat) (hv : ByP Any w v a) (hu : ByP Any w u b) : Calls Tryd.prog 45 #[v, u] w fun e w' => e = .returned (.bool (decide (a = b))) ∧ w' = w := by
  have h1 := conv_by hv
  have h2 := conv_by hu
  have h3 := u8s_eq hv.lt256 hu.lt256
  obtain ⟨a1, c1, rfl⟩ := hv.form
  obtain ⟨a2, c2, rfl⟩ := hu.form
  go_enter Tryd.func45, Tryd.ntmps45
  go_wp2
  go_ret
  refine ⟨?_, rfl⟩
  rw [← h3]
  rfl

set_option maxHeartbeats 4000000 in
/-- Bytes of the first layer's document. -/
theorem rb01_any (w : World) (v u : Value) (a b : List Nat) (hv : ByP Any w v a) (hu : ByP Any w u b) (hl : a.length ≤ 1000000) : Calls Tryd.prog 9 #[v, u] w fun e w' => e = .returned (.bool (decide (a = b))) ∧ Kp No w w' := by
  have HV := hid hv
  have HU := hid hu
  have HD : Hid (∀ q : Bool, (q = true ↔ a = b) → decide (a = b) = q) := fun q hq => by
    rw [Bool.eq_iff_iff, decide_eq_true_eq]
    exact hq.symm
  generalize decide (a = b) = r at *
  obtain ⟨n, hn⟩ : ∃ n, a.length = n := ⟨_, rfl⟩
  obtain ⟨m, hm⟩ : ∃ m, b.length = m := ⟨_, rfl⟩
  have HN := hid hn
  have HM := hid hm
  obtain ⟨a1, c1, rfl, _, _, _, _, h6, h7⟩ := hv
  obtain ⟨a2, c2, rfl, _, _, _, _, g6, g7⟩ := hu
  have H7 := hid h7
  have G7 := hid g7
  have H6 := hid h6
  have G6 := hid g6
  rw [hn] at hl H7 ⊢
  rw [hm] at G7 ⊢
  clear h6 h7 g6 g7 hn hm HV HU
  by_cases hnm : n = m
  · subst hnm
    have e0 : ((n : Int) != (n : Int)) = false := by simp
    go_enter Tryd.func9, Tryd.ntmps9
    go_wp2_with fail
    go_loopw [5] (fun x wr => ∃ i : Nat, x = .int .i64 i ∧ i ≤ n ∧ Hid ((∀ j, j < i → a.getD j 0 = b.getD j 0) ∧ Kp No w wr)) (fun x _ => n - (intOf x).toNat)
    case atStart => exact ⟨0, rfl, Nat.zero_le _, fun j h => absurd h (Nat.not_lt_zero _), Kp.refl _ _⟩
    case round =>
      obtain ⟨i, rfl, hi, HS⟩ := hrel
      by_cases hlt : i < n
      · have hltI : (i : Int) < (n : Int) := by omega
        have hi0 : (0 : Int) ≤ (i : Int) := by omega
        obtain ⟨g, o, rfl, _, hg, hc⟩ := H7.out (by intro e; have := HN.out; rw [e] at this; simp at this; omega)
        obtain ⟨g', o', rfl, _, hg', hc'⟩ := G7.out (by intro e; have := HM.out; rw [e] at this; simp at this; omega)
        have x0 : wr.cell? ⟨g, o + i, none⟩ = some (.int .u8 (a.getD i 0 : Nat)) := (HS.out.2.cell (p := ⟨g, o + i, none⟩) hg (fun h => h)).trans (hc i hlt)
        have y0 : wr.cell? ⟨g', o' + i, none⟩ = some (.int .u8 (b.getD i 0 : Nat)) := (HS.out.2.cell (p := ⟨g', o' + i, none⟩) hg' (fun h => h)).trans (hc' i hlt)
        have HX : Hid (∃ x y, a.getD i 0 = x ∧ b.getD i 0 = y) := ⟨_, _, rfl, rfl⟩
        obtain ⟨x, y, hx, hy⟩ := HX.out
        have HXX := hid hx
        have HYY := hid hy
        rw [hx] at x0
        rw [hy] at y0
        clear hc hc' hx hy HX
        by_cases hxy : x = y
        · subst hxy
          go_wp2_with fail
          go_quiet (fail)
          go_wp2
          go_roundw
          case rel => exact ⟨i + 1, by go_num, by omega, fun j hj => by
            by_cases e : j = i
            · rw [e, HXX.out, HYY.out]
            · exact HS.out.1 j (by omega), HS.out.2.drewN nq⟩
          case measure => simp [intOf] <;> omega
        · have hne : ((x : Int) != (y : Int)) = true := by simp; omega
          go_wp2_with fail
          go_quiet (fail)
          go_wp2
          go_ret
          refine ⟨?_, HS.out.2.drewN nq⟩
          rw [HD.out false ⟨fun h => (by cases h), fun h => (by rw [h] at HXX; exact absurd (HXX.out.symm.trans HYY.out) hxy)⟩]
          rfl
      · have hltI : ¬ (i : Int) < (n : Int) := by omega
        go_wp2
        go_ret
        refine ⟨?_, HS.out.2⟩
        rw [HD.out true ⟨fun _ => ?_, fun _ => rfl⟩]
        · rfl
        · apply List.ext_getElem (by rw [HN.out, HM.out])
          intro j hj1 hj2
          have := HS.out.1 j (by have := HN.out; omega)
          rwa [getD_at hj1, getD_at hj2] at this
  · have e0 : ((n : Int) != (m : Int)) = true := by simp; omega
    rw [HD.out false ⟨fun h => (by cases h), fun h => (by have h1 := HN.out; rw [h, HM.out] at h1; exact absurd h1.symm hnm)⟩]
    go_enter Tryd.func9, Tryd.ntmps9
    go_wp2
    go_ret
    exact ⟨rfl, Kp.refl _ _⟩

theorem two_box (w : World) (x y : It) (u v : Value) (t : TypeId) : ∀ V, Kp No ((w.alloc (.cells (itC x u).toArray t)).alloc (.cells (itC y v).toArray t)) V →
    (V.cell? ⟨w.heap.size, 0, none⟩ = some (.string x.1) ∧ V.cell? ⟨w.heap.size, 1, none⟩ = some (.bool x.2.1) ∧ V.cell? ⟨w.heap.size, 2, none⟩ = some u) ∧ (V.cell? ⟨w.heap.size + 1, 0, none⟩ = some (.string y.1) ∧ V.cell? ⟨w.heap.size + 1, 1, none⟩ = some (.bool y.2.1) ∧ V.cell? ⟨w.heap.size + 1, 2, none⟩ = some v) := fun V k => by
  refine ⟨box_it w x u t V (((Kp.refl No _).alloc _).andNone k), ?_⟩
  have := box_it (w.alloc (.cells (itC x u).toArray t)) y v t V k
  simpa using this
theorem item_eq (x y : It) : decide (x = y) = (decide (x.1 = y.1) && (x.2.1 == y.2.1) && decide (x.2.2 = y.2.2)) := by
  obtain ⟨a, b, c⟩ := x
  obtain ⟨d, e, f⟩ := y
  rw [Bool.eq_iff_iff]
  simp [Bool.and_eq_true, and_assoc]

set_option maxHeartbeats 4000000 in
theorem rsameitem_any (w : World) (x y : It) (u v : Value) (hu : ByP Any w u x.2.2) (hv : ByP Any w v y.2.2) (hx : ShortI x) :
    Calls Tryd.prog 10 #[.agg #[.string x.1, .bool x.2.1, u], .agg #[.string y.1, .bool y.2.1, v]] w fun e w' => e = .returned (.bool (decide (x = y))) ∧ Kp No w w' := by
  have HB := hid (fun (V : World) (k : Kp No w V) => rb01_any V u v x.2.2 y.2.2 (hu.kept k) (hv.kept k) (by have := hx.2; omega))
  rw [item_eq]
  obtain ⟨s, d, bs⟩ := x
  obtain ⟨s', d', bs'⟩ := y
  have h1 := str_eq s s'
  simp only at HB
  obtain ⟨a1, c1, rfl⟩ := hu.form
  obtain ⟨a2, c2, rfl⟩ := hv.form
  have HTB := hid (two_box w (s, d, bs) (s', d', bs') (.slice a1 bs.length c1) (.slice a2 bs'.length c2) 33)
  have HK0 : Hid (Kp No w ((w.alloc (.cells (itC (s, d, bs) (.slice a1 bs.length c1)).toArray 33)).alloc (.cells (itC (s', d', bs') (.slice a2 bs'.length c2)).toArray 33))) := ((Kp.refl No w).alloc _).alloc _
  clear hu hv hx
  generalize decide (s = s') = q1 at *
  generalize decide (bs = bs') = q3 at *
  cases q1
  · go_enter Tryd.func10, Tryd.ntmps10
    go_wp2
    go_ret
    exact ⟨rfl, HK0.out⟩
  · by_cases hd : d = d'
    · subst hd
      have hdd : (d == d) = true := by simp
      rw [hdd]
      go_enter Tryd.func10, Tryd.ntmps10
      go_wp2_with (go_at_call 9; refine (HB.out _ HK0.out).mono ?_; rintro e w1 ⟨rfl, hk⟩; have HK := hid (HK0.out.andNone hk); clear hk)
      go_ret
      refine ⟨?_, HK.out⟩
      simp
    · have hdd : (d == d') = false := by simpa using hd
      rw [hdd]
      go_enter Tryd.func10, Tryd.ntmps10
      go_wp2
      go_ret
      exact ⟨rfl, HK0.out⟩

set_option maxHeartbeats 4000000 in
theorem alike_any (w : World) (x y : It) (u v : Value) (hu : ByP Any w u x.2.2) (hv : ByP Any w v y.2.2) (hx : ShortI x) :
    Calls Tryd.prog 31 #[.agg #[.string x.1, .bool x.2.1, u], .agg #[.string y.1, .bool y.2.1, v]] w fun e w' => e = .returned (.bool (decide (x = y))) ∧ Kp No w w' := by
  have HB := hid (fun (V : World) (k : Kp No w V) => equal_any V u v x.2.2 y.2.2 (hu.kept k) (hv.kept k))
  rw [item_eq]
  obtain ⟨s, d, bs⟩ := x
  obtain ⟨s', d', bs'⟩ := y
  have h1 := str_eq s s'
  simp only at HB
  obtain ⟨a1, c1, rfl⟩ := hu.form
  obtain ⟨a2, c2, rfl⟩ := hv.form
  have HTB := hid (two_box w (s, d, bs) (s', d', bs') (.slice a1 bs.length c1) (.slice a2 bs'.length c2) 33)
  have HK0 : Hid (Kp No w ((w.alloc (.cells (itC (s, d, bs) (.slice a1 bs.length c1)).toArray 33)).alloc (.cells (itC (s', d', bs') (.slice a2 bs'.length c2)).toArray 33))) := ((Kp.refl No w).alloc _).alloc _
  clear hu hv hx
  generalize decide (s = s') = q1 at *
  generalize decide (bs = bs') = q3 at *
  cases q1
  · go_enter Tryd.func31, Tryd.ntmps31
    go_wp2
    go_ret
    exact ⟨rfl, HK0.out⟩
  · by_cases hd : d = d'
    · subst hd
      have hdd : (d == d) = true := by simp
      rw [hdd]
      go_enter Tryd.func31, Tryd.ntmps31
      go_wp2_with (go_at_call 45; refine (HB.out _ HK0.out).mono ?_; rintro e w1 ⟨rfl, hk⟩; have HK := hid (HK0.out); subst hk)
      go_ret
      refine ⟨?_, HK.out⟩
      simp
    · have hdd : (d == d') = false := by simpa using hd
      rw [hdd]
      go_enter Tryd.func31, Tryd.ntmps31
      go_wp2
      go_ret
      exact ⟨rfl, HK0.out⟩

end Go.Proofs.YtdooiflmjeibdaaDoor.Tr
