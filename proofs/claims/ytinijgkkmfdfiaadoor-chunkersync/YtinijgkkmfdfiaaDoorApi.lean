/-
  Split, Ends, Cut.
-/
import Derived.Test.YtinijgkkmfdfiaaDoorOpen
namespace Go.Proofs.YtinijgkkmfdfiaaDoor
open Go.RowKit

theorem hmf (fn : Fn) (first cap : Array Value) (w : World) : (Instr.makeFunc fn first cap).run Tryd.prog w = .ok (.func fn first cap) w := rfl

theorem split_no (s mn av mx : Int) (h : rightB mn av mx = false) (b : Value) (w : World) :
    Calls Tryd.prog 8 #[ruleV s mn av mx, b] w fun e w' => e = .returned (.tuple #[.slice none 0 0, .int .i64 1]) ∧ Below w.heap.size w w' := by
  have HC := hid (each_no s mn av mx h)
  clear h
  have hm := hmf
  go_enter Tryd.func8, Tryd.ntmps8
  go_wp2_with (go_at_call 26; refine (HC.out _ _ _).mono ?_; rintro e w1 ⟨rfl, hb⟩; have d0 : w1.cell? ⟨w.heap.size + 1, 0, none⟩ = some (.slice none 0 0) := (hb.cell (p := ⟨w.heap.size + 1, 0, none⟩) (by simp)).trans (by simp [go_sem]); have HB := hid hb; clear hb)
  go_ret2
  exact ⟨rfl, (((Below.refl _ _).alloc (Nat.le_refl _) _).alloc (by simp) _).trans (HB.out.mono (by simp; omega))⟩

theorem OwnL.slice {P : Nat → Prop} {w : World} {v : Value} {cs : List (List Nat)} (h : OwnL P w v cs) : ∃ a cap, v = .slice a cs.length cap ∧ cs.length ≤ cap ∧ cap ≤ maxLen ∧ (a = none → cs = [] ∧ cap = 0) := by
  obtain ⟨vals, h1, h2, _, _⟩ := h
  obtain ⟨a, cap, e, q1, q2, q3, _⟩ := h1.shape
  refine ⟨a, cap, by rw [e, h2], by omega, q2, fun ea => ?_⟩
  obtain ⟨r1, r2⟩ := q3 ea
  subst r1
  exact ⟨List.length_eq_zero_iff.1 (by simpa using h2.symm), r2⟩

set_option maxHeartbeats 1000000 in
theorem split_yes (s mn k mx : Nat) (hs : s < M64) (hk : k ≤ 12) (h : rightB mn (2 ^ k : Nat) mx = true) (w : World) (hT : Tab w) (b : Value) (bs : List Nat) {P : Nat → Prop} (hb : ByP P w b bs) (hn : bs.length ≤ 50000) :
    Calls Tryd.prog 8 #[ruleV s mn (2 ^ k : Nat) mx, b] w fun e w' => ∃ a cap, e = .returned (.tuple #[.slice a (split (endB s mn mx (maskAt k)) bs).length cap, .int .i64 0]) ∧
      OwnL (w.heap.size ≤ ·) w' (.slice a (split (endB s mn mx (maskAt k)) bs).length cap) (split (endB s mn mx (maskAt k)) bs) ∧ Below w.heap.size w w' := by
  have HC := hid (fun f caps T (ht : Teller f caps T) => each_yes ht s mn k mx hs hk h)
  have HT := hid hT
  have h2 := hT.lt
  have HBY := hid hb
  obtain ⟨a, cap, rfl, _⟩ := hb
  clear h hT
  generalize maskAt k = M at *
  generalize 2 ^ k = A at *
  have hm := hmf
  go_enter Tryd.func8, Tryd.ntmps8
  go_wp2_with fail
  have hbel : Hid (Below w.heap.size w ((w.alloc (.cells #[.int .u64 (s : Int), .int .i64 (mn : Int), .int .i64 (A : Int), .int .i64 (mx : Int)] 31)).alloc (.cells #[.slice none 0 0] 27))) := ((Below.refl _ _).alloc (Nat.le_refl _) _).alloc (by simp) _
  have hnew : Hid (TL (w.heap.size + 1) ((w.alloc (.cells #[.int .u64 (s : Int), .int .i64 (mn : Int), .int .i64 (A : Int), .int .i64 (mx : Int)] 31)).alloc (.cells #[.slice none 0 0] 27)) [w.heap.size + 1] []) := by
    have := TL.new (w.alloc (.cells #[.int .u64 (s : Int), .int .i64 (mn : Int), .int .i64 (A : Int), .int .i64 (mx : Int)] 31))
    rw [Hid]
    simpa using this
  generalize (w.alloc (.cells #[.int .u64 (s : Int), .int .i64 (mn : Int), .int .i64 (A : Int), .int .i64 (mx : Int)] 31)).alloc (.cells #[.slice none 0 0] 27) = W at *
  refine (HC.out 27 _ _ (tell27 (w.heap.size + 1)) W (HT.out.below hbel.out h2) [w.heap.size + 1] hnew.out _ bs ?_ hn).mono ?_
  · refine ((HBY.out.mono (Q := fun x => x < w.heap.size) (fun x hx _ => hx)).below hbel.out).mono (fun x _ hx => ?_)
    simp only [List.mem_cons, List.not_mem_nil, or_false]
    omega
  · rintro e w3 ⟨rfl, l', hT3, hk3, hl3⟩
    obtain ⟨v, hv, hO⟩ := hT3.ls
    obtain ⟨av, cv, rfl, _⟩ := hO.slice
    have HO := hid hO
    have HK := hid (Kp.under hbel.out hk3 (by simp) hbel.out.size)
    have HL := hid (fun x hx => hl3 x hx)
    have hz := hid hbel.out.size
    clear hT3 hk3 hl3 hO
    go_wp2
    go_ret2
    refine ⟨av, cv, rfl, HO.out.mono (fun x _ hx => ?_), HK.out⟩
    rcases HL.out x hx with h | h
    · simp only [List.mem_cons, List.not_mem_nil, or_false] at h
      omega
    · have := hz.out
      omega

/-! ### Ends -/
theorem ends_no (s mn av mx : Int) (h : rightB mn av mx = false) (b : Value) (w : World) :
    Calls Tryd.prog 11 #[ruleV s mn av mx, b] w fun e w' => e = .returned (.tuple #[.slice none 0 0, .int .i64 1]) ∧ Below w.heap.size w w' := by
  have HC := hid (each_no s mn av mx h)
  clear h
  have hm := hmf
  go_enter Tryd.func11, Tryd.ntmps11
  go_wp2_with (go_at_call 26; refine (HC.out _ _ _).mono ?_; rintro e w1 ⟨rfl, hb⟩; have d0 : w1.cell? ⟨w.heap.size + 1, 0, none⟩ = some (.slice none 0 0) := (hb.cell (p := ⟨w.heap.size + 1, 0, none⟩) (by simp)).trans (by simp [go_sem]); have HB := hid hb; clear hb)
  go_ret2
  exact ⟨rfl, ((((Below.refl _ _).alloc (Nat.le_refl _) _).alloc (by simp) _).alloc (by simp; omega) _).trans (HB.out.mono (by simp; omega))⟩

set_option maxHeartbeats 1000000 in
theorem ends_yes (s mn k mx : Nat) (hs : s < M64) (hk : k ≤ 12) (h : rightB mn (2 ^ k : Nat) mx = true) (w : World) (hT : Tab w) (b : Value) (bs : List Nat) {P : Nat → Prop} (hb : ByP P w b bs) (hn : bs.length ≤ 50000) :
    Calls Tryd.prog 11 #[ruleV s mn (2 ^ k : Nat) mx, b] w fun e w' => ∃ a cap, e = .returned (.tuple #[.slice a (split (endB s mn mx (maskAt k)) bs).length cap, .int .i64 0]) ∧
      Row w' 3 (.slice a (split (endB s mn mx (maskAt k)) bs).length cap) (il (endsN (split (endB s mn mx (maskAt k)) bs))) ∧ Below w.heap.size w w' := by
  have HC := hid (fun f caps T (ht : Teller f caps T) => each_yes ht s mn k mx hs hk h)
  have HT := hid hT
  have h2 := hT.lt
  have HBY := hid hb
  obtain ⟨a, cap, rfl, _⟩ := hb
  clear h hT
  generalize maskAt k = M at *
  generalize 2 ^ k = A at *
  have hm := hmf
  go_enter Tryd.func11, Tryd.ntmps11
  go_wp2_with fail
  have hbel : Hid (Below w.heap.size w (((w.alloc (.cells #[.int .u64 (s : Int), .int .i64 (mn : Int), .int .i64 (A : Int), .int .i64 (mx : Int)] 31)).alloc (.cells #[.slice none 0 0] 34)).alloc (.cells #[.int .i64 0] 3))) := (((Below.refl _ _).alloc (Nat.le_refl _) _).alloc (by simp) _).alloc (by simp; omega) _
  have hnew : Hid (TE (w.heap.size + 1 + 1) (w.heap.size + 1) (((w.alloc (.cells #[.int .u64 (s : Int), .int .i64 (mn : Int), .int .i64 (A : Int), .int .i64 (mx : Int)] 31)).alloc (.cells #[.slice none 0 0] 34)).alloc (.cells #[.int .i64 0] 3)) [w.heap.size + 1 + 1, w.heap.size + 1] []) := by
    have := TE.new ((w.alloc (.cells #[.int .u64 (s : Int), .int .i64 (mn : Int), .int .i64 (A : Int), .int .i64 (mx : Int)] 31)).alloc (.cells #[.slice none 0 0] 34)) (by
      have := heap_alloc_new (w.alloc (.cells #[.int .u64 (s : Int), .int .i64 (mn : Int), .int .i64 (A : Int), .int .i64 (mx : Int)] 31)) (.cells #[.slice none 0 0] 34)
      simpa using this) (by simp)
    rw [Hid]
    simpa using this
  generalize ((w.alloc (.cells #[.int .u64 (s : Int), .int .i64 (mn : Int), .int .i64 (A : Int), .int .i64 (mx : Int)] 31)).alloc (.cells #[.slice none 0 0] 34)).alloc (.cells #[.int .i64 0] 3) = W at *
  refine (HC.out 28 _ _ (tell28 (w.heap.size + 1 + 1) (w.heap.size + 1)) W (HT.out.below hbel.out h2) [w.heap.size + 1 + 1, w.heap.size + 1] hnew.out _ bs ?_ hn).mono ?_
  · refine ((HBY.out.mono (Q := fun x => x < w.heap.size) (fun x hx _ => hx)).below hbel.out).mono (fun x _ hx => ?_)
    simp only [List.mem_cons, List.not_mem_nil, or_false]
    omega
  · rintro e w3 ⟨rfl, l', hT3, hk3, hl3⟩
    obtain ⟨v, _, hv, hR, _⟩ := hT3
    obtain ⟨av, cv, rfl, _⟩ := hR.shape
    rw [il_length, endsN_length] at hv hR
    have c0 := cell_of_one hv
    have HR := hid hR
    have HK := hid (Kp.under hbel.out hk3 (by simp; omega) hbel.out.size)
    clear hk3 hl3 hR hv
    go_wp2
    go_ret2
    exact ⟨av, cv, rfl, HR.out, HK.out⟩

/-! ### Cut -/
theorem cut_no (s mn av mx : Int) (h : rightB mn av mx = false) (b : Value) (w : World) :
    Calls Tryd.prog 14 #[ruleV s mn av mx, b] w fun e w' => e = .returned (.int .i64 0) ∧ Below w.heap.size w w' := by
  have HR := hid h
  clear h
  go_enter Tryd.func14, Tryd.ntmps14
  go_wp2_with (go_at_call 12; refine (right12_any s mn av mx _).mono ?_; rintro e w1 ⟨rfl, hb⟩; rw [HR.out]; have HB := hid hb; clear hb)
  go_ret
  exact ⟨rfl, ((Below.refl _ _).alloc (Nat.le_refl _) _).trans (HB.out.mono (by simp))⟩

set_option maxHeartbeats 1000000 in
theorem cut_yes (s mn k mx : Nat) (hs : s < M64) (hk : k ≤ 12) (h : rightB mn (2 ^ k : Nat) mx = true) (hmx : mx ≤ 4096) (w : World) (hT : Tab w) (b : Value) (bs : List Nat) {P : Nat → Prop} (hb : ByP P w b bs) (hn : bs.length ≤ 50000) :
    Calls Tryd.prog 14 #[ruleV s mn (2 ^ k : Nat) mx, b] w fun e w' => e = .returned (.int .i64 (((split (endB s mn mx (maskAt k)) (bs.take mx)).headD []).length : Nat)) ∧ Below w.heap.size w w' := by
  have HR := hid h
  have HC := hid (fun f caps T (ht : Teller f caps T) => each_yes ht s mn k mx hs hk h)
  have HT := hid hT
  have h2 := hT.lt
  have HBY := hid hb
  obtain ⟨a, cap, rfl, hcap, hcm, _⟩ := hb
  clear h hT
  generalize maskAt k = M at *
  generalize 2 ^ k = A at *
  have hm := hmf
  obtain ⟨L, hL⟩ : ∃ L, bs.length = L := ⟨_, rfl⟩
  have HL := hid hL
  rw [hL] at hcap hn ⊢
  clear hL
  unfold maxLen at hcm
  have hnx : Hid (∃ n, n ≤ L ∧ n = min L mx ∧ ByP P w (.slice a n cap) (bs.take mx)) := by
    refine ⟨min L mx, by omega, rfl, ?_⟩
    have h := HBY.out.front (min L mx) (by have := HL.out; omega)
    have e : bs.take (min L mx) = bs.take mx := by
      by_cases hle : L ≤ mx
      · rw [Nat.min_eq_left hle, List.take_of_length_le (by have := HL.out; omega), List.take_of_length_le (by have := HL.out; omega)]
      · rw [Nat.min_eq_right (by omega)]
    rwa [e] at h
  by_cases hle : L ≤ mx
  · obtain ⟨n, hnL, hnm, hF⟩ := hnx.out
    obtain rfl : n = L := by omega
    have HF := hid hF
    have hts : Hid ((bs.take mx).length ≤ 50000) := by rw [Hid, List.length_take]; omega
    clear hF hnm hnx HBY
    generalize bs.take mx = ts at *
    go_enter Tryd.func14, Tryd.ntmps14
    go_wp2_with (go_at_call 12; refine (right12_any (s : Int) mn A _ _).mono ?_; rintro e w1 ⟨rfl, hb⟩; rw [HR.out]; have HB : Hid (Below w.heap.size w w1) := ((Below.refl _ _).alloc (Nat.le_refl _) _).trans (hb.mono (by simp)); have d : ∀ j, w1.cell? ⟨w.heap.size, j, none⟩ = _ := fun j => (hb.cell (p := ⟨w.heap.size, j, none⟩) (by simp)).trans (World.cell?_alloc_at _ _ _ _ rfl); have d0 := d 0; have d1 := d 1; have d2 := d 2; have d3 := d 3; have hz1 : w.heap.size < w1.heap.size := (by have := hb.size; simp at this; omega); clear d hb)
    have hbel : Hid (Below w.heap.size w (w1.alloc (.cells #[.int .i64 0] 3))) := HB.out.alloc (by omega) _
    have hnew : Hid (TC w1.heap.size (w1.alloc (.cells #[.int .i64 0] 3)) [w1.heap.size] []) := TC.new w1
    clear d0 d1 d2 d3
    generalize w1.alloc (.cells #[.int .i64 0] 3) = W at *
    refine (HC.out 30 _ _ (tell30 w1.heap.size) W (HT.out.below hbel.out h2) [w1.heap.size] hnew.out _ ts ?_ hts.out).mono ?_
    · refine ((HF.out.mono (Q := fun x => x < w.heap.size) (fun x hx _ => hx)).below hbel.out).mono (fun x _ hx => ?_)
      simp only [List.mem_cons, List.not_mem_nil, or_false]
      omega
    · rintro e w3 ⟨rfl, l', hT3, hk3, hl3⟩
      have c0 := cell_of_one hT3.1
      obtain ⟨X, hX⟩ : ∃ X, ((split (endB s mn mx M) ts).headD []).length = X := ⟨_, rfl⟩
      have HX := hid hX
      rw [hX] at c0
      clear hX
      have HK := hid (Kp.under hbel.out hk3 (by simp; omega) hbel.out.size)
      clear hT3 hk3 hl3
      go_wp2
      go_ret
      exact ⟨by rw [HX.out]; rfl, HK.out⟩
  · obtain ⟨n, hnL, hnm, hF⟩ := hnx.out
    obtain rfl : n = mx := by omega
    have HF := hid hF
    have hts : Hid ((bs.take n).length ≤ 50000) := by rw [Hid, List.length_take]; omega
    clear hF hnm hnx HBY
    generalize bs.take n = ts at *
    go_enter Tryd.func14, Tryd.ntmps14
    go_wp2_with (go_at_call 12; refine (right12_any (s : Int) mn A _ _).mono ?_; rintro e w1 ⟨rfl, hb⟩; rw [HR.out]; have HB : Hid (Below w.heap.size w w1) := ((Below.refl _ _).alloc (Nat.le_refl _) _).trans (hb.mono (by simp)); have d : ∀ j, w1.cell? ⟨w.heap.size, j, none⟩ = _ := fun j => (hb.cell (p := ⟨w.heap.size, j, none⟩) (by simp)).trans (World.cell?_alloc_at _ _ _ _ rfl); have d0 := d 0; have d1 := d 1; have d2 := d 2; have d3 := d 3; have hz1 : w.heap.size < w1.heap.size := (by have := hb.size; simp at this; omega); clear d hb)
    have hbel : Hid (Below w.heap.size w (w1.alloc (.cells #[.int .i64 0] 3))) := HB.out.alloc (by omega) _
    have hnew : Hid (TC w1.heap.size (w1.alloc (.cells #[.int .i64 0] 3)) [w1.heap.size] []) := TC.new w1
    clear d0 d1 d2 d3
    generalize w1.alloc (.cells #[.int .i64 0] 3) = W at *
    refine (HC.out 30 _ _ (tell30 w1.heap.size) W (HT.out.below hbel.out h2) [w1.heap.size] hnew.out _ ts ?_ hts.out).mono ?_
    · refine ((HF.out.mono (Q := fun x => x < w.heap.size) (fun x hx _ => hx)).below hbel.out).mono (fun x _ hx => ?_)
      simp only [List.mem_cons, List.not_mem_nil, or_false]
      omega
    · rintro e w3 ⟨rfl, l', hT3, hk3, hl3⟩
      have c0 := cell_of_one hT3.1
      obtain ⟨X, hX⟩ : ∃ X, ((split (endB s mn n M) ts).headD []).length = X := ⟨_, rfl⟩
      have HX := hid hX
      rw [hX] at c0
      clear hX
      have HK := hid (Kp.under hbel.out hk3 (by simp; omega) hbel.out.size)
      clear hT3 hk3 hl3
      go_wp2
      go_ret
      exact ⟨by rw [HX.out]; rfl, HK.out⟩

end Go.Proofs.YtinijgkkmfdfiaaDoor
