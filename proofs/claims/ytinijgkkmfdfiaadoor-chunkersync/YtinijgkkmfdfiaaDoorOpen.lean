/-
  newKnife, Open, fault, Left.
-/
import Derived.Test.YtinijgkkmfdfiaaDoorRule
import Derived.Test.YtinijgkkmfdfiaaDoorTellB
import Derived.Deep.RegionHeld3
namespace Go.Proofs.YtinijgkkmfdfiaaDoor
open Go.RowKit

theorem mask_two {k m : Nat} (hk : k ≤ 20) (h : IsMask ((2 ^ k : Nat) : Int) m) : m = maskAt k := isMask_one h (.inl ⟨k, hk, rfl, rfl⟩)
theorem maskAt_lt (k : Nat) : maskAt k < M64 := by
  unfold maskAt
  split
  · decide
  · have : 0 < 2 ^ (64 - k) := Nat.two_pow_pos _
    unfold M64
    omega

set_option maxHeartbeats 2000000 in
set_option maxRecDepth 100000 in
theorem knife_any (s mn k mx : Nat) (hs : s < M64) (hk : k ≤ 12) (w : World) (hT : Tab w) :
    Calls Tryd.prog 32 #[ruleV s mn (2 ^ k : Nat) mx] w fun e w' => ∃ gb, e = .returned (.agg #[.pointer (some ⟨gb, 0, none⟩), .int .u64 s, .int .i64 mn, .int .i64 (2 ^ k : Nat), .int .i64 mx, .int .u64 (maskAt k : Nat), .int .u64 0, .slice none 0 0]) ∧ w.heap.size ≤ gb ∧ Gr w' gb s 0 ∧ Below w.heap.size w w' := by
  have hM : Hid (∀ W, Tab W → Calls Tryd.prog 44 #[.int .i64 (2 ^ k : Nat)] W fun e w' => e = .returned (.int .u64 (maskAt k : Nat)) ∧ w' = W) := fun W hW => (mask18_any _ (by have : (2 : Nat) ^ k ≤ 2 ^ 12 := Nat.pow_le_pow_right (by decide) hk; generalize 2 ^ k = z at *; omega) W hW).mono (by
    rintro e w' ⟨⟨m, rfl, h⟩, rfl⟩
    rw [mask_two (by omega) h]
    exact ⟨rfl, rfl⟩)
  have HT := hid hT
  have h2 := hT.lt
  clear hT
  generalize maskAt k = M at *
  generalize 2 ^ k = A at *
  clear hk
  go_enter Tryd.func32, Tryd.ntmps32
  go_wp2_with fail
  obtain ⟨W3, hW3⟩ : ∃ W3, (w.alloc (.cells #[.int .u64 (s : Int), .int .i64 (mn : Int), .int .i64 (A : Int), .int .i64 (mx : Int)] 31)).alloc (.cells #[.pointer none, .int .u64 0, .int .i64 0, .int .i64 0, .int .i64 0, .int .u64 0, .int .u64 0, .slice none 0 0] 67) = W3 := ⟨_, rfl⟩
  have hz3 : W3.heap.size = w.heap.size + 2 := by rw [← hW3]; simp
  have q : ∀ j, W3.cell? ⟨w.heap.size, j, none⟩ = (#[.int .u64 (s : Int), .int .i64 (mn : Int), .int .i64 (A : Int), .int .i64 (mx : Int)] : Array Value)[j]? := fun j => by
    rw [← hW3, World.cell?_alloc_past _ _ _ (by simp), World.cell?_alloc_at _ _ _ _ rfl]
  have q1 : ∀ j, W3.cell? ⟨w.heap.size + 1, j, none⟩ = (#[.pointer none, .int .u64 0, .int .i64 0, .int .i64 0, .int .i64 0, .int .u64 0, .int .u64 0, .slice none 0 0] : Array Value)[j]? := fun j => by
    rw [← hW3]; exact World.cell?_alloc_at _ _ _ _ (by simp)
  have qf : ∀ j, W3.frozen? ⟨w.heap.size + 1, j, none⟩ = false := fun j => by
    rw [← hW3]; exact World.frozen?_alloc_at _ _ _ _ (by simp)
  have HB3 : Hid (Below w.heap.size w W3) := by rw [Hid, ← hW3]; exact ((Below.refl _ _).alloc (Nat.le_refl _) _).alloc (by simp) _
  have HT3 : Hid (Tab W3) := HT.out.below HB3.out h2
  rw [hW3]
  clear hW3
  have r0 : ∀ w', Below (w.heap.size + 1) W3 w' → w'.cell? ⟨w.heap.size, 0, none⟩ = some (.int .u64 (s : Int)) := fun w' h => (h.cell (p := ⟨w.heap.size, 0, none⟩) (by simp)).trans (q 0)
  have r1 : ∀ w', Below (w.heap.size + 1) W3 w' → w'.cell? ⟨w.heap.size, 1, none⟩ = some (.int .i64 (mn : Int)) := fun w' h => (h.cell (p := ⟨w.heap.size, 1, none⟩) (by simp)).trans (q 1)
  have r2 : ∀ w', Below (w.heap.size + 1) W3 w' → w'.cell? ⟨w.heap.size, 2, none⟩ = some (.int .i64 (A : Int)) := fun w' h => (h.cell (p := ⟨w.heap.size, 2, none⟩) (by simp)).trans (q 2)
  have r3 : ∀ w', Below (w.heap.size + 1) W3 w' → w'.cell? ⟨w.heap.size, 3, none⟩ = some (.int .i64 (mx : Int)) := fun w' h => (h.cell (p := ⟨w.heap.size, 3, none⟩) (by simp)).trans (q 3)
  have HQ1 := hid q1
  have HQF := hid qf
  clear q q1 qf
  go_region_held3 (fun w' => Below (w.heap.size + 1) W3 w') (first | (with_reducible exact (Below.refl _ _)) | (with_reducible exact (Below.refl _ _).drew) | (with_reducible exact HB1.out) | ((with_reducible (repeat (refine Below.setCell ?_ ?_ _))); all_goals (first | with_reducible exact HB1.out | with_reducible exact Nat.le_refl _))) (first | (go_at_call 43; refine (new_any s hs W3.drew).mono ?_; rintro e w1 ⟨rfl, hb1, hsz1, hg1⟩; have hbb : Below W3.heap.size W3.drew w1 := hb1; have HB1 : Hid (Below (w.heap.size + 1) W3 w1) := ((Below.refl _ _).drew).trans (hbb.mono (by omega)); have HN1 := hid hbb; have HG1 := hid hg1; have y : ∀ o, w1.cell? ⟨w.heap.size + 1, o, none⟩ = W3.cell? ⟨w.heap.size + 1, o, none⟩ := fun o => hbb.cell (p := ⟨w.heap.size + 1, o, none⟩) (by simp; omega); have yf : ∀ o, w1.frozen? ⟨w.heap.size + 1, o, none⟩ = false := fun o => (hbb.frozen (p := ⟨w.heap.size + 1, o, none⟩) (by simp; omega)).trans (HQF.out o); have y0 := (y 0).trans (HQ1.out 0); have y1 := (y 1).trans (HQ1.out 1); have y2 := (y 2).trans (HQ1.out 2); have y3 := (y 3).trans (HQ1.out 3); have y4 := (y 4).trans (HQ1.out 4); have y5 := (y 5).trans (HQ1.out 5); have y6 := (y 6).trans (HQ1.out 6); have y7 := (y 7).trans (HQ1.out 7); clear y hb1 hg1 hbb) | (go_at_call 44; refine (hM.out _ ?_).mono ?_; (first | with_reducible exact HT3.out.below (Below.refl W3.heap.size W3).drew (by omega) | with_reducible exact HT3.out.below HB1.out (by omega)); rintro e w2 ⟨rfl, h2⟩; subst w2))
  have hbel : Hid (Below (w.heap.size + 1) W3 _) := ‹_›
  have HZ1 := hid hsz1
  simp only [List.getElem?_toArray, List.getElem?_cons_zero, List.getElem?_cons_succ] at y0 y1 y2 y3 y4 y5 y6 y7
  go_wp2
  refine bodyPost_ret (v := .agg #[.pointer (some ⟨w.heap.size + 2, 0, none⟩), .int .u64 s, .int .i64 mn, .int .i64 A, .int .i64 mx, .int .u64 M, .int .u64 0, .slice none 0 0]) (by simp [results, Tryd.results32, go_sem, y0, y1, y2, y3, y4, y5, y6, y7]) rfl ⟨_, rfl, by omega, ?_, ?_⟩
  · have hgz : W3.drew.heap.size = w.heap.size + 2 := hz3
    have G := HG1.out
    rw [hgz] at G
    refine G.kp (l := [w.heap.size + 1]) ?_ (by simp)
    repeat (refine Kp.setCell ?_ (.inl (by simp)) _)
    exact Kp.refl _ _
  · exact HB3.out.trans (hbel.out.mono (by omega))

/-! ### Open -/
theorem open_no (s mn av mx : Int) (h : rightB mn av mx = false) (w : World) :
    Calls Tryd.prog 19 #[ruleV s mn av mx] w fun e w' => e = .returned (.tuple #[.pointer none, .int .i64 1]) ∧ Below w.heap.size w w' := by
  have HR := hid h
  clear h
  have hnot : ∀ (x : Bool) (w : World), (Op.unary .not (.bool x)).run Tryd.prog w = .ok (.bool (!x)) w := fun _ _ => rfl
  go_enter Tryd.func19, Tryd.ntmps19
  go_wp2_with (go_at_call 12; refine (right12_any s mn av mx _).mono ?_; rintro e w1 ⟨rfl, hb⟩; rw [HR.out]; have HB := hid hb; clear hb)
  go_ret2
  exact ⟨rfl, ((Below.refl _ _).alloc (Nat.le_refl _) _).trans (HB.out.mono (by simp))⟩

set_option maxHeartbeats 1000000 in
theorem open_yes (s mn k mx : Nat) (hs : s < M64) (hk : k ≤ 12) (h : rightB mn (2 ^ k : Nat) mx = true) (w : World) (hT : Tab w) :
    Calls Tryd.prog 19 #[ruleV s mn (2 ^ k : Nat) mx] w fun e w' => ∃ sb gb, e = .returned (.tuple #[.pointer (some ⟨sb, 0, none⟩), .int .i64 0]) ∧
      StX w' sb gb s mn (2 ^ k) mx (maskAt k) 0 [] (.slice none 0 0) false ∧ w.heap.size ≤ sb ∧ w.heap.size ≤ gb ∧ Below w.heap.size w w' := by
  have HR := hid h
  have HT := hid hT
  have h2 := hT.lt
  clear h hT
  have hK := hid (knife_any s mn k mx hs hk)
  have hml := maskAt_lt k
  generalize maskAt k = M at *
  generalize 2 ^ k = A at *
  go_enter Tryd.func19, Tryd.ntmps19
  go_wp2_with (go_at_call 12; refine (right12_any (s : Int) mn A mx _).mono ?_; rintro e w1 ⟨rfl, hb⟩; rw [HR.out]; have HB : Hid (Below w.heap.size w w1) := ((Below.refl _ _).alloc (Nat.le_refl _) _).trans (hb.mono (by simp)); have d : ∀ j, w1.cell? ⟨w.heap.size, j, none⟩ = _ := fun j => (hb.cell (p := ⟨w.heap.size, j, none⟩) (by simp)).trans (World.cell?_alloc_at _ _ _ _ rfl); have d0 := d 0; have d1 := d 1; have d2 := d 2; have d3 := d 3; have hz1 : w.heap.size < w1.heap.size := (by have := hb.size; simp at this; omega); clear d hb)
  refine (hK.out w1 (HT.out.below HB.out h2)).mono ?_
  rintro e w2 ⟨gb, rfl, hg, hG, hb2⟩
  have HG := hid hG
  have HB2 := hid hb2
  have hz2 := hb2.size
  clear hG hb2 d0 d1 d2 d3
  go_wp2
  go_ret2
  have ho : ∀ j, (w2.alloc (.cells #[.pointer (some ⟨gb, 0, none⟩), .int .u64 (s : Int), .int .i64 (mn : Int), .int .i64 (A : Int), .int .i64 (mx : Int), .int .u64 (M : Int), .int .u64 0, .slice none 0 0, .bool false] 70)).cell? ⟨w2.heap.size, j, none⟩ = (#[.pointer (some ⟨gb, 0, none⟩), .int .u64 (s : Int), .int .i64 (mn : Int), .int .i64 (A : Int), .int .i64 (mx : Int), .int .u64 (M : Int), .int .u64 0, .slice none 0 0, .bool false] : Array Value)[j]? := fun j => World.cell?_alloc_at _ _ _ _ rfl
  refine ⟨w2.heap.size, gb, rfl, ?_, by omega, by omega, ((HB.out.trans (HB2.out.mono (by omega))).alloc (by omega) _)⟩
  exact {
    lt := by simp
    c0 := ho 0, c1 := ho 1, c2 := ho 2, c3 := ho 3, c4 := ho 4, c5 := ho 5, c6 := ho 6, c7 := ho 7, c8 := ho 8
    fz := fun j => World.frozen?_alloc_at _ _ _ _ rfl
    gr := ⟨0, .inl rfl, HG.out.kp (l := []) ((Kp.refl _ _).alloc _) (by simp)⟩
    own := OwnB.nil _
    bts := by simp
    ne1 := by have := HG.out.1; omega
    ne2 := by simp [Value.ownBlock]
    len := by simp
    hm := hml
    hh := by decide }

/-! ### fault, Left -/
theorem fault_nil (w : World) : Calls Tryd.prog 33 #[.pointer none] w fun e w' => e = .returned (.int .i64 18) ∧ w' = w := by
  go_enter Tryd.func33, Tryd.ntmps33
  go_wp2
  go_ret
  exact ⟨rfl, rfl⟩
theorem fault_closed (w : World) (sb : Nat) (h : w.cell? ⟨sb, 8, none⟩ = some (.bool true)) : Calls Tryd.prog 33 #[.pointer (some ⟨sb, 0, none⟩)] w fun e w' => e = .returned (.int .i64 13) ∧ w' = w := by
  go_enter Tryd.func33, Tryd.ntmps33
  go_wp2
  go_ret
  exact ⟨rfl, rfl⟩
theorem fault_open (w : World) (sb gb : Nat) (h : w.cell? ⟨sb, 8, none⟩ = some (.bool false)) (h0 : w.cell? ⟨sb, 0, none⟩ = some (.pointer (some ⟨gb, 0, none⟩))) : Calls Tryd.prog 33 #[.pointer (some ⟨sb, 0, none⟩)] w fun e w' => e = .returned (.int .i64 0) ∧ w' = w := by
  go_enter Tryd.func33, Tryd.ntmps33
  go_wp2
  go_ret
  exact ⟨rfl, rfl⟩
theorem left_nil (w : World) : Calls Tryd.prog 22 #[.pointer none] w fun e w' => e = .returned (.int .i64 0) ∧ w' = w := by
  go_enter Tryd.func22, Tryd.ntmps22
  go_wp2
  go_ret
  exact ⟨rfl, rfl⟩
theorem left_any (w : World) (sb : Nat) (a : Option Addr) (n cap : Nat) (h : w.cell? ⟨sb, 7, none⟩ = some (.slice a n cap)) : Calls Tryd.prog 22 #[.pointer (some ⟨sb, 0, none⟩)] w fun e w' => e = .returned (.int .i64 n) ∧ w' = w := by
  go_enter Tryd.func22, Tryd.ntmps22
  go_wp2
  go_ret
  exact ⟨rfl, rfl⟩

/-! ### each -/
/-- A stream is closed. -/
theorem StX.shut {w : World} {sb gb s mn av mx m h : Nat} {wt : List Nat} {v : Value} {c : Bool} (S : StX w sb gb s mn av mx m h wt v c) (c' : Bool) : StX (w.setCell ⟨sb, 8, none⟩ (.bool c')) sb gb s mn av mx m h wt v c' := by
  have k : Kp [sb] w (w.setCell ⟨sb, 8, none⟩ (.bool c')) := (Kp.refl _ _).setCell (p := ⟨sb, 8, none⟩) (.inl (by simp)) _
  have ho : ∀ j, j ≠ 8 → (w.setCell ⟨sb, 8, none⟩ (.bool c')).cell? ⟨sb, j, none⟩ = w.cell? ⟨sb, j, none⟩ := fun j hj => cell_other hj
  obtain ⟨f, hf, G⟩ := S.gr
  exact { S with
    lt := by simpa using S.lt
    c0 := (ho 0 (by decide)).trans S.c0, c1 := (ho 1 (by decide)).trans S.c1, c2 := (ho 2 (by decide)).trans S.c2, c3 := (ho 3 (by decide)).trans S.c3, c4 := (ho 4 (by decide)).trans S.c4, c5 := (ho 5 (by decide)).trans S.c5
    c6 := (ho 6 (by decide)).trans S.c6, c7 := (ho 7 (by decide)).trans S.c7, c8 := World.cell?_setCell_same _ _ _ S.c8
    fz := fun j => by simpa using S.fz j
    gr := ⟨f, hf, G.kp k (by simpa using Ne.symm S.ne1)⟩
    own := S.own.row.kp k (fun x hx => by simpa using (S.ne2 x hx).1) }

theorem each_no (s mn av mx : Int) (h : rightB mn av mx = false) (b fv : Value) (w : World) :
    Calls Tryd.prog 26 #[ruleV s mn av mx, b, fv] w fun e w' => e = .returned (.int .i64 1) ∧ Below w.heap.size w w' := by
  have HC := hid (open_no s mn av mx h)
  clear h
  go_enter Tryd.func26, Tryd.ntmps26
  go_wp2_with (go_at_call 19; refine (HC.out _).mono ?_; rintro e w1 ⟨rfl, hb⟩; have HB := hid hb; clear hb)
  go_ret
  exact ⟨rfl, ((Below.refl _ _).alloc (Nat.le_refl _) _).trans (HB.out.mono (by simp))⟩

set_option maxHeartbeats 2000000 in
theorem each_yes {f : FuncId} {caps : Array Value} {T : World → List Nat → List (List Nat) → Prop} (ht : Teller f caps T) (s mn k mx : Nat) (hs : s < M64) (hk : k ≤ 12) (h : rightB mn (2 ^ k : Nat) mx = true) (w : World) (hT : Tab w) (l : List Nat) (hl : T w l [])
    (b : Value) (bs : List Nat) (hb : ByP (· ∉ l) w b bs) (hn : bs.length ≤ 50000) :
    Calls Tryd.prog 26 #[ruleV s mn (2 ^ k : Nat) mx, b, .func (.func f) #[] caps] w fun e w' => e = .returned (.int .i64 0) ∧ ∃ l', T w' l' (split (endB s mn mx (maskAt k)) bs) ∧ Kp l w w' ∧ ∀ x ∈ l', x ∈ l ∨ w.heap.size ≤ x := by
  have HC := hid (open_yes s mn k mx hs hk h)
  have HT := hid hT
  have h2 := hT.lt
  have HL := hid hl
  have HTE := hid ht
  have HBY := hid hb
  obtain ⟨a, cap, rfl, _⟩ := hb
  clear h hT hl ht
  generalize maskAt k = M at *
  generalize 2 ^ k = A at *
  go_enter Tryd.func26, Tryd.ntmps26
  go_wp2_with fail
  refine (HC.out _ (HT.out.below ((Below.refl _ _).alloc (Nat.le_refl _) _) h2)).mono ?_
  rintro e w1 ⟨sb, gb, rfl, S, hsb, hgb, hbel⟩
  have hB1 : Hid (Below w.heap.size w w1) := ((Below.refl _ _).alloc (Nat.le_refl _) _).trans (hbel.mono (by simp))
  have c8 := S.c8
  have f8 := S.fz 8
  have HS := hid (S.shut true)
  have hsb' : w.heap.size ≤ sb := by simp at hsb; omega
  have hgb' : w.heap.size ≤ gb := by simp at hgb; omega
  have hlt1 := hid S.lt
  clear S hbel hsb hgb
  go_upto_region 5 with fail
  have kc : Hid (Kp [sb] w1 (w1.setCell ⟨sb, 8, none⟩ (.bool true))) := (Kp.refl _ _).setCell (p := ⟨sb, 8, none⟩) (.inl (by simp)) _
  generalize w1.setCell ⟨sb, 8, none⟩ (.bool true) = W2 at *
  clear c8 f8
  have hB2 : Hid (Below w.heap.size w W2) := Kp.under hB1.out kc.out (by simpa using hsb') hB1.out.size
  have hkw : Hid (Kp [] w W2) := Kp.below hB2.out
  have T2 : Hid (T W2 l []) := HTE.out.keep _ _ _ [] _ HL.out hkw.out (by simp)
  have hfp : Hid (∀ x ∈ fp sb gb (.slice none 0 0), w.heap.size ≤ x) := by
    intro x hx
    rcases mem_fp.1 hx with rfl | rfl | h
    · exact hsb'
    · exact hgb'
    · simp [Value.ownBlock] at h
  have hbl := hid (HTE.out.lt _ _ _ HL.out)
  go_wp2_with fail
  refine (feed_any HTE.out W2 sb gb s mn A mx M [] (.slice none 0 0) true l [] _ bs (by rw [hashOf, hashFrom_nil]; exact HS.out) T2.out (fun x hx hf => by have := hbl.out x hx; have := hfp.out x hf; omega) ?_ (by simp; omega) (by simp; omega)).mono ?_
  · obtain ⟨a', cap', e, q2, q3, q4, q5, q6, q7⟩ := HBY.out
    refine ⟨a', cap', e, q2, q3, q4, q5, q6, fun hne => ?_⟩
    obtain ⟨g, o, e, hg, hgl, hc⟩ := q7 hne
    exact ⟨g, o, e, ⟨fun hf => by have := hfp.out g hf; omega, hg⟩, Nat.lt_of_lt_of_le hgl hB2.out.size, fun i hi => (hB2.out.cell (p := ⟨g, o + i, none⟩) hgl).trans (hc i hi)⟩
  · rintro e w3 ⟨rfl, hF⟩
    have HF := hid hF
    clear hF
    go_wp2
    go_ret
    obtain ⟨v', lk, S3, T3, K3, hF3, hl3, hd3⟩ := HF.out
    refine ⟨rfl, lk, T3, (hkw.out.mono (m := l) (by simp)).trans K3 (fun x hx => ?_), fun x hx => ?_⟩
    · rcases List.mem_append.1 hx with h | h
      · exact .inr (hfp.out x h)
      · exact .inl h
    · rcases hl3 x hx with h | h
      · exact .inl h
      · have := hB2.out.size
        exact .inr (by omega)

end Go.Proofs.YtinijgkkmfdfiaaDoor
