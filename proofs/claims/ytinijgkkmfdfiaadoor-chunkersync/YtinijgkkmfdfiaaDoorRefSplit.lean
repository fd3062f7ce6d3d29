/-
  The reference's Cut, Split and Sure.
-/
import Derived.Test.YtinijgkkmfdfiaaDoorRefCut
namespace Go.Proofs.YtinijgkkmfdfiaaDoor
open Go.RowKit

/-! ### Cut -/
theorem refCut_no (s mn av mx : Int) (h : rightB mn av mx = false) (b : Value) (w : World) :
    Calls Tryd.prog 15 #[ruleV s mn av mx, b] w fun e w' => e = .returned (.int .i64 0) ∧ Below w.heap.size w w' := by
  have HR := hid h
  clear h
  go_enter Tryd.func15, Tryd.ntmps15
  go_wp2_with (go_at_call 13; refine (right13_any s mn av mx _).mono ?_; rintro e w1 ⟨rfl, hb⟩; rw [HR.out]; have HB := hid hb; clear hb)
  go_ret
  exact ⟨rfl, ((Below.refl _ _).alloc (Nat.le_refl _) _).trans (HB.out.mono (by simp))⟩

theorem right_mk {mn k mx : Nat} (h : rightB mn (2 ^ k : Nat) mx = true) : 1 ≤ mn ∧ mn ≤ mx ∧ mx ≤ 4096 := by
  obtain ⟨h1, h2, h3, h4, _⟩ := (right_iff _ _ _).1 h
  omega

set_option maxHeartbeats 1000000 in
theorem refCut_yes (s mn k mx : Nat) (hs : s < M64) (hk : k ≤ 12) (h : rightB mn (2 ^ k : Nat) mx = true) (b : Value) (bs : List Nat) {P : Nat → Prop} (w : World) (hb : ByP P w b bs) :
    Calls Tryd.prog 15 #[ruleV s mn (2 ^ k : Nat) mx, b] w fun e w' => ∃ n : Nat, e = .returned (.int .i64 n) ∧ (bs = [] → n = 0) ∧ (bs ≠ [] → ∃ u, IsCut (endB s mn mx (maskAt k)) bs n u) ∧ Below w.heap.size w w' := by
  have HR := hid h
  obtain ⟨q1, q2, q3⟩ := right_mk h
  have HC := hid (fun (W : World) (hW : ByP P W b bs) => refCut_any s mn k mx hs hk q1 q2 q3 b bs W hW)
  have HBY := hid hb
  obtain ⟨a, cap, rfl, _⟩ := hb
  clear h
  generalize maskAt k = M at *
  generalize 2 ^ k = A at *
  by_cases h0 : bs = []
  · subst h0
    go_enter Tryd.func15, Tryd.ntmps15
    go_wp2_with (go_at_call 13; refine (right13_any (s : Int) mn A mx _).mono ?_; rintro e w1 ⟨rfl, hb⟩; rw [HR.out]; have HB := hid hb; clear hb)
    go_ret
    exact ⟨0, rfl, fun _ => rfl, fun h => absurd rfl h, ((Below.refl _ _).alloc (Nat.le_refl _) _).trans (HB.out.mono (by simp))⟩
  · have hl : ((bs.length : Int) == 0) = false := by
      have := List.length_pos_iff.2 h0
      simp only [beq_eq_false_iff_ne, ne_eq]
      omega
    go_enter Tryd.func15, Tryd.ntmps15
    go_wp2_with (go_at_call 13; refine (right13_any (s : Int) mn A mx _).mono ?_; rintro e w1 ⟨rfl, hb⟩; rw [HR.out]; have HB : Hid (Below w.heap.size w w1) := ((Below.refl _ _).alloc (Nat.le_refl _) _).trans (hb.mono (by simp)); have d : ∀ j, w1.cell? ⟨w.heap.size, j, none⟩ = _ := fun j => (hb.cell (p := ⟨w.heap.size, j, none⟩) (by simp)).trans (World.cell?_alloc_at _ _ _ _ rfl); have d0 := d 0; have d1 := d 1; have d2 := d 2; have d3 := d 3; have hz1 : w.heap.size < w1.heap.size := (by have := hb.size; simp at this; omega); clear d hb)
    refine (HC.out w1 (HBY.out.below HB.out)).mono ?_
    rintro e w2 ⟨n, u, rfl, hc, hb2⟩
    have HI := hid hc
    have HB2 := hid (HB.out.trans (hb2.mono (by omega)))
    clear hc hb2
    go_wp2
    go_ret
    exact ⟨n, rfl, fun h => absurd h h0, fun _ => ⟨u, HI.out⟩, HB2.out⟩

/-! ### Split -/
theorem refSplit_no (s mn av mx : Int) (h : rightB mn av mx = false) (b : Value) (w : World) :
    Calls Tryd.prog 10 #[ruleV s mn av mx, b] w fun e w' => e = .returned (.tuple #[.slice none 0 0, .int .i64 1]) ∧ Below w.heap.size w w' := by
  have HR := hid h
  clear h
  go_enter Tryd.func10, Tryd.ntmps10
  go_wp2_with (go_at_call 13; refine (right13_any s mn av mx _).mono ?_; rintro e w1 ⟨rfl, hb⟩; rw [HR.out]; have HB := hid hb; clear hb)
  go_ret2
  exact ⟨rfl, ((Below.refl _ _).alloc (Nat.le_refl _) _).trans (HB.out.mono (by simp))⟩

theorem ByP.rest {P : Nat → Prop} {w : World} {a : Option Addr} {n0 cap : Nat} {bs : List Nat} (h : ByP P w (.slice a n0 cap) bs) (n : Nat) (hn : n ≤ bs.length) :
    ByP P w (.slice (if cap = n then a else Option.map (fun x => x.add n) a) (n0 - n) (cap - n)) (bs.drop n) := by
  have e0 : n0 = bs.length := by
    obtain ⟨_, _, e, _⟩ := h
    cases e
    rfl
  by_cases e : cap = n
  · rw [if_pos e]
    obtain ⟨a', cap', e1, h2, h3, h4, h5, h6, h7⟩ := h
    cases e1
    have hd : bs.drop n = [] := List.drop_eq_nil_iff.2 (by omega)
    rw [hd]
    exact ⟨a, cap - n, by simp; omega, by simp, by omega, fun _ => ⟨rfl, by omega⟩, by simp, by simp, fun h => absurd rfl h⟩
  · rw [if_neg e, e0]
    exact h.back n hn
theorem ByP.belowB {P : Nat → Prop} {w w' : World} {v : Value} {bs : List Nat} {B : Nat} (h : ByP P w v bs) (k : Below B w w') (hP : ∀ x, P x → x < B) : ByP P w' v bs := by
  obtain ⟨a, cap, h1, h2, h3, h4, h5, h6, h7⟩ := h
  refine ⟨a, cap, h1, h2, h3, h4, h5, h6, fun hne => ?_⟩
  obtain ⟨g, o, e, hgb, hg, hc⟩ := h7 hne
  exact ⟨g, o, e, hgb, Nat.lt_of_lt_of_le hg k.size, fun i hi => (k.cell (p := ⟨g, o + i, none⟩) (hP g hgb)).trans (hc i hi)⟩

/-- The length of a slice. -/
def lenV : Value → Nat | .slice _ n _ => n | _ => 0

/-- A row, of blocks from B on, of rows of bytes in older blocks. -/
def RL (P : Nat → Prop) (B : Nat) (w : World) (v : Value) (cs : List (List Nat)) : Prop :=
  ∃ vals, Row w 25 v vals ∧ (∀ k, v.ownBlock = some k → B ≤ k) ∧ vals.length = cs.length ∧ ∀ i, i < cs.length → ∃ u, vals[i]? = some u ∧ ByP (fun x => P x ∧ x < B) w u (cs.getD i [])
theorem RL.nil (P : Nat → Prop) (B : Nat) (w : World) : RL P B w (.slice none 0 0) [] := ⟨[], Row.nil _ _, fun k hk => by simp [Value.ownBlock] at hk, rfl, fun i hi => by simp at hi⟩
theorem RL.below {P : Nat → Prop} {B : Nat} {w w' : World} {v : Value} {cs : List (List Nat)} (h : RL P B w v cs) (k : Below w.heap.size w w') : RL P B w' v cs := by
  obtain ⟨vals, h1, h2, h3, h4⟩ := h
  refine ⟨vals, h1.kp (m := []) (Kp.below k) (by simp), h2, h3, fun i hi => ?_⟩
  obtain ⟨u, hu, hb⟩ := h4 i hi
  exact ⟨u, hu, hb.below k⟩
theorem RL.own {P : Nat → Prop} {B : Nat} {w : World} {v : Value} {cs : List (List Nat)} (h : RL P B w v cs) : OwnL (fun x => B ≤ x ∨ P x) w v cs := by
  obtain ⟨vals, h1, h2, h3, h4⟩ := h
  refine ⟨vals, h1, h3, fun i hi => ?_, fun k hk => .inl (h2 k hk)⟩
  obtain ⟨u, hu, hb⟩ := h4 i hi
  exact ⟨u, hu, hb.mono (fun x _ hx => .inr hx.1)⟩
theorem RL.slice {P : Nat → Prop} {B : Nat} {w : World} {v : Value} {cs : List (List Nat)} (h : RL P B w v cs) : ∃ a cap, v = .slice a cs.length cap ∧ cs.length ≤ cap ∧ cap ≤ maxLen := by
  obtain ⟨vals, h1, _, h2, _⟩ := h
  obtain ⟨a, cap, e, q1, q2, q3, _⟩ := h1.shape
  exact ⟨a, cap, by rw [e, h2], by omega, q2⟩
/-- One more, in memory. -/
theorem RL.push {P : Nat → Prop} {B : Nat} {w w1 : World} {v v' u : Value} {cs : List (List Nat)} {c : List Nat} {vals : List Value} (o : Obj) (h2 : ∀ k, v.ownBlock = some k → B ≤ k) (h3 : vals.length = cs.length)
    (h4 : ∀ i, i < cs.length → ∃ u, vals[i]? = some u ∧ ByP (fun x => P x ∧ x < B) w u (cs.getD i [])) (hu : ByP (fun x => P x ∧ x < B) w u c) (hB : B ≤ w.heap.size)
    (hrow : Row w1 25 v' (vals ++ [u])) (hg : (w.alloc o).grownBy w1 v.ownBlock) (hv : v'.ownBlock = v.ownBlock ∨ v'.ownBlock = some (w.alloc o).heap.size) :
    RL P B w1 v' (cs ++ [c]) ∧ Below B w w1 := by
  have ka : Kp [] w (w.alloc o) := (Kp.refl _ _).alloc o
  have kw : Kp v.ownBlock.toList w w1 := (ka.mono (m := v.ownBlock.toList) (by simp)).trans ((Kp.refl _ _).grown (l := v.ownBlock.toList) hg (fun x hx => .inl (by simp [hx]))) (fun x hx => .inl hx)
  have hoff : ∀ x ∈ v.ownBlock.toList, x < w.heap.size → ¬ (P x ∧ x < B) := fun x hx _ hh => by have := h2 x (by simpa using hx); omega
  refine ⟨⟨vals ++ [u], hrow, fun k hk => ?_, by simp [h3], fun i hi => ?_⟩, Kp.under (Below.refl _ _) kw (fun x hx => h2 x (by simpa using hx)) hB⟩
  · rcases hv with e | e
    · exact h2 k (by rw [← e]; exact hk)
    · rw [e] at hk
      have e1 := Option.some.inj hk
      have := ka.size
      omega
  · by_cases e : i < cs.length
    · obtain ⟨x, hx, hb⟩ := h4 i e
      refine ⟨x, by rw [List.getElem?_append_left (by omega)]; exact hx, ?_⟩
      rw [List.getD_eq_getElem?_getD, List.getElem?_append_left e, ← List.getD_eq_getElem?_getD]
      exact hb.kp kw hoff
    · have hi' : i = cs.length := by simp at hi; omega
      subst hi'
      refine ⟨u, by rw [List.getElem?_append_right (by omega), h3]; simp, ?_⟩
      rw [List.getD_eq_getElem?_getD, List.getElem?_append_right (by omega), Nat.sub_self]
      exact hu.kp kw hoff

set_option maxHeartbeats 4000000 in
set_option maxRecDepth 100000 in
theorem refSplit_yes (s mn k mx : Nat) (hs : s < M64) (hk : k ≤ 12) (h : rightB mn (2 ^ k : Nat) mx = true) (b : Value) (bs : List Nat) {P : Nat → Prop} (w : World) (hb : ByP P w b bs) (hn : bs.length ≤ 50000) :
    Calls Tryd.prog 10 #[ruleV s mn (2 ^ k : Nat) mx, b] w fun e w' => ∃ a cap, e = .returned (.tuple #[.slice a (split (endB s mn mx (maskAt k)) bs).length cap, .int .i64 0]) ∧
      OwnL (fun x => w.heap.size ≤ x ∨ P x) w' (.slice a (split (endB s mn mx (maskAt k)) bs).length cap) (split (endB s mn mx (maskAt k)) bs) ∧ Below w.heap.size w w' := by
  have HR := hid h
  have HC := hid (fun (W : World) (b : Value) (bs : List Nat) (hW : ByP (fun x => P x ∧ x < w.heap.size) W b bs) => refCut_yes s mn k mx hs hk h b bs W hW)
  have HBY : Hid (ByP (fun x => P x ∧ x < w.heap.size) w b bs) := hb.mono (fun x hx hp => ⟨hp, hx⟩)
  obtain ⟨a, cap, rfl, _⟩ := hb
  clear h
  generalize maskAt k = M at *
  generalize 2 ^ k = A at *
  generalize hE : endB s mn mx M = E at *
  clear hE
  go_enter Tryd.func10, Tryd.ntmps10
  go_wp2_with (go_at_call 13; refine (right13_any (s : Int) mn A mx _).mono ?_; rintro e w1 ⟨rfl, hb⟩; rw [HR.out]; have HB : Hid (Below w.heap.size w w1) := ((Below.refl _ _).alloc (Nat.le_refl _) _).trans (hb.mono (by simp)); have d : ∀ j, w1.cell? ⟨w.heap.size, j, none⟩ = _ := fun j => (hb.cell (p := ⟨w.heap.size, j, none⟩) (by simp)).trans (World.cell?_alloc_at _ _ _ _ rfl); have HD := hid d; have hz1 : w.heap.size < w1.heap.size := (by have := hb.size; simp at this; omega); clear d hb)
  have hP1 : Hid (∀ (V : World) (v : Value) (c : List Nat), ByP (fun x => P x ∧ x < w.heap.size) V v c → ByP (fun x => (P x ∧ x < w.heap.size) ∧ x < w1.heap.size) V v c) := fun V v c h => h.mono (fun x _ hx => ⟨hx, by omega⟩)
  go_loopw [1, 6, 7] (fun i1 i6 _ wr => ∃ (a' : Option Addr) (n cap' : Nat) (a6 : Option Addr) (n6 cap6 : Nat) (bs' : List Nat) (cs : List (List Nat)), i1 = .slice a' n cap' ∧ i6 = .slice a6 n6 cap6 ∧ n ≤ 50000 ∧ n ≤ cap' ∧ cap' ≤ maxLen ∧ n6 + n ≤ 50000 ∧
      Hid (bs'.length = n ∧ cs.length = n6 ∧ ByP (fun x => P x ∧ x < w.heap.size) wr (.slice a' n cap') bs' ∧ RL (fun x => P x ∧ x < w.heap.size) w1.heap.size wr (.slice a6 n6 cap6) cs ∧ split E bs = cs ++ split E bs' ∧ Below w1.heap.size w1 wr)) (fun i1 _ _ _ => lenV i1)
  case atStart =>
    obtain ⟨_, _, e, q1, q2, _⟩ := HBY.out
    cases e
    exact ⟨_, _, _, _, _, _, bs, [], rfl, rfl, hn, q1, q2, by omega, rfl, rfl, HBY.out.below HB.out, RL.nil _ _ _, rfl, Below.refl _ _⟩
  case round =>
    obtain ⟨a', n, cap', a6, n6, cap6, bs', cs, rfl, rfl, hn1, hn2, hn3, hn6, HH⟩ := hrel
    by_cases h0 : 0 < n
    · have hd : ∀ j, wr.cell? ⟨w.heap.size, j, none⟩ = _ := fun j => (HH.out.2.2.2.2.2.cell (p := ⟨w.heap.size, j, none⟩) hz1).trans (HD.out j)
      have d0 := hd 0
      have d1 := hd 1
      have d2 := hd 2
      have d3 := hd 3
      simp only [List.getElem?_toArray, List.getElem?_cons_zero, List.getElem?_cons_succ] at d0 d1 d2 d3
      clear hd
      have h0' : decide (0 < n) = true := by simpa using h0
      unfold maxLen at hn3
      go_wp2_with fail
      obtain ⟨hl1, hl2, hby, hRL, hsp, hbl⟩ := HH.out
      refine (HC.out wr _ bs' hby).mono ?_
      rintro e w2 ⟨m, rfl, _, hcut, hb2⟩
      obtain ⟨u, hcu⟩ := hcut (by intro e; rw [e] at hl1; simp at hl1; omega)
      obtain ⟨hs1, hs2, hs3⟩ := split_cut (by intro e; rw [e] at hl1; simp at hl1; omega) hcu
      obtain ⟨vals, r1, r2, r3, r4⟩ := hRL.below hb2
      have hbyf := hid (hP1.out _ _ _ ((hby.below hb2).front m hs3))
      have hbyb := hid ((hby.below hb2).rest m hs3)
      have HR1 := hid r1
      have HB2 : Hid (Below w1.heap.size w1 w2) := hbl.trans (hb2.mono hbl.size)
      have hrow0 : Hid (Row (w2.alloc (.cells #[.slice a' m cap'] 25)) 25 (.slice a6 n6 cap6) vals) := r1.kp (m := []) ((Kp.refl _ _).alloc _) (by simp)
      have HP := hid (fun (w3 : World) (v' : Value) => RL.push (w1 := w3) (v' := v') (.cells #[.slice a' m cap'] 25) r2 r3 r4 hbyf.out (by have := HB2.out.size; omega))
      have HV : Hid (vals.length = n6) := by rw [Hid]; omega
      have HSP : Hid (split E bs = (cs ++ [bs'.take m]) ++ split E (bs'.drop m)) := by rw [Hid, hsp, hs1]; simp
      have hm1 : 1 ≤ m := hs2
      have hm2 : m ≤ n := by omega
      have HL1 := hid hl1
      have HL2 := hid hl2
      clear hl1 hl2 hby hRL hsp hbl hb2 hcut hcu hs1 hs2 hs3 r1 r2 r3 r4 HH d0 d1 d2 d3
      go_wp2_with (at_builtin; refine app_rowS _ rfl _ _ 27 25 (.slice none 0 0) 24 rfl Tryd.underlying27 Tryd.info25 rfl (.slice a6 n6 cap6) _ vals [.slice a' m cap'] (n6 + 1) (by rw [HV.out]; rfl) rfl rfl hrow0.out (Src.one _ _ _ rfl) (by omega) (by decide) ?_; intro a2 cap2 w3 hrow hg hv2; have HRO := hid (HP.out w3 _ hrow hg hv2); clear hrow hg hv2)
      go_roundw
      case rel =>
        refine ⟨_, _, _, _, _, _, bs'.drop m, cs ++ [bs'.take m], rfl, rfl, by omega, by omega, by unfold maxLen; omega, by omega, by rw [List.length_drop]; have := HL1.out; omega, by simp [HL2.out], hbyb.out.belowB HRO.out.2 (fun x hx => by omega), HRO.out.1, HSP.out, HB2.out.trans HRO.out.2⟩
      case measure => simp only [lenV]; omega
    · have e : n = 0 := by omega
      subst e
      obtain ⟨hl1, hl2, hby, hRL, hsp, hbl⟩ := HH.out
      have hb0 : bs' = [] := List.length_eq_zero_iff.1 hl1
      subst hb0
      rw [split_nil, List.append_nil] at hsp
      have HO := hid hRL.own
      have HBL : Hid (Below w.heap.size w wr) := HB.out.trans (hbl.mono (by omega))
      rw [← hsp] at hl2 HO
      have HL2 := hid hl2
      clear hl1 hl2 hby hRL hsp hbl HH
      go_wp2
      go_ret2
      refine ⟨a6, cap6, by rw [HL2.out]; rfl, ?_, HBL.out⟩
      rw [HL2.out]
      exact HO.out.mono (fun x _ hx => by
        rcases hx with h | h
        · exact .inl (by omega)
        · exact .inr h.1)

/-! ### Sure -/
set_option maxHeartbeats 4000000 in
set_option maxRecDepth 100000 in
theorem sure_yes (s mn k mx : Nat) (hs : s < M64) (hk : k ≤ 12) (h : rightB mn (2 ^ k : Nat) mx = true) (b : Value) (bs : List Nat) {P : Nat → Prop} (w : World) (hb : ByP P w b bs) (hn : bs.length ≤ 50000) :
    Calls Tryd.prog 20 #[ruleV s mn (2 ^ k : Nat) mx, b] w fun e w' => ∃ a cap a1 cap1, e = .returned (.tuple #[.slice a (feed (endB s mn mx (maskAt k)) [] [] bs).1.length cap, .slice a1 (feed (endB s mn mx (maskAt k)) [] [] bs).2.length cap1]) ∧
      OwnL (fun x => w.heap.size ≤ x ∨ P x) w' (.slice a (feed (endB s mn mx (maskAt k)) [] [] bs).1.length cap) (feed (endB s mn mx (maskAt k)) [] [] bs).1 ∧
      ByP P w' (.slice a1 (feed (endB s mn mx (maskAt k)) [] [] bs).2.length cap1) (feed (endB s mn mx (maskAt k)) [] [] bs).2 ∧ Below w.heap.size w w' := by
  obtain ⟨q1, q2, q3⟩ := right_mk h
  have HC := hid (fun (W : World) (b : Value) (bs : List Nat) (hW : ByP (fun x => P x ∧ x < w.heap.size) W b bs) => refCut_any s mn k mx hs hk q1 q2 q3 b bs W hW)
  have HBY : Hid (ByP (fun x => P x ∧ x < w.heap.size) w b bs) := hb.mono (fun x hx hp => ⟨hp, hx⟩)
  obtain ⟨a, cap, rfl, _⟩ := hb
  clear h
  generalize maskAt k = M at *
  generalize 2 ^ k = A at *
  generalize hE : endB s mn mx M = E at *
  clear hE
  go_enter Tryd.func20, Tryd.ntmps20
  go_wp2_with fail
  have HB : Hid (Below w.heap.size w (w.alloc (.cells #[.int .u64 (s : Int), .int .i64 (mn : Int), .int .i64 (A : Int), .int .i64 (mx : Int)] 24))) := (Below.refl _ _).alloc (Nat.le_refl _) _
  have HD : Hid (∀ j, (w.alloc (.cells #[.int .u64 (s : Int), .int .i64 (mn : Int), .int .i64 (A : Int), .int .i64 (mx : Int)] 24)).cell? ⟨w.heap.size, j, none⟩ = (#[.int .u64 (s : Int), .int .i64 (mn : Int), .int .i64 (A : Int), .int .i64 (mx : Int)] : Array Value)[j]?) := fun j => World.cell?_alloc_at _ _ _ _ rfl
  have hz1 : w.heap.size < (w.alloc (.cells #[.int .u64 (s : Int), .int .i64 (mn : Int), .int .i64 (A : Int), .int .i64 (mx : Int)] 24)).heap.size := by simp
  generalize w.alloc (.cells #[.int .u64 (s : Int), .int .i64 (mn : Int), .int .i64 (A : Int), .int .i64 (mx : Int)] 24) = w1 at *
  have hP1 : Hid (∀ (V : World) (v : Value) (c : List Nat), ByP (fun x => P x ∧ x < w.heap.size) V v c → ByP (fun x => (P x ∧ x < w.heap.size) ∧ x < w1.heap.size) V v c) := fun V v c h => h.mono (fun x _ hx => ⟨hx, by omega⟩)
  have hnot : ∀ (x : Bool) (w : World), (Op.unary .not (.bool x)).run Tryd.prog w = .ok (.bool (!x)) w := fun _ _ => rfl
  have HF : Hid (∀ (wr : World) (a6 : Option Addr) (n6 cap6 : Nat) (cs : List (List Nat)) (a' : Option Addr) (n cap' : Nat) (bs' : List Nat), feed E [] [] bs = (cs, bs') → cs.length = n6 → bs'.length = n → RL (fun x => P x ∧ x < w.heap.size) w1.heap.size wr (.slice a6 n6 cap6) cs → ByP (fun x => P x ∧ x < w.heap.size) wr (.slice a' n cap') bs' → Below w1.heap.size w1 wr →
      ∃ a cap a1 cap1, Ending.returned (.tuple #[.slice a6 n6 cap6, .slice a' n cap']) = .returned (.tuple #[.slice a (feed E [] [] bs).1.length cap, .slice a1 (feed E [] [] bs).2.length cap1]) ∧
      OwnL (fun x => w.heap.size ≤ x ∨ P x) wr (.slice a (feed E [] [] bs).1.length cap) (feed E [] [] bs).1 ∧ ByP P wr (.slice a1 (feed E [] [] bs).2.length cap1) (feed E [] [] bs).2 ∧ Below w.heap.size w wr) := by
    intro wr a6 n6 cap6 cs a' n cap' bs' hf h1 h2 h3 h4 h5
    rw [hf]
    subst h1 h2
    refine ⟨a6, cap6, a', cap', rfl, h3.own.mono (fun x _ hx => ?_), h4.mono (fun x _ hx => hx.1), HB.out.trans (h5.mono (by omega))⟩
    rcases hx with h | h
    · exact .inl (by omega)
    · exact .inr h.1
  go_loopw [1, 6, 7, 8] (fun i1 i6 _ _ wr => ∃ (a' : Option Addr) (n cap' : Nat) (a6 : Option Addr) (n6 cap6 : Nat) (bs' : List Nat) (cs : List (List Nat)), i1 = .slice a' n cap' ∧ i6 = .slice a6 n6 cap6 ∧ n ≤ 50000 ∧ n ≤ cap' ∧ cap' ≤ maxLen ∧ n6 + n ≤ 50000 ∧
      Hid (bs'.length = n ∧ cs.length = n6 ∧ ByP (fun x => P x ∧ x < w.heap.size) wr (.slice a' n cap') bs' ∧ RL (fun x => P x ∧ x < w.heap.size) w1.heap.size wr (.slice a6 n6 cap6) cs ∧ feed E [] [] bs = feed E cs [] bs' ∧ Below w1.heap.size w1 wr)) (fun i1 _ _ _ _ => lenV i1)
  case atStart =>
    obtain ⟨_, _, e, q1, q2, _⟩ := HBY.out
    cases e
    exact ⟨_, _, _, _, _, _, bs, [], rfl, rfl, hn, q1, q2, by omega, rfl, rfl, HBY.out.below HB.out, RL.nil _ _ _, rfl, Below.refl _ _⟩
  case round =>
    obtain ⟨a', n, cap', a6, n6, cap6, bs', cs, rfl, rfl, hn1, hn2, hn3, hn6, HH⟩ := hrel
    by_cases h0 : 0 < n
    · have hd : ∀ j, wr.cell? ⟨w.heap.size, j, none⟩ = _ := fun j => (HH.out.2.2.2.2.2.cell (p := ⟨w.heap.size, j, none⟩) hz1).trans (HD.out j)
      have d0 := hd 0
      have d1 := hd 1
      have d2 := hd 2
      have d3 := hd 3
      simp only [List.getElem?_toArray, List.getElem?_cons_zero, List.getElem?_cons_succ] at d0 d1 d2 d3
      clear hd
      have h0' : decide (0 < n) = true := by simpa using h0
      unfold maxLen at hn3
      go_wp2_with fail
      obtain ⟨hl1, hl2, hby, hRL, hsp, hbl⟩ := HH.out
      refine (HC.out wr _ bs' hby).mono ?_
      rintro e w2 ⟨m, u, rfl, hcu, hb2⟩
      cases u with
      | true =>
        obtain ⟨hs1, hs2, hs3⟩ := sure_step cs hcu
        obtain ⟨vals, r1, r2, r3, r4⟩ := hRL.below hb2
        have hbyf := hid (hP1.out _ _ _ ((hby.below hb2).front m hs3))
        have hbyb := hid ((hby.below hb2).rest m hs3)
        have HB2 : Hid (Below w1.heap.size w1 w2) := hbl.trans (hb2.mono hbl.size)
        have hrow0 : Hid (Row (w2.alloc (.cells #[.slice a' m cap'] 25)) 25 (.slice a6 n6 cap6) vals) := r1.kp (m := []) ((Kp.refl _ _).alloc _) (by simp)
        have HP := hid (fun (w3 : World) (v' : Value) => RL.push (w1 := w3) (v' := v') (.cells #[.slice a' m cap'] 25) r2 r3 r4 hbyf.out (by have := HB2.out.size; omega))
        have HV : Hid (vals.length = n6) := by rw [Hid]; omega
        have HSP : Hid (feed E [] [] bs = feed E (cs ++ [bs'.take m]) [] (bs'.drop m)) := by rw [Hid, hsp, hs1]
        have hm1 : 1 ≤ m := hs2
        have hm2 : m ≤ n := by omega
        have HL1 := hid hl1
        have HL2 := hid hl2
        clear hl1 hl2 hby hRL hsp hbl hb2 hcu hs1 hs2 hs3 r1 r2 r3 r4 HH d0 d1 d2 d3
        go_wp2_with (at_builtin; refine app_rowS _ rfl _ _ 27 25 (.slice none 0 0) 24 rfl Tryd.underlying27 Tryd.info25 rfl (.slice a6 n6 cap6) _ vals [.slice a' m cap'] (n6 + 1) (by rw [HV.out]; rfl) rfl rfl hrow0.out (Src.one _ _ _ rfl) (by omega) (by decide) ?_; intro a2 cap2 w3 hrow hg hv2; have HRO := hid (HP.out w3 _ hrow hg hv2); clear hrow hg hv2)
        go_roundw
        case rel =>
          refine ⟨_, _, _, _, _, _, bs'.drop m, cs ++ [bs'.take m], rfl, rfl, by omega, by omega, by unfold maxLen; omega, by omega, by rw [List.length_drop]; have := HL1.out; omega, by simp [HL2.out], hbyb.out.belowB HRO.out.2 (fun x hx => by omega), HRO.out.1, HSP.out, HB2.out.trans HRO.out.2⟩
        case measure => simp only [lenV]; omega
      | false =>
        obtain ⟨hs1, _⟩ := sure_no cs hcu
        have HX := hid (HF.out w2 a6 n6 cap6 cs a' n cap' bs' (by rw [hsp, hs1]) hl2 hl1 (hRL.below hb2) (hby.below hb2) (hbl.trans (hb2.mono hbl.size)))
        clear hl1 hl2 hby hRL hsp hbl hb2 hcu hs1 HH d0 d1 d2 d3 HF
        go_wp2
        go_ret2
        exact HX.out
    · have e : n = 0 := by omega
      subst e
      obtain ⟨hl1, hl2, hby, hRL, hsp, hbl⟩ := HH.out
      have hb0 : bs' = [] := List.length_eq_zero_iff.1 hl1
      subst hb0
      rw [feed_nil] at hsp
      have HX := hid (HF.out wr a6 n6 cap6 cs a' 0 cap' [] hsp hl2 rfl hRL hby hbl)
      clear hl1 hl2 hby hRL hsp hbl HH HF
      go_wp2
      go_ret2
      exact HX.out

end Go.Proofs.YtinijgkkmfdfiaaDoor
