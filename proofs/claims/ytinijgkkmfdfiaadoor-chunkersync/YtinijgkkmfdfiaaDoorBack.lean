/-
  ChunkerBack, walked: a right rule.
-/
import Derived.Test.YtinijgkkmfdfiaaDoorStream
import Derived.Test.YtinijgkkmfdfiaaDoorAlive
import Derived.Test.YtinijgkkmfdfiaaDoorJoin
import Derived.Test.YtinijgkkmfdfiaaDoorRefSplit
import Derived.Test.YtinijgkkmfdfiaaDoorRow
import Derived.Deep.DeepCutAuto
namespace Go.Proofs.YtinijgkkmfdfiaaDoor
open Go.RowKit

theorem split_len' (E : List Nat → Bool) (bs : List Nat) : (split E bs).length ≤ bs.length + 1 := by
  have := (feed_count (E := E) bs [] []).1
  unfold split shutL
  split <;> simp at * <;> omega

/-- What was got so far: rows in a row of the call's own. -/
def GotL (B : Nat) (F : List Nat) (w : World) (v : Value) (cs : List (List Nat)) : Prop :=
  ∃ vals, Row w 25 v vals ∧ vals.length = cs.length ∧ (∀ x, v.ownBlock = some x → B ≤ x ∧ x ∉ F) ∧ ∀ i, i < cs.length → ∃ u, vals[i]? = some u ∧ ByP (fun x => B ≤ x ∧ x ∉ F ∧ v.ownBlock ≠ some x) w u (cs.getD i [])

theorem LsP.belowB {P : Nat → Prop} {w w' : World} {v : Value} {cs : List (List Nat)} {B : Nat} (h : LsP P w v cs) (k : Below B w w') (hP : ∀ x, P x → x < B) : LsP P w' v cs := by
  obtain ⟨a, cap, h1, h2, h3, h4, h5, h7⟩ := h
  refine ⟨a, cap, h1, h2, h3, h4, h5, fun hne => ?_⟩
  obtain ⟨g, o, e, hgb, hg, hc⟩ := h7 hne
  refine ⟨g, o, e, hgb, Nat.lt_of_lt_of_le hg k.size, fun i hi => ?_⟩
  obtain ⟨u, hu, hb⟩ := hc i hi
  exact ⟨u, (k.cell (p := ⟨g, o + i, none⟩) (hP g hgb)).trans hu, hb.belowB k hP⟩
theorem GotL.nil (B : Nat) (F : List Nat) (w : World) : GotL B F w (.slice none 0 0) [] := ⟨[], Row.nil _ _, rfl, fun x hx => by simp [Value.ownBlock] at hx, fun i hi => by simp at hi⟩

theorem cut_num (z : Int) (nr : Nat) (h : nr ≤ 300) : ∃ n0 : Nat, (wrap64 (wrap64 (z.tmod ((nr : Int) + 1) + (nr : Int)) + 1)).tmod ((nr : Int) + 1) = (n0 : Int) ∧ n0 ≤ nr := by
  have h1 : z.tmod ((nr : Int) + 1) < (nr : Int) + 1 := Int.tmod_lt_of_pos z (by omega)
  have h2 : -((nr : Int) + 1) < z.tmod ((nr : Int) + 1) := Int.lt_tmod_of_pos z (by omega)
  generalize z.tmod ((nr : Int) + 1) = t at *
  have e1 : wrap64 (t + (nr : Int)) = t + nr := by unfold wrap64; omega
  have e2 : wrap64 (t + (nr : Int) + 1) = t + nr + 1 := by unfold wrap64; omega
  rw [e1, e2]
  have h3 : 0 ≤ t + (nr : Int) + 1 := by omega
  rw [Int.tmod_eq_emod_of_nonneg h3]
  have h4 := Int.emod_nonneg (t + (nr : Int) + 1) (show (nr : Int) + 1 ≠ 0 by omega)
  have h5 := Int.emod_lt_of_pos (t + (nr : Int) + 1) (show 0 < (nr : Int) + 1 by omega)
  exact ⟨((t + (nr : Int) + 1) % ((nr : Int) + 1)).toNat, by omega, by omega⟩

/-- More is got: in memory. -/
theorem GotL.push {B : Nat} {F F' : List Nat} {wr w8 w9 : World} {v v' : Value} {gcs mcs : List (List Nat)} {gvals mvals : List Value}
    (hg1 : Row wr 25 v gvals) (hg2 : gvals.length = gcs.length) (hg3 : ∀ x, v.ownBlock = some x → B ≤ x ∧ x ∉ F) (hg4 : ∀ i, i < gcs.length → ∃ u, gvals[i]? = some u ∧ ByP (fun x => B ≤ x ∧ x ∉ F ∧ v.ownBlock ≠ some x) wr u (gcs.getD i []))
    (hk : Kp F wr w8) (hm2 : mvals.length = mcs.length) (hm4 : ∀ i, i < mcs.length → ∃ u, mvals[i]? = some u ∧ ByP (fun x => wr.heap.size ≤ x ∧ x ∉ F') w8 u (mcs.getD i []))
    (hF : ∀ x ∈ F', x ∈ F ∨ wr.heap.size ≤ x) (hF8 : ∀ x ∈ F', x < w8.heap.size) (hB : B ≤ wr.heap.size)
    (hrow : Row w9 25 v' (gvals ++ mvals)) (hgr : w8.grownBy w9 v.ownBlock) (hv : v'.ownBlock = v.ownBlock ∨ v'.ownBlock = some w8.heap.size) : GotL B F' w9 v' (gcs ++ mcs) := by
  have hvl : ∀ x, v.ownBlock = some x → x < wr.heap.size := hg1.lt
  have hs8 := hk.size
  have hnF : ∀ x, x < wr.heap.size → x ∉ F → x ∉ F' := fun x hx hn hm => by
    rcases hF x hm with h | h
    · exact hn h
    · omega
  have k9 : Kp v.ownBlock.toList w8 w9 := (Kp.refl _ _).grown hgr (fun x hx => .inl (by simp [hx]))
  have hnew : ∀ x, x < w8.heap.size → v.ownBlock ≠ some x → v'.ownBlock ≠ some x := fun x hx hn e => by
    rcases hv with h | h
    · exact hn (by rw [← h]; exact e)
    · rw [h] at e
      have := Option.some.inj e
      omega
  refine ⟨gvals ++ mvals, hrow, by simp [hg2, hm2], fun x hx => ?_, fun i hi => ?_⟩
  · rcases hv with e | e
    · rw [e] at hx
      exact ⟨(hg3 x hx).1, hnF x (hvl x hx) (hg3 x hx).2⟩
    · rw [e] at hx
      have e1 := Option.some.inj hx
      exact ⟨by omega, fun hm => by have := hF8 x hm; omega⟩
  · by_cases e : i < gcs.length
    · obtain ⟨u, hu, hb⟩ := hg4 i e
      refine ⟨u, by rw [List.getElem?_append_left (by omega)]; exact hu, ?_⟩
      rw [List.getD_eq_getElem?_getD, List.getElem?_append_left e, ← List.getD_eq_getElem?_getD]
      have h1 := hb.mono (Q := fun x => x < wr.heap.size ∧ B ≤ x ∧ x ∉ F ∧ v.ownBlock ≠ some x) (fun x hx hp => ⟨hx, hp⟩)
      have h2 := h1.kp hk (fun x hx _ hp => hp.2.2.1 hx)
      have h3 := h2.kp k9 (fun x hx _ hp => hp.2.2.2 (by simpa using hx))
      exact h3.mono (fun x _ hp => ⟨hp.2.1, hnF x hp.1 hp.2.2.1, hnew x (by omega) hp.2.2.2⟩)
    · have hi' : i - gcs.length < mcs.length := by simp at hi; omega
      obtain ⟨u, hu, hb⟩ := hm4 (i - gcs.length) hi'
      refine ⟨u, by rw [List.getElem?_append_right (by omega), hg2]; exact hu, ?_⟩
      rw [List.getD_eq_getElem?_getD, List.getElem?_append_right (by omega), ← List.getD_eq_getElem?_getD]
      have hne : ∀ x, wr.heap.size ≤ x → v.ownBlock ≠ some x := fun x hx e => by have := hvl x e; omega
      have h1 := hb.mono (Q := fun x => x < w8.heap.size ∧ wr.heap.size ≤ x ∧ x ∉ F') (fun x hx hp => ⟨hx, hp⟩)
      have h2 := h1.kp k9 (fun x hx _ hp => hne x hp.2.1 (by simpa using hx))
      exact h2.mono (fun x _ hp => ⟨by omega, hp.2.2, hnew x hp.1 (hne x hp.2.1)⟩)
theorem GotL.kp {B : Nat} {F : List Nat} {w w' : World} {v : Value} {cs : List (List Nat)} {m : List Nat} (h : GotL B F w v cs) (k : Kp m w w') (hm : ∀ x ∈ m, x ∈ F ∨ w.heap.size ≤ x) : GotL B F w' v cs := by
  obtain ⟨vals, h1, h2, h3, h4⟩ := h
  have hn : ∀ x, x < w.heap.size → x ∉ F → x ∉ m := fun x hx hF hx' => by
    rcases hm x hx' with h | h
    · exact hF h
    · omega
  refine ⟨vals, h1.kp k (fun x hx => hn x (h1.lt x hx) (h3 x hx).2), h2, h3, fun i hi => ?_⟩
  obtain ⟨u, hu, hb⟩ := h4 i hi
  exact ⟨u, hu, hb.kp k (fun x hx hx' hp => hn x hx' hp.2.1 hx)⟩
theorem GotL.ls {B : Nat} {F : List Nat} {w : World} {v : Value} {cs : List (List Nat)} (h : GotL B F w v cs) (hl : cs.length ≤ 1000000) : LsP (fun _ => True) w v cs := by
  obtain ⟨vals, h1, h2, h3, h4⟩ := h
  refine OwnL.ls ⟨vals, h1, h2, fun i hi => ?_, fun _ _ => trivial⟩ hl
  obtain ⟨u, hu, hb⟩ := h4 i hi
  exact ⟨u, hu, hb.mono (fun _ _ _ => trivial)⟩
theorem Row.src {w : World} {e : TypeId} {v : Value} {xs : List Value} (h : Row w e v xs) (h1 : ∀ u ∈ xs, u.oneCell' = true) : Src w v xs := by
  rcases h.2 with ⟨rfl, h0⟩ | ⟨g, cap, cur, rfl, hg, hh, hn, hc, hs, ht⟩
  · exact .inl ⟨rfl, List.length_eq_zero_iff.1 h0⟩
  · refine .inr ⟨_, cap, rfl, fun j u hj => ?_, h1⟩
    have h' : w.ownsRow 0 e 1 (.slice (some ⟨g, 0, none⟩) xs.length cap) xs.length xs := h
    have hjl : j < xs.length := (List.getElem?_eq_some_iff.1 hj).1
    rw [addr_add, Nat.zero_add, h'.cellAt j (by omega)]
    exact hj
theorem vals_one {P : Nat → Prop} {w : World} {vals : List Value} {cs : List (List Nat)} (h2 : vals.length = cs.length) (h4 : ∀ i, i < cs.length → ∃ u, vals[i]? = some u ∧ ByP P w u (cs.getD i [])) : ∀ u ∈ vals, u.oneCell' = true := by
  intro u hu
  obtain ⟨i, hi, rfl⟩ := List.getElem_of_mem hu
  obtain ⟨x, hx, hb⟩ := h4 i (by omega)
  rw [List.getElem?_eq_getElem hi] at hx
  cases hx
  obtain ⟨_, _, e, _⟩ := hb
  rw [e]
  rfl

/-- Where the law's second loop stands. -/
def BI (W wr : World) (B sb gb s mn av mx M : Nat) (E : List Nat → Bool) (bs : List Nat) (ag : Option Addr) (ng cg : Nat) (ar : Option Addr) (nr cr : Nat) (Pb : Nat → Prop) : Prop :=
  ∃ v wt gcs rest, StX wr sb gb s mn av mx M (hashOf s wt) wt v false ∧ (∀ x ∈ fp sb gb v, B ≤ x) ∧ GotL B (fp sb gb v) wr (.slice ag ng cg) gcs ∧ gcs.length = ng ∧ ByP Pb wr (.slice ar nr cr) rest ∧ rest.length = nr ∧
    feed E gcs wt rest = feed E [] [] bs ∧ wt.length + nr ≤ 300 ∧ ng + nr ≤ 300 ∧ Below B W wr

set_option maxHeartbeats 4000000 in
set_option maxRecDepth 100000 in
theorem back_yes (w : World) (s mn k mx : Nat) (hs : s < M64) (hk : k ≤ 12) (hr : rightB mn (2 ^ k : Nat) mx = true) (a : Option Addr) (N cap : Nat) (bs : List Nat) (hT : Tab w) (hN : N ≤ 300) (hby : ByP (fun x => x < w.heap.size) w (.slice a N cap) bs) (hbl : bs.length = N)
    (ac : Option Addr) (K cc : Nat) (zs : List Int) (hK : K ≤ 40) (hrow : IsRow .i64 w ac K cc zs) :
    Calls Tryd.prog 5 #[ruleV s mn (2 ^ k : Nat) mx, .slice a N cap, .slice ac K cc] w fun e w' => e = .returned (.bool true) ∧ Below w.heap.size w w' := by
  have h2 := hT.lt
  have HT := hid hT
  have HBY := hid hby
  have HBL := hid hbl
  obtain ⟨q1, q2, q3⟩ := right_mk hr
  have HO := hid (open_yes s mn k mx hs hk hr)
  have HSP := hid (fun (V : World) (hV : Tab V) (hB : ByP (fun x => x < w.heap.size) V (.slice a N cap) bs) => split_yes s mn k mx hs hk hr V hV (.slice a N cap) bs hB (by omega))
  have HSZ := hid (split_sizes (s := s) (m := maskAt k) q1 q2 bs)
  have HFL := hid (split_flat (E := endB s mn mx (maskAt k)) bs)
  have HLN : Hid ((split (endB s mn mx (maskAt k)) bs).length ≤ 301) := by have := split_len' (endB s mn mx (maskAt k)) bs; rw [Hid]; omega
  have HROW := hid hrow
  have HB1 : Hid (Below w.heap.size w (w.alloc (.cells #[.int .u64 (s : Int), .int .i64 (mn : Int), .int .i64 ((2 ^ k : Nat) : Int), .int .i64 (mx : Int)] 24))) := (Below.refl _ _).alloc (Nat.le_refl _) _
  have HQ : Hid (∀ j, (w.alloc (.cells #[.int .u64 (s : Int), .int .i64 (mn : Int), .int .i64 ((2 ^ k : Nat) : Int), .int .i64 (mx : Int)] 24)).cell? ⟨w.heap.size, j, none⟩ = (#[.int .u64 (s : Int), .int .i64 (mn : Int), .int .i64 ((2 ^ k : Nat) : Int), .int .i64 (mx : Int)] : Array Value)[j]?) := fun j => World.cell?_alloc_at _ _ _ _ rfl
  have hz1 : w.heap.size < (w.alloc (.cells #[.int .u64 (s : Int), .int .i64 (mn : Int), .int .i64 ((2 ^ k : Nat) : Int), .int .i64 (mx : Int)] 24)).heap.size := by simp
  have hnot : ∀ (x : Bool) (w : World), (Op.unary .not (.bool x)).run Tryd.prog w = .ok (.bool (!x)) w := fun _ _ => rfl
  clear hT hby hbl hr hrow
  generalize maskAt k = M at *
  generalize 2 ^ k = A at *
  go_enter Tryd.func5, Tryd.ntmps5
  go_upto_region 3 with fail
  generalize w.alloc (.cells #[.int .u64 (s : Int), .int .i64 (mn : Int), .int .i64 (A : Int), .int .i64 (mx : Int)] 24) = W at *
  have r0 : ∀ w', Below W.heap.size W w' → w'.cell? ⟨w.heap.size, 0, none⟩ = some (.int .u64 (s : Int)) := fun w' h => (h.cell (p := ⟨w.heap.size, 0, none⟩) hz1).trans (HQ.out 0)
  have r1 : ∀ w', Below W.heap.size W w' → w'.cell? ⟨w.heap.size, 1, none⟩ = some (.int .i64 (mn : Int)) := fun w' h => (h.cell (p := ⟨w.heap.size, 1, none⟩) hz1).trans (HQ.out 1)
  have r2 : ∀ w', Below W.heap.size W w' → w'.cell? ⟨w.heap.size, 2, none⟩ = some (.int .i64 (A : Int)) := fun w' h => (h.cell (p := ⟨w.heap.size, 2, none⟩) hz1).trans (HQ.out 2)
  have r3 : ∀ w', Below W.heap.size W w' → w'.cell? ⟨w.heap.size, 3, none⟩ = some (.int .i64 (mx : Int)) := fun w' h => (h.cell (p := ⟨w.heap.size, 3, none⟩) hz1).trans (HQ.out 3)
  have b0 : Below W.heap.size W W := Below.refl _ _
  have HTB : Hid (∀ V, Below W.heap.size W V → Tab V) := fun V h => HT.out.below (HB1.out.trans (h.mono (by omega))) h2
  have HBV : Hid (∀ V, Below W.heap.size W V → ByP (fun x => x < w.heap.size) V (.slice a N cap) bs) := fun V h => HBY.out.below (HB1.out.trans (h.mono (by omega)))
  go_wp2_with fail
  refine (own9_any (s : Int) mn A mx W).mono ?_
  rintro e w2 ⟨rfl, b2⟩
  go_wp2_with fail
  refine (HSP.out w2 (HTB.out w2 b2) (HBV.out w2 b2)).mono ?_
  rintro e w3 ⟨al, cl3, rfl, hO, b3'⟩
  have b3 : Below W.heap.size W w3 := b2.trans (b3'.mono b2.size)
  have HL3 := hid ((hO.ls (by have := HLN.out; omega)).mono (Q := fun x => W.heap.size ≤ x ∧ x < w3.heap.size) (fun x hx hp => ⟨by have := b2.size; omega, hx⟩))
  clear hO b3' HSP
  generalize hE : endB s mn mx M = E at *
  have HE := hid hE
  clear hE
  obtain ⟨cs, hcs⟩ : ∃ cs, split E bs = cs := ⟨_, rfl⟩
  have HCS := hid hcs
  rw [hcs] at HL3 HFL HLN HSZ ⊢
  clear hcs b2
  go_wp2_with fail
  refine (join_any w3 _ cs HL3.out (by rw [HFL.out, HBL.out]; omega)).mono ?_
  rintro e w4 ⟨aj, cj, rfl, hj, b4'⟩
  have b4 : Below W.heap.size W w4 := b3.trans (b4'.mono b3.size)
  have HL4 := hid (HL3.out.below b4')
  have HJ := hid hj
  rw [HFL.out] at HJ ⊢
  clear hj b4' HL3 b3
  go_wp2_with fail
  refine (bytes_any _ _ bs bs w4 HJ.out (HBV.out w4 b4)).mono ?_
  rintro e w5 ⟨rfl, q, hq⟩
  rw [decide_eq_true rfl]
  have b5 : Below W.heap.size W w5 := by rw [hq]; exact b4.trans (below_drewN (Below.refl _ _) q)
  have HL5 : Hid (LsP (fun x => W.heap.size ≤ x ∧ x < w3.heap.size) w5 (.slice al cs.length cl3) cs) := by rw [Hid, hq]; exact HL4.out.kp (m := []) ((Kp.refl _ _).drewN q) (by simp)
  clear hq HL4 HJ b4
  have hL := HLN.out
  go_wp2_with fail
  go_loopw [9] (fun x9 wr => ∃ i : Nat, i ≤ cs.length ∧ x9 = .int .i64 i ∧ Hid (Kp [] w5 wr)) (fun x9 _ => cs.length - (intOf x9).toNat)
  case atStart => exact ⟨0, Nat.zero_le _, rfl, Kp.refl _ _⟩
  case round =>
    obtain ⟨i, hi, rfl, HKr⟩ := hrel
    have hkr := HKr.out
    have br : Below W.heap.size W wr := b5.trans ⟨hkr.os, hkr.tape, hkr.output, hkr.size, fun x hx => hkr.block x (by have := b5.size; omega) (by simp)⟩
    clear hkr
    by_cases hlt : i < cs.length
    · have hiI : (i : Int) < (cs.length : Int) := by omega
      obtain ⟨al', cl', em, hm1, hm2, hm3, hm4, hm5⟩ := HL5.out
      cases em
      obtain ⟨gm, om, rfl, _, hgm, hmc⟩ := hm5 (by intro e; rw [e] at hlt; simp at hlt)
      obtain ⟨u, cu', hu⟩ := hmc i hlt
      have cu := (HKr.out.cell (p := ⟨gm, om + i, none⟩) hgm (by simp)).trans cu'
      obtain ⟨au, cpu, rfl, _⟩ := hu
      obtain ⟨z1, z2, z3⟩ := HSZ.out i hlt
      clear hmc hm5 hm3 cu'
      generalize (cs.getD i []).length = D at *
      have hd0 : ((D : Int) == 0) = false := by simp only [beq_eq_false_iff_ne, ne_eq]; omega
      have hd1 : decide (mx < D) = false := by simp; omega
      unfold maxLen at hm2
      by_cases hDm : D < mn
      · have hd2 : decide (D < mn) = true := by simpa using hDm
        have hic : i + 1 = cs.length := by
          apply Nat.le_antisymm (by omega)
          apply Nat.le_of_not_lt
          intro h
          have := z3 h
          omega
        have hd3 : ¬ (i : Int) < (cs.length : Int) - 1 := by omega
        have hd4 : decide ((i : Int) < (cs.length : Int) - 1) = false := by simpa using hd3
        clear z3 hic
        go_wp2_with fail
        go_quiet (fail)
        go_wp2
        go_roundw
        case rel => exact ⟨i + 1, by omega, by go_num, HKr.out.drewN _⟩
        case measure => simp [intOf]; omega
      · have hd2 : decide (D < mn) = false := by simpa using hDm
        clear z3
        go_wp2_with fail
        go_quiet (fail)
        go_wp2
        go_roundw
        case rel => exact ⟨i + 1, by omega, by go_num, HKr.out.drewN _⟩
        case measure => simp [intOf]; omega
    · have HLr := hid (HL5.out.kp HKr.out (by simp))
      clear HKr HL5 b5
      go_wp2_with fail
      refine (own9_any (s : Int) mn A mx wr).mono ?_
      rintro e w6 ⟨rfl, b6'⟩
      have b6 : Below W.heap.size W w6 := br.trans (b6'.mono br.size)
      have HL6 := hid (HLr.out.below b6')
      clear b6' HLr br
      go_wp2_with fail
      refine (HO.out w6 (HTB.out w6 b6)).mono ?_
      rintro e w7 ⟨sb, gb, rfl, S7, hsb, hgb, b7'⟩
      have b7 : Below W.heap.size W w7 := b6.trans (b7'.mono b6.size)
      have HL7 := hid (HL6.out.below b7')
      have hsz6 := b6.size
      have HI7 : Hid (BI w7 w7 w6.heap.size sb gb s mn A mx M E bs none 0 0 a N cap (fun x => x < w.heap.size)) := by
        refine ⟨.slice none 0 0, [], [], bs, by rw [hashOf, hashFrom_nil]; exact S7, fun x hx => ?_, GotL.nil _ _ _, rfl, HBV.out w7 b7, HBL.out, rfl, by simpa using hN, by simpa using hN, Below.refl _ _⟩
        rcases mem_fp.1 hx with rfl | rfl | h
        · exact hsb
        · exact hgb
        · simp [Value.ownBlock] at h
      have HL7' := hid (HL6.out.mono (Q := fun x => x < w6.heap.size) (fun x hx _ => hx) |>.below b7')
      have hz67 := b7'.size
      clear S7 hsb hgb b7' HL6 HL7 b6 r0 r1 r2 r3 HTB HBV
      go_wp2_with fail
      go_loopw [11, 12, 13, 14, 15, 16] (fun x11 x12 x13 _ _ _ wr => ∃ (i : Nat) (ag : Option Addr) (ng cg : Nat) (ar : Option Addr) (nr cr : Nat), i ≤ K ∧ x13 = .int .i64 i ∧ x11 = .slice ag ng cg ∧ x12 = .slice ar nr cr ∧ nr ≤ 300 ∧ Hid (BI w7 wr w6.heap.size sb gb s mn A mx M E bs ag ng cg ar nr cr (fun x => x < w.heap.size))) (fun _ _ x13 _ _ _ _ => K - (intOf x13).toNat)
      case atStart => exact ⟨0, none, 0, 0, a, N, cap, Nat.zero_le _, rfl, rfl, rfl, hN, HI7.out⟩
      case round =>
        clear HI7
        obtain ⟨i, ag, ng, cg, ar, nr, cr, hi, rfl, rfl, rfl, hnr, HI⟩ := hrel
        by_cases hin : i < K ∧ 0 < nr
        · obtain ⟨hiK, hnr0⟩ := hin
          have hd1 : decide (i < K) = true := by simpa using hiK
          have hd2 : decide (0 < nr) = true := by simpa using hnr0
          have hiI : (i : Int) < (K : Int) := by omega
          have hiI0 : (0 : Int) ≤ (i : Int) := by omega
          obtain ⟨xc, exc, hc1, hc2, hc3, hc4, hc5⟩ : ∃ x, ac = some x ∧ K ≤ cc ∧ cc ≤ maxLen ∧ zs.length = cc ∧ (∀ i, i < zs.length → w.cell? (x.add i) = some (.int .i64 (zs.getD i 0))) ∧ ∀ n ∈ zs, (Lit.int .i64 n).wf = true := by
            rcases HROW.out with ⟨_, e, _, _⟩ | h
            · omega
            · exact h
          have cz0 := hc4 0 (by omega)
          have hx0 := spot_none cz0
          obtain ⟨gc, oc, sc⟩ := xc
          simp only at hx0
          subst hx0
          have hgc : gc < w.heap.size := World.block_lt_of_cell? w _ cz0
          have cz := hc4 i (by omega)
          rw [addr_add] at cz
          have hzb := bounds_i64 (hc5 (zs.getD i 0) (by rw [List.getD_eq_getElem?_getD, List.getElem?_eq_getElem (by omega), Option.getD_some]; exact List.getElem_mem _))
          subst exc
          obtain ⟨v, wt, gcs, rest, hS, hfv, hG, hgl, hR, hrl, hfd, hw1, hw2, hbb⟩ := HI.out
          have czr : wr.cell? ⟨gc, oc + i, none⟩ = some (.int .i64 (zs.getD i 0)) := (hbb.cell (p := ⟨gc, oc + i, none⟩) (show gc < w6.heap.size by omega)).trans ((b7.cell (p := ⟨gc, oc + i, none⟩) (show gc < W.heap.size by omega)).trans ((HB1.out.cell (p := ⟨gc, oc + i, none⟩) hgc).trans cz))
          have HALL := hid (And.intro hS (And.intro hfv (And.intro hG (And.intro hgl (And.intro hR (And.intro hrl (And.intro hfd (And.intro hw1 (And.intro hw2 hbb)))))))))
          clear hS hfv hG hgl hR hrl hfd hw1 hw2 hbb cz cz0 hc4 hc5 HI
          generalize zs.getD i 0 = z at *
          obtain ⟨n0, hn0, hn1⟩ := cut_num z nr hnr
          have hcr : nr ≤ cr ∧ cr ≤ 9223372036854775807 := by
            obtain ⟨_, _, e, e1, e2, _⟩ := HALL.out.2.2.2.2.1
            have e3 := HALL.out.2.2.2.2.2.1
            cases e
            unfold maxLen at e2
            omega
          go_wp2_with fail
          obtain ⟨hS, hfv, hG, hgl, hR, hrl, hfd, hw1, hw2, hbb⟩ := HALL.out
          have hwr6 := hbb.size
          refine (write_any wr sb gb s mn A mx M wt v _ (rest.take n0) hS ((hR.front n0 (by omega)).mono (fun x _ hx hf => by have := hfv x hf; omega)) (by have := List.length_take_le n0 rest; omega)).mono ?_
          rw [HE.out]
          rintro e w8 ⟨am, cm, v8, rfl, hS8, hO8, hK8, hF8⟩
          obtain ⟨gvals, g1, g2, g3, g4⟩ := hG
          obtain ⟨mvals, m1, m2, m3, m4⟩ := hO8
          have g18 := hid (g1.kp hK8 (fun x hx hf => (g3 x hx).2 hf))
          have hms := hid (m1.src (vals_one m2 m3))
          have hml : Hid (mvals.length = (feed E [] wt (rest.take n0)).1.length) := m2
          have hgll : Hid (gvals.length = ng) := by rw [Hid]; omega
          have hcount := feed_count (E := E) (rest.take n0) [] wt
          rw [List.length_nil, List.length_take, Nat.zero_add] at hcount
          have hS8l := hS8.fplt
          have HP := hid (fun (w9 : World) (v' : Value) => GotL.push (w9 := w9) (v' := v') g1 g2 g3 g4 hK8 m2 m3 hF8 hS8l (by omega))
          have hng : ∀ x, (Value.slice ag ng cg).ownBlock = some x → x ∉ fp sb gb v8 := fun x hx hf => by
            rcases hF8 x hf with h | h
            · exact (g3 x hx).2 h
            · have := g1.lt x hx
              omega
          have hB8 : Below w6.heap.size w7 w8 := Kp.under hbb hK8 hfv (by omega)
          have hR8 := hR.belowB (B := w6.heap.size) (Kp.under (Below.refl _ _) hK8 hfv (by omega)) (fun x hx => by omega)
          have hfd2 : feed E (gcs ++ (feed E [] wt (rest.take n0)).1) (feed E [] wt (rest.take n0)).2 (rest.drop n0) = feed E [] [] bs := by
            rw [← hfd, show feed E gcs wt rest = feed E gcs wt (rest.take n0 ++ rest.drop n0) by rw [List.take_append_drop], feed_app, feed_out (rest.take n0) gcs wt]
          have HX := hid (And.intro hS8 (And.intro hF8 (And.intro hng (And.intro hB8 (And.intro hR8 hfd2)))))
          have hgo : ∀ x, (Value.slice ag ng cg).ownBlock = some x → w6.heap.size ≤ x := fun x hx => (g3 x hx).1
          have HGO := hid hgo
          have HRL := hid hrl
          have HGL := hid hgl
          have HFV := hid hfv
          have hcnt1 := hcount.1
          have hcnt2 := hcount.2
          clear hS hfv hgl hR hrl hfd hbb HALL hS8 hK8 hF8 g1 g2 g3 g4 m1 m2 m3 m4 hS8l hng hB8 hR8 hfd2 hgo hcount
          generalize feed E [] wt (rest.take n0) = p at *
          go_wp2_with (at_builtin; refine app_rowS w8 rfl _ _ 27 25 (.slice none 0 0) 24 rfl Tryd.underlying27 Tryd.info25 rfl (.slice ag ng cg) _ gvals mvals (ng + p.1.length) (by rw [hgll.out, hml.out]) rfl rfl g18.out hms.out (by omega) (by decide) ?_; intro a9 c9 w9 hrow hg hv2; have HGN := hid (HP.out w9 _ hrow hg hv2); have HGR := hid hg; clear hrow hg hv2)
          have kg : Kp (Value.slice ag ng cg).ownBlock.toList w8 w9 := (Kp.refl _ _).grown HGR.out (fun x hx => .inl (by simp [hx]))
          have k89 : Below w6.heap.size w8 w9 := Kp.under (Below.refl _ _) kg (fun x hx => HGO.out x (by simpa using hx)) (by have := HX.out.2.2.2.1.size; omega)
          refine ⟨⟨i + 1, a9, ng + p.1.length, c9, _, nr - n0, cr - n0, by omega, by go_num, rfl, rfl, by omega, v8, p.2, gcs ++ p.1, rest.drop n0, HX.out.1.kp kg (fun x hx => HX.out.2.2.1 x (by simpa using hx)), fun x hx => ?_, HGN.out, by rw [List.length_append, HGL.out], (HX.out.2.2.2.2.1.rest n0 (by have := HRL.out; omega)).belowB k89 (fun x hx => by omega), by rw [List.length_drop, HRL.out], HX.out.2.2.2.2.2, by have := HRL.out; omega, by have := HRL.out; omega, HX.out.2.2.2.1.trans k89⟩, by simp [intOf]; omega⟩
          rcases HX.out.2.1 x hx with h | h
          · exact HFV.out x h
          · omega
        · have hex : decide (i < K) = false ∨ (decide (i < K) = true ∧ decide (0 < nr) = false) := by
            by_cases hiK : i < K
            · exact .inr ⟨by simpa using hiK, by simp; omega⟩
            · exact .inl (by simpa using hiK)
          have hd0 : Hid (i < K → nr = 0) := fun h => by omega
          clear hin
          by_cases hiK : i < K
          · have hd1 : decide (i < K) = true := by simpa using hiK
            have hd2 : decide (0 < nr) = false := by have := hd0.out hiK; simp [this]
            clear hex
            obtain ⟨v, wt, gcs, rest, hS, hfv, hG, hgl, hR, hrl, hfd, hw1, hw2, hbb⟩ := HI.out
            have hwr6 := hbb.size
            have hcr : nr ≤ cr ∧ cr ≤ 9223372036854775807 := by
              obtain ⟨_, _, e, e1, e2, _⟩ := hR
              cases e
              unfold maxLen at e2
              omega
            have HALL := hid (And.intro hS (And.intro hfv (And.intro hG (And.intro hgl (And.intro hR (And.intro hrl (And.intro hfd (And.intro hw1 (And.intro hw2 hbb)))))))))
            clear hS hfv hG hgl hR hrl hfd hw1 hw2 hbb HI
            go_wp2_with fail
            obtain ⟨hS, hfv, hG, hgl, hR, hrl, hfd, hw1, hw2, hbb⟩ := HALL.out
            refine (write_any wr sb gb s mn A mx M wt v _ rest hS (hR.mono (fun x _ hx hf => by have := hfv x hf; omega)) (by omega)).mono ?_
            rw [HE.out]
            rintro e w8 ⟨am, cm, v8, rfl, hS8, hO8, hK8, hF8⟩
            obtain ⟨gvals, g1, g2, g3, g4⟩ := hG
            obtain ⟨mvals, m1, m2, m3, m4⟩ := hO8
            have g18 := hid (g1.kp hK8 (fun x hx hf => (g3 x hx).2 hf))
            have hms := hid (m1.src (vals_one m2 m3))
            have hml : Hid (mvals.length = (feed E [] wt rest).1.length) := m2
            have hgll : Hid (gvals.length = ng) := by rw [Hid]; omega
            have hcount := feed_count (E := E) rest [] wt
            rw [List.length_nil, Nat.zero_add] at hcount
            have hS8l := hS8.fplt
            have HP := hid (fun (w9 : World) (v' : Value) => GotL.push (w9 := w9) (v' := v') g1 g2 g3 g4 hK8 m2 m3 hF8 hS8l (by omega))
            have hng : ∀ x, (Value.slice ag ng cg).ownBlock = some x → x ∉ fp sb gb v8 := fun x hx hf => by
              rcases hF8 x hf with h | h
              · exact (g3 x hx).2 h
              · have := g1.lt x hx
                omega
            have hB8 : Below w6.heap.size w7 w8 := Kp.under hbb hK8 hfv (by omega)
            have hfd2 : (gcs ++ (feed E [] wt rest).1, (feed E [] wt rest).2) = feed E [] [] bs := by rw [← hfd, feed_out rest gcs wt]
            have hfv8 : ∀ x ∈ fp sb gb v8, w6.heap.size ≤ x := fun x hx => by
              rcases hF8 x hx with h | h
              · exact hfv x h
              · omega
            have HX := hid (And.intro hS8 (And.intro hfv8 (And.intro hng (And.intro hB8 hfd2))))
            have hgo : ∀ x, (Value.slice ag ng cg).ownBlock = some x → w6.heap.size ≤ x := fun x hx => (g3 x hx).1
            have HGO := hid hgo
            have HGL := hid hgl
            have hcnt1 := hcount.1
            have hcnt2 := hcount.2
            have hs68 := hB8.size
            clear hS hfv hgl hR hfd hbb HALL hS8 hK8 hF8 g1 g2 g3 g4 m1 m2 m3 m4 hS8l hng hB8 hfd2 hgo hcount hfv8
            generalize feed E [] wt rest = p at *
            go_wp2_with (first | (at_builtin; refine app_rowS w8 rfl _ _ 27 25 (.slice none 0 0) 24 rfl Tryd.underlying27 Tryd.info25 rfl (.slice ag ng cg) _ gvals mvals (ng + p.1.length) (by rw [hgll.out, hml.out]) rfl rfl g18.out hms.out (by omega) (by decide) ?_; intro a9 c9 w9 hrow hg hv2; have HGN := hid (HP.out w9 _ hrow hg hv2); have HGR := hid hg; clear hrow hg hv2))
            have kg : Kp (Value.slice ag ng cg).ownBlock.toList w8 w9 := (Kp.refl _ _).grown HGR.out (fun x hx => .inl (by simp [hx]))
            have S9 := HX.out.1.kp kg (fun x hx => HX.out.2.2.1 x (by simpa using hx))
            have B9 : Below w6.heap.size w7 w9 := Kp.under HX.out.2.2.2.1 kg (fun x hx => HGO.out x (by simpa using hx)) (by omega)
            have hs9 := B9.size
            refine (close_any w9 sb gb s mn A mx M p.2 v8 S9 (by omega)).mono ?_
            rintro e w10 ⟨ae, ce, rfl, hbe, _, _, _, hk10⟩
            have B10 : Below w6.heap.size w7 w10 := Kp.under B9 hk10 HX.out.2.1 (by omega)
            have hs10 := hk10.size
            obtain ⟨hv9, g91, g92, g93, g94⟩ := HGN.out
            have HBE := hid hbe
            have HK10 := hid hk10
            have HB10 := hid B10
            have HG9 := hid (And.intro g91 (And.intro g92 (And.intro g93 g94)))
            have hfin : Hid (shutL (gcs ++ p.1, p.2) = cs) := by rw [Hid, HX.out.2.2.2.2, ← HCS.out]; rfl
            have hTw : Hid (∀ V, Below w6.heap.size w7 V → Tab V) := fun V h => (HT.out.below (HB1.out.trans (b7.mono (by omega))) h2).below h (by omega)
            have hBw : Hid (∀ V, Below w6.heap.size w7 V → Below w.heap.size w V) := fun V h => (HB1.out.trans (b7.mono (by omega))).trans (h.mono (by omega))
            have hLw : Hid (∀ V, Below w6.heap.size w7 V → LsP (fun x => x < w6.heap.size) V (.slice al cs.length cl3) cs) := fun V h => HL7'.out.belowB h (fun x hx => hx)
            have hgL : Hid ((gcs ++ p.1).length = ng + p.1.length) := by rw [Hid, List.length_append, HGL.out]
            clear kg S9 B9 hbe hk10 B10 g91 g92 g93 g94 HX HP g18 hms
            have hp2 : p.2.length ≤ 300 := by omega
            by_cases hp0 : p.2 = []
            · have hd5 : decide (0 < p.2.length) = false := by simp [hp0]
              have hfe : Hid (gcs ++ p.1 = cs) := by have h := hfin.out; rw [shutL, if_pos hp0] at h; exact h
              have HGF := hid (GotL.ls (HGN.out.kp HK10.out (fun x hx => .inl hx)) (by rw [hgL.out]; omega))
              rw [hfe.out] at HGF
              clear hp0
              go_wp2_with (first
                | (go_at_call 16; refine (lists_any _ _ cs cs w10 HGF.out (hLw.out w10 HB10.out)).mono ?_; rintro e w11 ⟨rfl, q, hq⟩; rw [decide_eq_true rfl]; have HB11 : Hid (Below w6.heap.size w7 w11) := (by rw [hq]; exact HB10.out.trans ((below_drewN (Below.refl _ _) q).mono (by omega))); clear hq)
                | (go_at_call 7; refine (alive_any w11 (hTw.out w11 HB11.out)).mono ?_; rintro e w12 ⟨rfl, hb12⟩; have HB12 := hid (HB11.out.trans (hb12.mono (by have := HB11.out.size; omega))); clear hb12))
              go_ret
              exact ⟨rfl, hBw.out _ HB12.out⟩
            · have hd5 : decide (0 < p.2.length) = true := by simpa using List.length_pos_iff.2 hp0
              have hfe : Hid (gcs ++ p.1 ++ [p.2] = cs) := by have h := hfin.out; rw [shutL, if_neg hp0] at h; exact h
              have hkA : Hid (Kp (fp sb gb v8) w9 (w10.alloc (.cells #[.slice ae p.2.length ce] 25))) := HK10.out.alloc _
              have hrA : Hid (Row (w10.alloc (.cells #[.slice ae p.2.length ce] 25)) 25 (.slice a9 (ng + p.1.length) c9) hv9) := HG9.out.1.kp hkA.out (fun x hx hf => (HG9.out.2.2.1 x hx).2 hf)
              have hvl : Hid (hv9.length = ng + p.1.length) := by rw [Hid, HG9.out.2.1, hgL.out]
              have HPE := hid (fun (w11 : World) (v' : Value) => GotL.push (F' := []) (w9 := w11) (v' := v') (mcs := [p.2]) (mvals := [.slice ae p.2.length ce]) HG9.out.1 HG9.out.2.1 HG9.out.2.2.1 HG9.out.2.2.2 hkA.out rfl (fun i hi => by
                have hi0 : i = 0 := by simpa using hi
                subst hi0
                exact ⟨_, rfl, (HBE.out.mono (Q := fun x => w9.heap.size ≤ x ∧ x ∉ []) (fun x _ hx => ⟨hx, by simp⟩)).kp (m := []) ((Kp.refl _ _).alloc _) (by simp)⟩) (by simp) (by simp) (by omega))
              clear hp0
              go_wp2_with (first
                | (at_builtin; refine app_rowS (w10.alloc (.cells #[.slice ae p.2.length ce] 25)) rfl _ _ 27 25 (.slice none 0 0) 24 rfl Tryd.underlying27 Tryd.info25 rfl (.slice a9 (ng + p.1.length) c9) _ hv9 [.slice ae p.2.length ce] (ng + p.1.length + 1) (by rw [hvl.out]; rfl) rfl rfl hrA.out (Src.one _ _ _ rfl) (by omega) (by decide) ?_; intro a11 c11 w11 hrow hg hv2; have HGE := hid (HPE.out w11 _ hrow hg hv2); have HB11 : Hid (Below w6.heap.size w7 w11) := (HB10.out.alloc (by omega) _).grown hg (by simp; omega) (fun x hx => (HG9.out.2.2.1 x hx).1); have HGF := hid (GotL.ls HGE.out (by rw [List.length_append, hgL.out]; simp; omega)); rw [hfe.out] at HGF; clear hrow hg hv2)
                | (go_at_call 16; refine (lists_any _ _ cs cs w11 HGF.out (hLw.out w11 HB11.out)).mono ?_; rintro e w12 ⟨rfl, q, hq⟩; rw [decide_eq_true rfl]; have HB12 : Hid (Below w6.heap.size w7 w12) := (by rw [hq]; exact HB11.out.trans ((below_drewN (Below.refl _ _) q).mono (by have := HB11.out.size; omega))); clear hq)
                | (go_at_call 7; refine (alive_any w12 (hTw.out w12 HB12.out)).mono ?_; rintro e w13 ⟨rfl, hb13⟩; have HB13 := hid (HB12.out.trans (hb13.mono (by have := HB12.out.size; omega))); clear hb13))
              go_ret
              exact ⟨rfl, hBw.out _ HB13.out⟩
          · have hd1 : decide (i < K) = false := by simpa using hiK
            clear hex
            obtain ⟨v, wt, gcs, rest, hS, hfv, hG, hgl, hR, hrl, hfd, hw1, hw2, hbb⟩ := HI.out
            have hwr6 := hbb.size
            have hcr : nr ≤ cr ∧ cr ≤ 9223372036854775807 := by
              obtain ⟨_, _, e, e1, e2, _⟩ := hR
              cases e
              unfold maxLen at e2
              omega
            have HALL := hid (And.intro hS (And.intro hfv (And.intro hG (And.intro hgl (And.intro hR (And.intro hrl (And.intro hfd (And.intro hw1 (And.intro hw2 hbb)))))))))
            clear hS hfv hG hgl hR hrl hfd hw1 hw2 hbb HI
            go_wp2_with fail
            obtain ⟨hS, hfv, hG, hgl, hR, hrl, hfd, hw1, hw2, hbb⟩ := HALL.out
            refine (write_any wr sb gb s mn A mx M wt v _ rest hS (hR.mono (fun x _ hx hf => by have := hfv x hf; omega)) (by omega)).mono ?_
            rw [HE.out]
            rintro e w8 ⟨am, cm, v8, rfl, hS8, hO8, hK8, hF8⟩
            obtain ⟨gvals, g1, g2, g3, g4⟩ := hG
            obtain ⟨mvals, m1, m2, m3, m4⟩ := hO8
            have g18 := hid (g1.kp hK8 (fun x hx hf => (g3 x hx).2 hf))
            have hms := hid (m1.src (vals_one m2 m3))
            have hml : Hid (mvals.length = (feed E [] wt rest).1.length) := m2
            have hgll : Hid (gvals.length = ng) := by rw [Hid]; omega
            have hcount := feed_count (E := E) rest [] wt
            rw [List.length_nil, Nat.zero_add] at hcount
            have hS8l := hS8.fplt
            have HP := hid (fun (w9 : World) (v' : Value) => GotL.push (w9 := w9) (v' := v') g1 g2 g3 g4 hK8 m2 m3 hF8 hS8l (by omega))
            have hng : ∀ x, (Value.slice ag ng cg).ownBlock = some x → x ∉ fp sb gb v8 := fun x hx hf => by
              rcases hF8 x hf with h | h
              · exact (g3 x hx).2 h
              · have := g1.lt x hx
                omega
            have hB8 : Below w6.heap.size w7 w8 := Kp.under hbb hK8 hfv (by omega)
            have hfd2 : (gcs ++ (feed E [] wt rest).1, (feed E [] wt rest).2) = feed E [] [] bs := by rw [← hfd, feed_out rest gcs wt]
            have hfv8 : ∀ x ∈ fp sb gb v8, w6.heap.size ≤ x := fun x hx => by
              rcases hF8 x hx with h | h
              · exact hfv x h
              · omega
            have HX := hid (And.intro hS8 (And.intro hfv8 (And.intro hng (And.intro hB8 hfd2))))
            have hgo : ∀ x, (Value.slice ag ng cg).ownBlock = some x → w6.heap.size ≤ x := fun x hx => (g3 x hx).1
            have HGO := hid hgo
            have HGL := hid hgl
            have hcnt1 := hcount.1
            have hcnt2 := hcount.2
            have hs68 := hB8.size
            clear hS hfv hgl hR hfd hbb HALL hS8 hK8 hF8 g1 g2 g3 g4 m1 m2 m3 m4 hS8l hng hB8 hfd2 hgo hcount hfv8
            generalize feed E [] wt rest = p at *
            go_wp2_with (first | (at_builtin; refine app_rowS w8 rfl _ _ 27 25 (.slice none 0 0) 24 rfl Tryd.underlying27 Tryd.info25 rfl (.slice ag ng cg) _ gvals mvals (ng + p.1.length) (by rw [hgll.out, hml.out]) rfl rfl g18.out hms.out (by omega) (by decide) ?_; intro a9 c9 w9 hrow hg hv2; have HGN := hid (HP.out w9 _ hrow hg hv2); have HGR := hid hg; clear hrow hg hv2))
            have kg : Kp (Value.slice ag ng cg).ownBlock.toList w8 w9 := (Kp.refl _ _).grown HGR.out (fun x hx => .inl (by simp [hx]))
            have S9 := HX.out.1.kp kg (fun x hx => HX.out.2.2.1 x (by simpa using hx))
            have B9 : Below w6.heap.size w7 w9 := Kp.under HX.out.2.2.2.1 kg (fun x hx => HGO.out x (by simpa using hx)) (by omega)
            have hs9 := B9.size
            refine (close_any w9 sb gb s mn A mx M p.2 v8 S9 (by omega)).mono ?_
            rintro e w10 ⟨ae, ce, rfl, hbe, _, _, _, hk10⟩
            have B10 : Below w6.heap.size w7 w10 := Kp.under B9 hk10 HX.out.2.1 (by omega)
            have hs10 := hk10.size
            obtain ⟨hv9, g91, g92, g93, g94⟩ := HGN.out
            have HBE := hid hbe
            have HK10 := hid hk10
            have HB10 := hid B10
            have HG9 := hid (And.intro g91 (And.intro g92 (And.intro g93 g94)))
            have hfin : Hid (shutL (gcs ++ p.1, p.2) = cs) := by rw [Hid, HX.out.2.2.2.2, ← HCS.out]; rfl
            have hTw : Hid (∀ V, Below w6.heap.size w7 V → Tab V) := fun V h => (HT.out.below (HB1.out.trans (b7.mono (by omega))) h2).below h (by omega)
            have hBw : Hid (∀ V, Below w6.heap.size w7 V → Below w.heap.size w V) := fun V h => (HB1.out.trans (b7.mono (by omega))).trans (h.mono (by omega))
            have hLw : Hid (∀ V, Below w6.heap.size w7 V → LsP (fun x => x < w6.heap.size) V (.slice al cs.length cl3) cs) := fun V h => HL7'.out.belowB h (fun x hx => hx)
            have hgL : Hid ((gcs ++ p.1).length = ng + p.1.length) := by rw [Hid, List.length_append, HGL.out]
            clear kg S9 B9 hbe hk10 B10 g91 g92 g93 g94 HX HP g18 hms
            have hp2 : p.2.length ≤ 300 := by omega
            by_cases hp0 : p.2 = []
            · have hd5 : decide (0 < p.2.length) = false := by simp [hp0]
              have hfe : Hid (gcs ++ p.1 = cs) := by have h := hfin.out; rw [shutL, if_pos hp0] at h; exact h
              have HGF := hid (GotL.ls (HGN.out.kp HK10.out (fun x hx => .inl hx)) (by rw [hgL.out]; omega))
              rw [hfe.out] at HGF
              clear hp0
              go_wp2_with (first
                | (go_at_call 16; refine (lists_any _ _ cs cs w10 HGF.out (hLw.out w10 HB10.out)).mono ?_; rintro e w11 ⟨rfl, q, hq⟩; rw [decide_eq_true rfl]; have HB11 : Hid (Below w6.heap.size w7 w11) := (by rw [hq]; exact HB10.out.trans ((below_drewN (Below.refl _ _) q).mono (by omega))); clear hq)
                | (go_at_call 7; refine (alive_any w11 (hTw.out w11 HB11.out)).mono ?_; rintro e w12 ⟨rfl, hb12⟩; have HB12 := hid (HB11.out.trans (hb12.mono (by have := HB11.out.size; omega))); clear hb12))
              go_ret
              exact ⟨rfl, hBw.out _ HB12.out⟩
            · have hd5 : decide (0 < p.2.length) = true := by simpa using List.length_pos_iff.2 hp0
              have hfe : Hid (gcs ++ p.1 ++ [p.2] = cs) := by have h := hfin.out; rw [shutL, if_neg hp0] at h; exact h
              have hkA : Hid (Kp (fp sb gb v8) w9 (w10.alloc (.cells #[.slice ae p.2.length ce] 25))) := HK10.out.alloc _
              have hrA : Hid (Row (w10.alloc (.cells #[.slice ae p.2.length ce] 25)) 25 (.slice a9 (ng + p.1.length) c9) hv9) := HG9.out.1.kp hkA.out (fun x hx hf => (HG9.out.2.2.1 x hx).2 hf)
              have hvl : Hid (hv9.length = ng + p.1.length) := by rw [Hid, HG9.out.2.1, hgL.out]
              have HPE := hid (fun (w11 : World) (v' : Value) => GotL.push (F' := []) (w9 := w11) (v' := v') (mcs := [p.2]) (mvals := [.slice ae p.2.length ce]) HG9.out.1 HG9.out.2.1 HG9.out.2.2.1 HG9.out.2.2.2 hkA.out rfl (fun i hi => by
                have hi0 : i = 0 := by simpa using hi
                subst hi0
                exact ⟨_, rfl, (HBE.out.mono (Q := fun x => w9.heap.size ≤ x ∧ x ∉ []) (fun x _ hx => ⟨hx, by simp⟩)).kp (m := []) ((Kp.refl _ _).alloc _) (by simp)⟩) (by simp) (by simp) (by omega))
              clear hp0
              go_wp2_with (first
                | (at_builtin; refine app_rowS (w10.alloc (.cells #[.slice ae p.2.length ce] 25)) rfl _ _ 27 25 (.slice none 0 0) 24 rfl Tryd.underlying27 Tryd.info25 rfl (.slice a9 (ng + p.1.length) c9) _ hv9 [.slice ae p.2.length ce] (ng + p.1.length + 1) (by rw [hvl.out]; rfl) rfl rfl hrA.out (Src.one _ _ _ rfl) (by omega) (by decide) ?_; intro a11 c11 w11 hrow hg hv2; have HGE := hid (HPE.out w11 _ hrow hg hv2); have HB11 : Hid (Below w6.heap.size w7 w11) := (HB10.out.alloc (by omega) _).grown hg (by simp; omega) (fun x hx => (HG9.out.2.2.1 x hx).1); have HGF := hid (GotL.ls HGE.out (by rw [List.length_append, hgL.out]; simp; omega)); rw [hfe.out] at HGF; clear hrow hg hv2)
                | (go_at_call 16; refine (lists_any _ _ cs cs w11 HGF.out (hLw.out w11 HB11.out)).mono ?_; rintro e w12 ⟨rfl, q, hq⟩; rw [decide_eq_true rfl]; have HB12 : Hid (Below w6.heap.size w7 w12) := (by rw [hq]; exact HB11.out.trans ((below_drewN (Below.refl _ _) q).mono (by have := HB11.out.size; omega))); clear hq)
                | (go_at_call 7; refine (alive_any w12 (hTw.out w12 HB12.out)).mono ?_; rintro e w13 ⟨rfl, hb13⟩; have HB13 := hid (HB12.out.trans (hb13.mono (by have := HB12.out.size; omega))); clear hb13))
              go_ret
              exact ⟨rfl, hBw.out _ HB13.out⟩

end Go.Proofs.YtinijgkkmfdfiaaDoor
