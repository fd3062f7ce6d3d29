/-
  ChunkerSync, walked: a right rule.
-/
import Derived.Test.YtinijgkkmfdfiaaDoorSyncA
import Derived.Deep.DeepCutAuto
import Derived.Deep.RegionHeld3
import Derived.Deep.QuietTactic
import Derived.BigQuiet
namespace Go.Proofs.YtinijgkkmfdfiaaDoor
open Go.RowKit

set_option maxHeartbeats 4000000 in
set_option maxRecDepth 100000 in
theorem sync_yes (w : World) (s mn k mx : Nat) (hs : s < M64) (hk : k ≤ 12) (hr : rightB mn (2 ^ k : Nat) mx = true) (hT : Tab w)
    (a1 : Option Addr) (na ca : Nat) (xa : List Nat) (hna : na ≤ 300) (hba : ByP (fun x => x < w.heap.size) w (.slice a1 na ca) xa) (hla : xa.length = na)
    (a2 : Option Addr) (nb cb : Nat) (xb : List Nat) (hnb : nb ≤ 300) (hbb : ByP (fun x => x < w.heap.size) w (.slice a2 nb cb) xb) (hlb : xb.length = nb)
    (a3 : Option Addr) (nt ct : Nat) (xt : List Nat) (hnt : nt ≤ 300) (hbt : ByP (fun x => x < w.heap.size) w (.slice a3 nt ct) xt) (hlt : xt.length = nt) :
    Calls Tryd.prog 6 #[ruleV s mn (2 ^ k : Nat) mx, .slice a1 na ca, .slice a2 nb cb, .slice a3 nt ct] w fun e w' => e = .returned (.bool true) ∧ Below w.heap.size w w' := by
  have h2 := hT.lt
  have HT := hid hT
  have HBA := hid hba
  have HBB := hid hbb
  have HBT := hid hbt
  have HLA := hid hla
  have HLB := hid hlb
  have HLT := hid hlt
  have HR := hid hr
  have HSP := hid (fun (V : World) (hV : Tab V) (v : Value) (bs : List Nat) (P : Nat → Prop) (hB : ByP P V v bs) (hn : bs.length ≤ 50000) => split_yes s mn k mx hs hk hr V hV v bs hB hn)
  have HB1 : Hid (Below w.heap.size w (w.alloc (.cells #[.int .u64 (s : Int), .int .i64 (mn : Int), .int .i64 ((2 ^ k : Nat) : Int), .int .i64 (mx : Int)] 24))) := (Below.refl _ _).alloc (Nat.le_refl _) _
  have HQ : Hid (∀ j, (w.alloc (.cells #[.int .u64 (s : Int), .int .i64 (mn : Int), .int .i64 ((2 ^ k : Nat) : Int), .int .i64 (mx : Int)] 24)).cell? ⟨w.heap.size, j, none⟩ = (#[.int .u64 (s : Int), .int .i64 (mn : Int), .int .i64 ((2 ^ k : Nat) : Int), .int .i64 (mx : Int)] : Array Value)[j]?) := fun j => World.cell?_alloc_at _ _ _ _ rfl
  have hz1 : w.heap.size < (w.alloc (.cells #[.int .u64 (s : Int), .int .i64 (mn : Int), .int .i64 ((2 ^ k : Nat) : Int), .int .i64 (mx : Int)] 24)).heap.size := by simp
  have hnot : ∀ (x : Bool) (w : World), (Op.unary .not (.bool x)).run Tryd.prog w = .ok (.bool (!x)) w := fun _ _ => rfl
  have g1 : decide (300 < (na : Int)) = false := by simp; omega
  have g2 : decide (300 < (nb : Int)) = false := by simp; omega
  have g3 : decide (300 < (nt : Int)) = false := by simp; omega
  clear hT hba hbb hbt hla hlb hlt hr
  generalize maskAt k = M at *
  generalize 2 ^ k = A at *
  generalize hE : endB s mn mx M = E at *
  clear hE
  go_enter Tryd.func6, Tryd.ntmps6
  go_upto_region 1 with fail
  generalize w.alloc (.cells #[.int .u64 (s : Int), .int .i64 (mn : Int), .int .i64 (A : Int), .int .i64 (mx : Int)] 24) = W at *
  have r0 : ∀ w', Below W.heap.size W w' → w'.cell? ⟨w.heap.size, 0, none⟩ = some (.int .u64 (s : Int)) := fun w' h => (h.cell (p := ⟨w.heap.size, 0, none⟩) hz1).trans (HQ.out 0)
  have r1 : ∀ w', Below W.heap.size W w' → w'.cell? ⟨w.heap.size, 1, none⟩ = some (.int .i64 (mn : Int)) := fun w' h => (h.cell (p := ⟨w.heap.size, 1, none⟩) hz1).trans (HQ.out 1)
  have r2 : ∀ w', Below W.heap.size W w' → w'.cell? ⟨w.heap.size, 2, none⟩ = some (.int .i64 (A : Int)) := fun w' h => (h.cell (p := ⟨w.heap.size, 2, none⟩) hz1).trans (HQ.out 2)
  have r3 : ∀ w', Below W.heap.size W w' → w'.cell? ⟨w.heap.size, 3, none⟩ = some (.int .i64 (mx : Int)) := fun w' h => (h.cell (p := ⟨w.heap.size, 3, none⟩) hz1).trans (HQ.out 3)
  have b0 : Below W.heap.size W W := Below.refl _ _
  have HTB : Hid (∀ V, Below W.heap.size W V → Tab V) := fun V h => HT.out.below (HB1.out.trans (h.mono (by omega))) h2
  have HBV : Hid (∀ V, Below W.heap.size W V → ∀ v bs, ByP (fun x => x < w.heap.size) w v bs → ByP (fun x => x < w.heap.size) V v bs) := fun V h v bs hb => hb.below (HB1.out.trans (h.mono (by omega)))
  go_wp2_with fail
  refine (right13_any (s : Int) mn A mx W).mono ?_
  rintro e w1 ⟨rfl, b1⟩
  rw [HR.out]
  have hxl : Hid ((cl xa).length = na) := by rw [Hid, cl_length, HLA.out]
  have hyl : Hid ((cl xb).length = nb) := by rw [Hid, cl_length, HLB.out]
  have htl : Hid ((cl xt).length = nt) := by rw [Hid, cl_length, HLT.out]
  obtain ⟨nx, hnx⟩ : ∃ nx, na + nt = nx := ⟨_, rfl⟩
  obtain ⟨ny, hny⟩ : ∃ ny, nb + nt = ny := ⟨_, rfl⟩
  have hm : Hid (∀ (V : World), Row (V.alloc (.cells #[] 5)) 5 (.slice (some ⟨V.heap.size, 0, none⟩) 0 0) []) := fun V => World.ownsRow_made V #[] 0 (Nat.zero_le _) (Nat.zero_le _) rfl
  have HS1 : Hid (Src (w1.alloc (.cells #[] 5)) (.slice a1 na ca) (cl xa)) := ((HBV.out w1 b1 _ _ HBA.out).below ((Below.refl _ _).alloc (Nat.le_refl _) _)).src
  have B1 := hid b1
  clear b1
  go_upto_region 4 with (at_builtin; first
    | (refine app_rowS _ rfl _ _ 25 5 (.int .u8 0) 1 rfl Tryd.underlying25 Tryd.info5 rfl (.slice (some ⟨w1.heap.size, 0, none⟩) 0 0) (.slice a1 na ca) [] (cl xa) na (by rw [hxl.out]; simp) rfl rfl (hm.out w1) HS1.out (by omega) (by decide) ?_; intro aA cA wA hrA hgA hvA; have HPA := hid (app_one hgA hvA); have HRA := hid hrA; have hsrc : Hid (Src wA (.slice a3 nt ct) (cl xt)) := ((HBV.out w1 B1.out _ _ HBT.out).below HPA.out.1).src; clear hrA hgA hvA)
    | (refine app_rowS _ rfl _ _ 25 5 (.int .u8 0) 1 rfl Tryd.underlying25 Tryd.info5 rfl (.slice aA na cA) (.slice a3 nt ct) ([] ++ cl xa) (cl xt) nx (by rw [List.nil_append, hxl.out, htl.out]; exact hnx) rfl rfl HRA.out hsrc.out (by omega) (by decide) ?_; intro ax cx w2 hrB hgB hvB; have HPB := hid (app_two HPA.out hrB hgB hvB (by rw [List.length_append, HLA.out, HLT.out]; omega) (fun x hx => (List.mem_append.1 hx).elim (HBA.out.bts x) (HBT.out.bts x))); clear hrB hgB hvB))
  have B2 : Hid (Below W.heap.size W w2) := B1.out.trans (HPB.out.2.mono B1.out.size)
  have HX2 := hid HPB.out.1
  clear HPA HRA hsrc HPB HS1 B1
  have HS2 : Hid (Src (w2.alloc (.cells #[] 5)) (.slice a2 nb cb) (cl xb)) := ((HBV.out w2 B2.out _ _ HBB.out).below ((Below.refl _ _).alloc (Nat.le_refl _) _)).src
  go_upto_region 5 with (at_builtin; first
    | (refine app_rowS _ rfl _ _ 25 5 (.int .u8 0) 1 rfl Tryd.underlying25 Tryd.info5 rfl (.slice (some ⟨w2.heap.size, 0, none⟩) 0 0) (.slice a2 nb cb) [] (cl xb) nb (by rw [hyl.out]; simp) rfl rfl (hm.out w2) HS2.out (by omega) (by decide) ?_; intro aA cA wA hrA hgA hvA; have HPA := hid (app_one hgA hvA); have HRA := hid hrA; have hsrc : Hid (Src wA (.slice a3 nt ct) (cl xt)) := ((HBV.out w2 B2.out _ _ HBT.out).below HPA.out.1).src; clear hrA hgA hvA)
    | (refine app_rowS _ rfl _ _ 25 5 (.int .u8 0) 1 rfl Tryd.underlying25 Tryd.info5 rfl (.slice aA nb cA) (.slice a3 nt ct) ([] ++ cl xb) (cl xt) ny (by rw [List.nil_append, hyl.out, htl.out]; exact hny) rfl rfl HRA.out hsrc.out (by omega) (by decide) ?_; intro ay cy w3 hrB hgB hvB; have HPB := hid (app_two HPA.out hrB hgB hvB (by rw [List.length_append, HLB.out, HLT.out]; omega) (fun x hx => (List.mem_append.1 hx).elim (HBB.out.bts x) (HBT.out.bts x))); clear hrB hgB hvB))
  have b3 : Below W.heap.size W w3 := B2.out.trans (HPB.out.2.mono B2.out.size)
  have HY3 := hid HPB.out.1
  have HX3 := hid (HX2.out.below HPB.out.2)
  clear HPA HRA hsrc HPB HS2 B2 HX2 hm
  have hLX : Hid ((xa ++ xt).length = nx) := by rw [Hid, List.length_append, HLA.out, HLT.out]; exact hnx
  have hLY : Hid ((xb ++ xt).length = ny) := by rw [Hid, List.length_append, HLB.out, HLT.out]; exact hny
  go_wp2_with fail
  refine (own9_any (s : Int) mn A mx w3).mono ?_
  rintro e w4 ⟨rfl, b4'⟩
  have b4 : Below W.heap.size W w4 := b3.trans (b4'.mono b3.size)
  have HX4 := hid (HX3.out.below b4')
  have HY4 := hid (HY3.out.below b4')
  clear b4' HX3 HY3 b3
  go_wp2_with fail
  refine (HSP.out w4 (HTB.out w4 b4) _ _ _ HX4.out (by rw [hLX.out]; omega)).mono ?_
  rintro e w5 ⟨al, cl5, rfl, hO, b5'⟩
  have b5 : Below W.heap.size W w5 := b4.trans (b5'.mono b4.size)
  have HL5 := hid ((hO.ls (by have := split_len' E (xa ++ xt); have := hLX.out; omega)).mono (Q := fun _ => True) (fun _ _ _ => trivial))
  have HY5 := hid (HY4.out.below b5')
  clear hO b5' HX4 HY4 b4
  have hNL : Hid ((split E (xa ++ xt)).length ≤ 601) := by rw [Hid]; have := split_len' E (xa ++ xt); have := hLX.out; omega
  have hNM : Hid ((split E (xb ++ xt)).length ≤ 601) := by rw [Hid]; have := split_len' E (xb ++ xt); have := hLY.out; omega
  have HMATH := hid (sync_math E xa xb xt)
  have hFX := hid (split_flat (E := E) (xa ++ xt))
  have hFY := hid (split_flat (E := E) (xb ++ xt))
  go_wp2_with fail
  refine (own9_any (s : Int) mn A mx w5).mono ?_
  rintro e w6 ⟨rfl, b6'⟩
  have b6 : Below W.heap.size W w6 := b5.trans (b6'.mono b5.size)
  have HL6 := hid (HL5.out.below b6')
  have HY6 := hid (HY5.out.below b6')
  clear b6' HL5 HY5 b5
  go_wp2_with fail
  refine (HSP.out w6 (HTB.out w6 b6) _ _ _ HY6.out (by rw [hLY.out]; omega)).mono ?_
  rintro e w7 ⟨am, cm7, rfl, hO, b7'⟩
  have B7 : Hid (Below W.heap.size W w7) := b6.trans (b7'.mono b6.size)
  have HM7 := hid ((hO.ls (by have := hNM.out; omega)).mono (Q := fun x => x < w7.heap.size) (fun x hx _ => hx))
  have HL7 := hid ((HL6.out.below b7').mono (Q := fun x => x < w7.heap.size) (fun x hx _ => hx))
  clear hO b7' HY6 HL6 b6 r0 r1 r2 r3 b0 HSP
  generalize hcs : split E (xa ++ xt) = cs at *
  generalize hds : split E (xb ++ xt) = ds at *
  clear hcs hds
  have hnl := hNL.out
  have hnm := hNM.out
  obtain ⟨nl, hnl'⟩ : ∃ n, cs.length = n := ⟨_, rfl⟩
  obtain ⟨nm, hnm'⟩ : ∃ n, ds.length = n := ⟨_, rfl⟩
  have HNL := hid hnl'
  have HNM := hid hnm'
  rw [hnl'] at hnl HL7 ⊢
  rw [hnm'] at hnm HM7 ⊢
  clear hnl' hnm' hNL hNM
  have hcl : nl ≤ cl5 ∧ cl5 ≤ 9223372036854775807 := by
    obtain ⟨_, _, e, e1, e2, _⟩ := HL7.out
    have := HNL.out
    cases e
    unfold maxLen at e2
    omega
  have hcm : nm ≤ cm7 ∧ cm7 ≤ 9223372036854775807 := by
    obtain ⟨_, _, e, e1, e2, _⟩ := HM7.out
    have := HNM.out
    cases e
    unfold maxLen at e2
    omega
  have JL : Hid (∀ i, i ≤ nl → ∀ V, Below w7.heap.size w7 V → Calls Tryd.prog 25 #[.slice al i cl5] V fun e w' => ∃ a cap, e = .returned (.slice a (cs.take i).flatten.length cap) ∧ Below w7.heap.size w7 w') := fun i hi V h =>
    (join_any V _ (cs.take i) ((HL7.out.belowB h (fun x hx => hx)).front i (by have := HNL.out; omega)) (by have := take_flat_le cs i; rw [hFX.out, hLX.out] at this; omega)).mono (fun e w' ⟨a, cap, he, _, hb⟩ => ⟨a, cap, he, h.trans (hb.mono h.size)⟩)
  have JM : Hid (∀ i, i ≤ nm → ∀ V, Below w7.heap.size w7 V → Calls Tryd.prog 25 #[.slice am i cm7] V fun e w' => ∃ a cap, e = .returned (.slice a (ds.take i).flatten.length cap) ∧ Below w7.heap.size w7 w') := fun i hi V h =>
    (join_any V _ (ds.take i) ((HM7.out.belowB h (fun x hx => hx)).front i (by have := HNM.out; omega)) (by have := take_flat_le ds i; rw [hFY.out, hLY.out] at this; omega)).mono (fun e w' ⟨a, cap, he, _, hb⟩ => ⟨a, cap, he, h.trans (hb.mono h.size)⟩)
  have hPL : Hid (∀ i, (cs.take i).flatten.length ≤ nx) := fun i => by have := take_flat_le cs i; rw [hFX.out, hLX.out] at this; exact this
  have hPM : Hid (∀ i, (ds.take i).flatten.length ≤ ny) := fun i => by have := take_flat_le ds i; rw [hFY.out, hLY.out] at this; exact this
  have HEQ : Hid (∀ i j, i ≤ nl → j ≤ nm → na ≤ (cs.take i).flatten.length → (nx : Int) - ((cs.take i).flatten.length : Int) = (ny : Int) - ((ds.take j).flatten.length : Int) → cs.drop i = ds.drop j) := fun i j hi hj h1 h2 => by
    have h := HMATH.out i j (by have := HNL.out; omega) (by have := HNM.out; omega)
    rw [HLA.out, hLX.out, hLY.out] at h
    exact h h1 h2
  have JS : Hid (∀ i j, i ≤ nl → j ≤ nm → cs.drop i = ds.drop j → ∀ V, Below w7.heap.size w7 V → ∀ n, Calls Tryd.prog 16 #[.slice (if cl5 = i then al else Option.map (fun x => x.add i) al) (nl - i) (cl5 - i), .slice (if cm7 = j then am else Option.map (fun x => x.add j) am) (nm - j) (cm7 - j)] (V.drewN n) fun e w' => e = .returned (.bool true) ∧ ∃ m, w' = (V.drewN n).drewN m) := fun i j hi hj he V h n => by
    have h' := h.trans (below_drewN (Below.refl _ _) n)
    have hc := lists_any _ _ (cs.drop i) (ds.drop j) (V.drewN n) ((HL7.out.belowB h' (fun x hx => hx)).rest i (by have := HNL.out; omega)) ((HM7.out.belowB h' (fun x hx => hx)).rest j (by have := HNM.out; omega))
    rw [decide_eq_true he] at hc
    exact hc
  have hTF : Hid (∀ V, Below w7.heap.size w7 V → Tab V ∧ Below w.heap.size w V) := fun V h => ⟨HTB.out V (B7.out.trans (h.mono B7.out.size)), HB1.out.trans ((B7.out.trans (h.mono B7.out.size)).mono (by omega))⟩
  clear HL7 HM7 HMATH hFX hFY HTB HBV HBA HBB HBT B7
  go_wp2_with fail
  go_loopw [15, 16, 17, 18] (fun x15 _ _ _ wr => ∃ z : Int, -1 ≤ z ∧ z ≤ nl ∧ x15 = .int .i64 z ∧ Hid (Below w7.heap.size w7 wr)) (fun x15 _ _ _ _ => (intOf x15 + 1).toNat)
  case atStart => exact ⟨nl, by omega, Int.le_refl _, rfl, Below.refl _ _⟩
  case round =>
    obtain ⟨z, hz0, hz9, rfl, HWR⟩ := hrel
    by_cases hz : 0 ≤ z
    · obtain ⟨i, rfl⟩ : ∃ i : Nat, z = i := ⟨z.toNat, by omega⟩
      go_wp2_with fail
      go_loopw [16, 17, 18] (fun x16 _ _ wr => ∃ z : Int, -1 ≤ z ∧ z ≤ nm ∧ x16 = .int .i64 z ∧ Hid (Below w7.heap.size w7 wr)) (fun x16 _ _ _ => (intOf x16 + 1).toNat)
      case atStart => exact ⟨nm, by omega, Int.le_refl _, rfl, HWR.out⟩
      case round =>
        clear HWR
        obtain ⟨z, hy0, hy9, rfl, HWR⟩ := hrel
        by_cases hy : 0 ≤ z
        · obtain ⟨j, rfl⟩ : ∃ j : Nat, z = j := ⟨z.toNat, by omega⟩
          have hil : i ≤ nl := by omega
          have hjm : j ≤ nm := by omega
          have bb : Below w7.heap.size w7 wr := HWR.out
          have KL := hid (JL.out i hil)
          have KM := hid (JM.out j hjm)
          have pl := hPL.out i
          have pm := hPM.out j
          have KE := hid (HEQ.out i j hil hjm)
          have KS := hid (JS.out i j hil hjm)
          obtain ⟨p, hp⟩ : ∃ p, (cs.take i).flatten.length = p := ⟨_, rfl⟩
          obtain ⟨q, hq⟩ : ∃ q, (ds.take j).flatten.length = q := ⟨_, rfl⟩
          rw [hp] at KL KE pl
          rw [hq] at KM KE pm
          clear hp hq
          have i0 : (0 : Int) ≤ (i : Int) := by omega
          have i1 : (i : Int) ≤ (cl5 : Int) := by omega
          have j0 : (0 : Int) ≤ (j : Int) := by omega
          have j1 : (j : Int) ≤ (cm7 : Int) := by omega
          have bd : Below w7.heap.size w7 wr.drew := bb.drew
          go_wp2_with fail
          go_cut [17, 18] (fun x17 x18 wx => x17 = .int .i64 p ∧ x18 = .int .i64 q ∧ Hid (Below w7.heap.size w7 wx))
          case first =>
            go_region_held3 (fun w' => Below w7.heap.size w7 w') (with_reducible assumption)
              (first
                | (go_at_call 25; refine (KL.out _ ?_).mono ?_; (with_reducible assumption); rintro e w8 ⟨a8, c8, rfl, hb8⟩)
                | (go_at_call 25; refine (KM.out _ ?_).mono ?_; (with_reducible assumption); rintro e w8 ⟨a9, c9, rfl, hb8⟩))
            all_goals go_wp2_with fail
            all_goals go_meet
            all_goals exact ⟨rfl, rfl, hb8⟩
          case rest =>
            obtain ⟨rfl, rfl, HC⟩ := hcut
            clear bb bd HWR KL KM
            by_cases hpa : p < na
            · have d1 : decide (p < na) = true := by simpa using hpa
              go_wp2_with fail
              go_roundw
              case rel => exact ⟨(j : Int) - 1, by omega, by omega, by go_num, HC.out⟩
              case measure => simp [intOf]
            · have d1 : decide (p < na) = false := by simpa using hpa
              by_cases hqq : (nx : Int) - (p : Int) = (ny : Int) - (q : Int)
              · have d2 : ((nx : Int) - (p : Int) != (ny : Int) - (q : Int)) = false := by simpa using hqq
                have KQ := hid (KS.out (KE.out (by omega) hqq) wc HC.out)
                clear hqq
                go_wp2_with fail
                go_quiet ((go_at_call 16; exact Calls.quiet_of (KQ.out _)))
                go_wp2
                go_roundw
                case rel => exact ⟨(j : Int) - 1, by omega, by omega, by go_num, HC.out.trans (below_drewN (Below.refl _ _) _)⟩
                case measure => simp [intOf]
              · have d2 : ((nx : Int) - (p : Int) != (ny : Int) - (q : Int)) = true := by simpa using hqq
                go_wp2_with fail
                go_roundw
                case rel => exact ⟨(j : Int) - 1, by omega, by omega, by go_num, HC.out⟩
                case measure => simp [intOf]
        · obtain rfl : z = -1 := by omega
          go_wp2_with fail
          go_roundw
          case rel => exact ⟨(i : Int) - 1, by omega, by omega, by go_num, HWR.out⟩
          case measure => simp [intOf]
    · obtain rfl : z = -1 := by omega
      go_wp2_with fail
      refine (alive_any wr (hTF.out wr HWR.out).1).mono ?_
      rintro e w8 ⟨rfl, hb8⟩
      have HB8 := hid ((hTF.out wr HWR.out).2.trans (hb8.mono (by have := (hTF.out wr HWR.out).2.size; omega)))
      clear hb8
      go_wp2
      go_ret
      exact ⟨rfl, HB8.out⟩

end Go.Proofs.YtinijgkkmfdfiaaDoor
