/-
  ChunkerCuts, walked: over whatever the calls answer.
-/
import Derived.Test.YtinijgkkmfdfiaaDoorAlive
import Derived.Test.YtinijgkkmfdfiaaDoorRefSplit
import Derived.Deep.RegionHeld3
namespace Go.Proofs.YtinijgkkmfdfiaaDoor
open Go.RowKit

theorem usual_eq (w : World) : (binOp .eql 24 (ruleV 0 16 32 64) (ruleV 0 16 32 64)).run Tryd.prog w = .ok (.bool true) w := by kernel_rfl

/-- What the calls answer, in whatever world that has grown out of W. -/
structure CutsSay (W : World) (s mn av mx : Int) (b : Value) (cs : List (List Nat)) (F : Int) (N : Nat) (R : Bool) : Prop where
  k8 : ∀ V, Below W.heap.size W V → Calls Tryd.prog 8 #[ruleV s mn av mx, b] V fun e w' => ∃ a cap, e = .returned (.tuple #[.slice a cs.length cap, .int .i64 F]) ∧ LsP (fun _ => True) w' (.slice a cs.length cap) cs ∧ Below V.heap.size V w'
  k10 : ∀ V, Below W.heap.size W V → Calls Tryd.prog 10 #[ruleV s mn av mx, b] V fun e w' => ∃ a cap, e = .returned (.tuple #[.slice a cs.length cap, .int .i64 F]) ∧ LsP (fun _ => True) w' (.slice a cs.length cap) cs ∧ Below V.heap.size V w'
  k11 : ∀ V, Below W.heap.size W V → Calls Tryd.prog 11 #[ruleV s mn av mx, b] V fun e w' => ∃ a cap, e = .returned (.tuple #[.slice a cs.length cap, .int .i64 F]) ∧ Row w' 3 (.slice a cs.length cap) (il (endsN cs)) ∧ Below V.heap.size V w'
  k12 : ∀ V, Below W.heap.size W V → Calls Tryd.prog 12 #[ruleV s mn av mx] V fun e w' => e = .returned (.bool R) ∧ Below V.heap.size V w'
  k13 : ∀ V, Below W.heap.size W V → Calls Tryd.prog 13 #[ruleV s mn av mx] V fun e w' => e = .returned (.bool R) ∧ Below V.heap.size V w'
  k14 : ∀ V, Below W.heap.size W V → Calls Tryd.prog 14 #[ruleV s mn av mx, b] V fun e w' => e = .returned (.int .i64 N) ∧ Below V.heap.size V w'
  k15 : ∀ V, Below W.heap.size W V → Calls Tryd.prog 15 #[ruleV s mn av mx, b] V fun e w' => e = .returned (.int .i64 N) ∧ Below V.heap.size V w'

set_option maxHeartbeats 4000000 in
set_option maxRecDepth 100000 in
theorem cuts_walk (w : World) (s mn av mx : Int) (a : Option Addr) (n cap : Nat) (cs : List (List Nat)) (F : Int) (N : Nat) (R : Bool) (hT : Tab w) (hn : n ≤ 300) (hcs : cs.length ≤ 1000) (hfl : cs.flatten.length ≤ 1000000)
    (H : CutsSay (w.alloc (.cells #[.int .u64 s, .int .i64 mn, .int .i64 av, .int .i64 mx] 24)) s mn av mx (.slice a n cap) cs F N R) :
    Calls Tryd.prog 3 #[ruleV s mn av mx, .slice a n cap] w fun e w' => e = .returned (.bool true) ∧ Below w.heap.size w w' := by
  have h2 := hT.lt
  have HT := hid hT
  have HH := hid H
  have HB1 : Hid (Below w.heap.size w (w.alloc (.cells #[.int .u64 s, .int .i64 mn, .int .i64 av, .int .i64 mx] 24))) := (Below.refl _ _).alloc (Nat.le_refl _) _
  have HQ : Hid (∀ j, (w.alloc (.cells #[.int .u64 s, .int .i64 mn, .int .i64 av, .int .i64 mx] 24)).cell? ⟨w.heap.size, j, none⟩ = (#[.int .u64 s, .int .i64 mn, .int .i64 av, .int .i64 mx] : Array Value)[j]?) := fun j => World.cell?_alloc_at _ _ _ _ rfl
  have hz1 : w.heap.size < (w.alloc (.cells #[.int .u64 s, .int .i64 mn, .int .i64 av, .int .i64 mx] 24)).heap.size := by simp
  clear hT H
  go_enter Tryd.func3, Tryd.ntmps3
  go_upto_region 3 with fail
  generalize w.alloc (.cells #[.int .u64 s, .int .i64 mn, .int .i64 av, .int .i64 mx] 24) = W at *
  have r0 : ∀ w', Below W.heap.size W w' → w'.cell? ⟨w.heap.size, 0, none⟩ = some (.int .u64 s) := fun w' h => (h.cell (p := ⟨w.heap.size, 0, none⟩) hz1).trans (HQ.out 0)
  have r1 : ∀ w', Below W.heap.size W w' → w'.cell? ⟨w.heap.size, 1, none⟩ = some (.int .i64 mn) := fun w' h => (h.cell (p := ⟨w.heap.size, 1, none⟩) hz1).trans (HQ.out 1)
  have r2 : ∀ w', Below W.heap.size W w' → w'.cell? ⟨w.heap.size, 2, none⟩ = some (.int .i64 av) := fun w' h => (h.cell (p := ⟨w.heap.size, 2, none⟩) hz1).trans (HQ.out 2)
  have r3 : ∀ w', Below W.heap.size W w' → w'.cell? ⟨w.heap.size, 3, none⟩ = some (.int .i64 mx) := fun w' h => (h.cell (p := ⟨w.heap.size, 3, none⟩) hz1).trans (HQ.out 3)
  have b0 : Below W.heap.size W W := Below.refl _ _
  go_wp2_with fail
  refine (own9_any s mn av mx W).mono ?_
  rintro e w2 ⟨rfl, b2⟩
  go_wp2_with fail
  refine (HH.out.k8 w2 b2).mono ?_
  rintro e w3 ⟨al, cl, rfl, hl, b3'⟩
  have HL3 := hid hl
  have b3 : Below W.heap.size W w3 := b2.trans (b3'.mono b2.size)
  clear hl b3'
  go_wp2_with fail
  refine (HH.out.k10 w3 b3).mono ?_
  rintro e w4 ⟨am, cm, rfl, hm, b4'⟩
  have HL4 := hid (HL3.out.below b4')
  have HM4 := hid hm
  have b4 : Below W.heap.size W w4 := b3.trans (b4'.mono b3.size)
  clear hm b4' HL3
  go_wp2_with fail
  refine (own9_any s mn av mx w4).mono ?_
  rintro e w5 ⟨rfl, b5'⟩
  have HL5 := hid (HL4.out.below b5')
  have HM5 := hid (HM4.out.below b5')
  have b5 : Below W.heap.size W w5 := b4.trans (b5'.mono b4.size)
  clear b5' HL4 HM4
  go_wp2_with fail
  refine (HH.out.k11 w5 b5).mono ?_
  rintro e w6 ⟨ae, ce, rfl, he, b6'⟩
  have HL6 := hid (HL5.out.below b6')
  have HM6 := hid (HM5.out.below b6')
  have HE6 := hid he
  have b6 : Below W.heap.size W w6 := b5.trans (b6'.mono b5.size)
  clear b6' HL5 HM5 he b2 b3 b4 b5
  go_wp2_with fail
  have q0 : ∀ w', Below w6.heap.size w6 w' → w'.cell? ⟨w.heap.size, 0, none⟩ = some (.int .u64 s) := fun w' h => r0 w' (b6.trans (h.mono b6.size))
  have q1 : ∀ w', Below w6.heap.size w6 w' → w'.cell? ⟨w.heap.size, 1, none⟩ = some (.int .i64 mn) := fun w' h => r1 w' (b6.trans (h.mono b6.size))
  have q2 : ∀ w', Below w6.heap.size w6 w' → w'.cell? ⟨w.heap.size, 2, none⟩ = some (.int .i64 av) := fun w' h => r2 w' (b6.trans (h.mono b6.size))
  have q3 : ∀ w', Below w6.heap.size w6 w' → w'.cell? ⟨w.heap.size, 3, none⟩ = some (.int .i64 mx) := fun w' h => r3 w' (b6.trans (h.mono b6.size))
  have J9 : Hid (∀ V, Below w6.heap.size w6 V → Calls Tryd.prog 9 #[ruleV s mn av mx] V fun e w' => e = .returned (ruleV s mn av mx) ∧ Below w6.heap.size w6 w') := fun V h => (own9_any s mn av mx V).mono (fun e w' ⟨he, hb⟩ => ⟨he, h.trans (hb.mono h.size)⟩)
  have J12 : Hid (∀ V, Below w6.heap.size w6 V → Calls Tryd.prog 12 #[ruleV s mn av mx] V fun e w' => e = .returned (.bool R) ∧ Below w6.heap.size w6 w') := fun V h => (HH.out.k12 V (b6.trans (h.mono b6.size))).mono (fun e w' ⟨he, hb⟩ => ⟨he, h.trans (hb.mono h.size)⟩)
  have J13 : Hid (∀ V, Below w6.heap.size w6 V → Calls Tryd.prog 13 #[ruleV s mn av mx] V fun e w' => e = .returned (.bool R) ∧ Below w6.heap.size w6 w') := fun V h => (HH.out.k13 V (b6.trans (h.mono b6.size))).mono (fun e w' ⟨he, hb⟩ => ⟨he, h.trans (hb.mono h.size)⟩)
  have J14 : Hid (∀ V, Below w6.heap.size w6 V → Calls Tryd.prog 14 #[ruleV s mn av mx, .slice a n cap] V fun e w' => e = .returned (.int .i64 N) ∧ Below w6.heap.size w6 w') := fun V h => (HH.out.k14 V (b6.trans (h.mono b6.size))).mono (fun e w' ⟨he, hb⟩ => ⟨he, h.trans (hb.mono h.size)⟩)
  have J15 : Hid (∀ V, Below w6.heap.size w6 V → Calls Tryd.prog 15 #[ruleV s mn av mx, .slice a n cap] V fun e w' => e = .returned (.int .i64 N) ∧ Below w6.heap.size w6 w') := fun V h => (HH.out.k15 V (b6.trans (h.mono b6.size))).mono (fun e w' ⟨he, hb⟩ => ⟨he, h.trans (hb.mono h.size)⟩)
  have J16 : Hid (∀ V, Below w6.heap.size w6 V → Calls Tryd.prog 16 #[.slice al cs.length cl, .slice am cs.length cm] V fun e w' => e = .returned (.bool true) ∧ Below w6.heap.size w6 w') := fun V h => (lists_any _ _ cs cs V (HL6.out.below h) (HM6.out.below h)).mono (by
    rintro e w' ⟨rfl, q, rfl⟩
    exact ⟨by rw [decide_eq_true rfl], h.trans (below_drewN (Below.refl _ _) q)⟩)
  have hRR : (R != R) = false := by simp
  have hNN : ((N : Int) != (N : Int)) = false := by simp
  have hFF : (F != F) = false := by simp
  have hCC : ((cs.length : Int) != (cs.length : Int)) = false := by simp
  have hnot : ∀ (x : Bool) (w : World), (Op.unary .not (.bool x)).run Tryd.prog w = .ok (.bool (!x)) w := fun _ _ => rfl
  have B6 := hid b6
  have bd : Below w6.heap.size w6 w6.drew := (Below.refl _ _).drew
  clear r0 r1 r2 r3 b0 b6 HL6
  go_cut [76] (fun x wx => x = .bool false ∧ Hid (Below w6.heap.size w6 wx))
  case first =>
    go_region_held3 (fun w' => Below w6.heap.size w6 w') (with_reducible assumption)
      (first
        | (go_at_call 9; refine (J9.out _ ?_).mono ?_; (with_reducible assumption); rintro e w7 ⟨rfl, hb7⟩)
        | (go_at_call 12; refine (J12.out _ ?_).mono ?_; (with_reducible assumption); rintro e w7 ⟨rfl, hb7⟩)
        | (go_at_call 13; refine (J13.out _ ?_).mono ?_; (with_reducible assumption); rintro e w7 ⟨rfl, hb7⟩)
        | (go_at_call 14; refine (J14.out _ ?_).mono ?_; (with_reducible assumption); rintro e w7 ⟨rfl, hb7⟩)
        | (go_at_call 15; refine (J15.out _ ?_).mono ?_; (with_reducible assumption); rintro e w7 ⟨rfl, hb7⟩)
        | (go_at_call 16; refine (J16.out _ ?_).mono ?_; (with_reducible assumption); rintro e w7 ⟨rfl, hb7⟩))
    all_goals go_wp2_with fail
    all_goals go_meet
    all_goals exact ⟨rfl, hb7⟩
  case rest =>
    obtain ⟨rfl, HC⟩ := hcut
    have HMc := hid (HM6.out.below HC.out)
    have HEc : Hid (Row wc 3 (.slice ae cs.length ce) (il (endsN cs))) := HE6.out.kp (m := []) (Kp.below HC.out) (by simp)
    have HBc : Hid (Below W.heap.size W wc) := B6.out.trans (HC.out.mono B6.out.size)
    clear J9 J12 J13 J14 J15 J16 HM6 HE6 HC B6 HH q0 q1 q2 q3 bd hRR hNN hFF hCC
    go_wp2_with fail
    go_loop [11, 12] (fun x11 x12 => ∃ i : Nat, i ≤ cs.length ∧ x12 = .int .i64 i ∧ x11 = .int .i64 ((cs.take i).flatten.length : Nat)) (fun _ x12 => cs.length - (intOf x12).toNat)
    case atStart => exact ⟨0, Nat.zero_le _, rfl, rfl⟩
    case round =>
      obtain ⟨i, hi, rfl, rfl⟩ := hrel
      by_cases hlt : i < cs.length
      · have hiI : (i : Int) < (cs.length : Int) := by omega
        obtain ⟨am', cm', em, hm1, hm2, hm3, hm4, hm5⟩ := HMc.out
        cases em
        obtain ⟨gm, om, rfl, _, _, hmc⟩ := hm5 (by intro e; rw [e] at hlt; simp at hlt)
        obtain ⟨u, cu, hu⟩ := hmc i hlt
        obtain ⟨au, cpu, rfl, _⟩ := hu
        clear hmc hm5 hm3
        have hne : (il (endsN cs)).length = cs.length := by rw [il_length, endsN_length]
        have hec : ∃ ge, ae = some ⟨ge, 0, none⟩ ∧ wc.cell? ⟨ge, i, none⟩ = some (.int .i64 ((cs.take (i + 1)).flatten.length : Nat)) := by
          have hr := HEc.out
          unfold Row at hr
          rw [hne] at hr
          rcases hr.2 with ⟨e1, e2⟩ | ⟨ge, cap', cur, e1, _, _, _, _, _, _⟩
          · omega
          · simp only [Value.slice.injEq, true_and] at e1
            obtain ⟨rfl, rfl⟩ := e1
            refine ⟨ge, rfl, ?_⟩
            rw [hr.cellAt i (by omega)]
            simp [il, endsN_at cs i hlt]
        obtain ⟨ge, rfl, ce1⟩ := hec
        have hfs : Hid ((cs.take (i + 1)).flatten.length = (cs.take i).flatten.length + (cs.getD i []).length) := by
          rw [Hid, List.take_succ_eq_append_getElem hlt, List.flatten_append, List.length_append, List.getD_eq_getElem?_getD, List.getElem?_eq_getElem hlt]
          simp
        have hle : (cs.take (i + 1)).flatten.length ≤ 1000000 := by
          have : cs.flatten.length = (cs.take (i + 1)).flatten.length + (cs.drop (i + 1)).flatten.length := by
            rw [← List.length_append, ← List.flatten_append, List.take_append_drop]
          omega
        generalize (cs.getD i []).length = D at *
        generalize (cs.take i).flatten.length = T0 at *
        rw [hfs.out] at ce1 hle
        generalize hT1 : (cs.take (i + 1)).flatten.length = T1 at *
        have HT1 := hid hT1
        clear hT1 hne
        have hcap : cs.length ≤ ce := by
          obtain ⟨_, _, e, q1, _⟩ := HEc.out.shape
          rw [il_length, endsN_length] at e q1
          cases e
          exact q1
        have hTT : (((T0 + D : Nat) : Int) != (T0 : Int) + (D : Int)) = false := by simp
        go_wp2
        go_round
        case rel => exact ⟨i + 1, by omega, by go_num, by rw [HT1.out, hfs.out]; go_num⟩
        case measure => simp [intOf]; omega
      · go_wp2_with fail
        refine (usual17_any wc).mono ?_
        rintro e w8 ⟨rfl, b8⟩
        have HB8 := hid (HBc.out.trans (b8.mono HBc.out.size))
        clear b8
        go_wp2_with fail
        have hueq := usual_eq
        have HB9 : Hid (Below W.heap.size W (w8.alloc (.cells #[.int .u64 0, .int .i64 16, .int .i64 32, .int .i64 64] 31))) := HB8.out.alloc HB8.out.size _
        have HQ9 : Hid (∀ j, (w8.alloc (.cells #[.int .u64 0, .int .i64 16, .int .i64 32, .int .i64 64] 31)).cell? ⟨w8.heap.size, j, none⟩ = (#[.int .u64 0, .int .i64 16, .int .i64 32, .int .i64 64] : Array Value)[j]?) := fun j => World.cell?_alloc_at _ _ _ _ rfl
        have hz9 : w8.heap.size < (w8.alloc (.cells #[.int .u64 0, .int .i64 16, .int .i64 32, .int .i64 64] 31)).heap.size := by simp
        generalize w8.alloc (.cells #[.int .u64 0, .int .i64 16, .int .i64 32, .int .i64 64] 31) = w9 at *
        have q0 : ∀ w', Below w9.heap.size w9 w' → w'.cell? ⟨w8.heap.size, 0, none⟩ = some (.int .u64 0) := fun w' h => (h.cell (p := ⟨w8.heap.size, 0, none⟩) hz9).trans (HQ9.out 0)
        have q1 : ∀ w', Below w9.heap.size w9 w' → w'.cell? ⟨w8.heap.size, 1, none⟩ = some (.int .i64 16) := fun w' h => (h.cell (p := ⟨w8.heap.size, 1, none⟩) hz9).trans (HQ9.out 1)
        have q2 : ∀ w', Below w9.heap.size w9 w' → w'.cell? ⟨w8.heap.size, 2, none⟩ = some (.int .i64 32) := fun w' h => (h.cell (p := ⟨w8.heap.size, 2, none⟩) hz9).trans (HQ9.out 2)
        have q3 : ∀ w', Below w9.heap.size w9 w' → w'.cell? ⟨w8.heap.size, 3, none⟩ = some (.int .i64 64) := fun w' h => (h.cell (p := ⟨w8.heap.size, 3, none⟩) hz9).trans (HQ9.out 3)
        have J18 : Hid (∀ V, Below w9.heap.size w9 V → Calls Tryd.prog 18 #[] V fun e w' => e = .returned (ruleV 0 16 32 64) ∧ Below w9.heap.size w9 w') := fun V h => (usual18_any V).mono (fun e w' ⟨he, hb⟩ => ⟨he, h.trans (hb.mono h.size)⟩)
        have J7 : Hid (∀ V, Below w9.heap.size w9 V → Calls Tryd.prog 7 #[] V fun e w' => e = .returned (.bool true) ∧ Below w9.heap.size w9 w') := fun V h => (alive_any V ((HT.out.below (HB1.out.trans (HB9.out.mono HB1.out.size)) h2).below h (by have := HB9.out.size; omega))).mono (fun e w' ⟨he, hb⟩ => ⟨he, h.trans (hb.mono h.size)⟩)
        have bd : Below w9.heap.size w9 w9.drew := (Below.refl _ _).drew
        have HBF : Hid (Below w.heap.size w w9) := HB1.out.trans (HB9.out.mono HB1.out.size)
        clear HMc HEc HBc HB8 HB9 HQ9
        go_region_held3 (fun w' => Below w9.heap.size w9 w') (with_reducible assumption)
          (first
            | (go_at_call 18; refine (J18.out _ ?_).mono ?_; (with_reducible assumption); rintro e w7 ⟨rfl, hb7⟩)
            | (go_at_call 7; refine (J7.out _ ?_).mono ?_; (with_reducible assumption); rintro e w7 ⟨rfl, hb7⟩))
        all_goals go_wp2_with fail
        all_goals go_ret
        all_goals exact ⟨rfl, HBF.out.trans (hb7.mono HBF.out.size)⟩

end Go.Proofs.YtinijgkkmfdfiaaDoor
