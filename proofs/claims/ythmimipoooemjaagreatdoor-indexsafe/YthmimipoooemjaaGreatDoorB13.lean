/- Of the proof: the texts SgValue, SgPut, IxSaveL, IxNil, IxBase, PkLoad, PkSeal, PkSealing, PkSealW, PkPlain, PkManyM, PkGet, FrBackM, TlvRefTake, CrcRefOpen, FrRTake, FrRScan, FrTurned, FrBackR, SimUp, SimUp2, PkRun, PkNames, PkIdM, PkId, one behind the other. -/
import Derived.Test.YthmimipoooemjaaGreatDoorAbb
import Derived.Test.YthmimipoooemjaaGreatDoorB11
import Derived.Test.YthmimipoooemjaaGreatDoorB12
import Derived.Test.YthmimipoooemjaaGreatDoorB7
import Derived.Test.YthmimipoooemjaaGreatDoorB1
import Derived.Test.YthmimipoooemjaaGreatDoorB3
import Derived.Test.YthmimipoooemjaaGreatDoorB6
import Derived.Test.YthmimipoooemjaaGreatDoorB4
import Derived.Test.YthmimipoooemjaaGreatDoorB5
import Derived.Lib.ItoaLen
import Derived.Lib.AppendIntMem
import Derived.Lib.AtoiAll
section
/-
  The value of entries in tlv's words.
-/
namespace Go.Proofs.YthmimipoooemjaaGreatDoor.Sg
open Go.RowKit
open Tlv (Tr Agree)
open Sim (hid Kp No)

theorem run_oneV (t n : Int) (sb sk : Value) (w : World) : (Instr.buildSlice 201 1 #[(0, .agg #[.int .i64 t, .int .u64 n, sb, sk])]).run Tryz.prog w = .ok (.slice (some ⟨w.heap.size, 0, none⟩) 1 1) (w.alloc (.cells #[.int .i64 t, .int .u64 n, sb, sk] 203)) := by kernel_rfl
theorem plB_bd {e : Ent} (h : plB e = true) : (0 ≤ e.2.1 ∧ e.2.1 ≤ 1000000) ∧ (0 ≤ e.2.2.1 ∧ e.2.2.1 ≤ 1000000) ∧ (0 ≤ e.2.2.2 ∧ e.2.2.2 ≤ 1000000) := by
  simp [plB] at h
  omega

set_option maxHeartbeats 4000000 in
set_option maxRecDepth 100000 in
theorem value_any (w : World) (v : Value) (d : List Ent) (P : Nat → Prop) (hv : EV P w v d) (hp : ∀ e ∈ d, plB e = true) (hl : d.length ≤ 1000000) :
    Calls Tryz.prog 114 #[v] w fun e w' => ∃ a3 l3 p3 a4 l4 p4, e = .returned (.agg #[.int .i64 3, .int .u64 0, .slice a3 l3 p3, .slice a4 l4 p4]) ∧ Tlv.Rep w.heap.size w'.heap.size w' 3 (entsT d) (.slice a3 l3 p3) (.slice a4 l4 p4) ∧ Below w.heap.size w w' := by
  obtain ⟨a, c, rfl, h2, h3, h4, h5, h6⟩ := hv
  obtain ⟨n, hn⟩ : ∃ n, d.length = n := ⟨_, rfl⟩
  have HN := hid hn
  have HP := hid hp
  rw [hn] at hl h2 ⊢
  have H6 := hid h6
  have HM := hid many_none
  clear hn h2 h3 h4 h5 h6 hp
  go_enter Tryz.func114, Tryz.ntmps114
  go_wp2_with fail
  refine (HM.out _).mono ?_
  rintro e w1 ⟨rfl, hb1⟩
  have HB1 := hid hb1
  have HW : Hid (Below w.heap.size w w1) := ((Below.refl _ _).alloc (Nat.le_refl _) _).trans (hb1.mono (by simp))
  have hzw : w.heap.size < w1.heap.size := by have := hb1.size; simp at this; omega
  clear hb1 HM
  go_wp2_with fail
  go_loopw [9] (fun i wr => ∃ (k : Nat) (av : Option Addr) (cv : Nat), i = .int .i64 (k : Int) ∧ k ≤ n ∧ Hid (VI w1 d k (.slice av k cv) wr)) (fun i _ => n - (intOf i).toNat)
  case atStart => exact ⟨0, none, 0, rfl, Nat.zero_le _, VI.start w1 d⟩
  case round =>
    obtain ⟨k, av, cv, rfl, hkn, HS⟩ := hrel
    have hKw : Kp No w wr := Kp.below (HW.out.trans (HS.out.2.2.2.2.2.2.2.mono (by omega)))
    by_cases hlt : k < n
    · have hltI : (k : Int) < (n : Int) := by omega
      have hwk : IntKind.i64.wrap ((k : Int) + 1) = ((k + 1 : Nat) : Int) := by rw [IntKind.wrap_i64]; omega
      obtain ⟨e, he⟩ : ∃ e, d[k]? = some e := ⟨_, List.getElem?_eq_getElem (by rw [HN.out]; exact hlt)⟩
      have HE := hid he
      obtain ⟨g, o, rfl, _, hr⟩ := H6.out (by intro e; have := HN.out; rw [e] at this; simp at this; omega)
      have hrow := hr.kp hKw (fun x => x)
      have HX := hid (hrow.2 k e he)
      have HI := hid (inf HX.out.1)
      have HVAL : Hid (∀ V, Calls Tryz.prog 162 #[.agg (entC e).toArray] V fun e' w' => ∃ a3 l3 p3 a4 l4 p4, e' = .returned (.agg #[.int .i64 3, .int .u64 0, .slice a3 l3 p3, .slice a4 l4 p4]) ∧ Tlv.Rep V.heap.size w'.heap.size w' 2 (entT e) (.slice a3 l3 p3) (.slice a4 l4 p4) ∧ Below V.heap.size V w') := fun V => by
        obtain ⟨q0, q1, q2⟩ := plB_bd (HP.out e (List.mem_of_getElem? he))
        obtain ⟨nm, p, q, r⟩ := e
        exact entval_any nm p q r V HX.out.1 q0 q1 q2
      obtain ⟨cx, hcx⟩ : ∃ cx, entC e = cx := ⟨_, rfl⟩
      have HRX : Hid (wr.rangeAt g (o + k * 35) cx) := by rw [← hcx]; exact HX.out.2
      rw [hcx] at HI HVAL
      have hcl : cx.length = 35 := by rw [← hcx]; exact entC_length HX.out.1
      have HO1 : Hid (cx.toArray.all (·.oneCell') = true) := by rw [← hcx]; exact all_oneCell_toArray (entC_one e)
      have HC0 : Hid (∃ v0, cx[0]? = some v0) := ⟨_, List.getElem?_eq_getElem (by omega)⟩
      clear hcx hr hrow he hKw
      go_wp2_with (first
        | (refine wpList_load_mid (by rfl) 155 _ (by rfl) g (o + k * 35) (by rfl) cx _ HRX.out Tryz.underlying155 rfl HI.out ?_)
        | (refine wpList_store_box (fun W => ∀ V, Kp No W V → V.rangeAt wr.heap.size 0 cx ∧ Kp No wr V) (by rfl) 155 _ _ (by rfl) wr.heap.size 0 cx.toArray (by rfl) (by rfl) (thereE wr _ _ _ (by rw [List.size_toArray, hcl]; exact Nat.le_refl _)) HI.out HO1.out (boxE wr _ cx rfl hcl) ?_; intro W1 hW1; have HW1 := hid hW1; clear hW1))
      have HKW := hid (HW1.out W1 (Kp.refl _ _)).2
      have hbx : wr.heap.size < W1.heap.size := by
        obtain ⟨v0, hv0⟩ := HC0.out
        exact World.block_lt_of_cell? _ _ ((HW1.out W1 (Kp.refl _ _)).1 0 v0 hv0)
      have HLX : Hid (∀ V, Kp (fun x => x = w1.heap.size ∨ (Value.slice av k cv).ownBlock = some x) W1 V → V.rangeAt wr.heap.size 0 cx) := fun V hV j u hu => by
        refine (hV.cell (p := ⟨wr.heap.size, _, none⟩) hbx (fun hx => ?_)).trans ((HW1.out W1 (Kp.refl _ _)).1 j u hu)
        rcases hx with hx | hx
        · have h1 := HS.out.2.2.2.2.2.1
          have h2 : wr.heap.size = w1.heap.size := hx
          omega
        · have h1 := (HS.out.2.2.2.2.2.2.1.lt wr.heap.size hx).2
          omega
      have c3 : ∀ V, Kp No W1 V → V.cell? ⟨w1.heap.size, 3, none⟩ = some (.slice av k cv) := fun V hV => ((HW1.out V hV).2.cell (p := ⟨w1.heap.size, 3, none⟩) HS.out.2.2.2.2.2.1 (fun x => x)).trans HS.out.2.2.2.1
      clear hcl hbx
      refine wp_region_held_drew (S := fun V => Kp (fun x => x = w1.heap.size ∨ (Value.slice av k cv).ownBlock = some x) W1 V) (by kernel_rfl) ((Kp.refl _ _).drew) (fun hHeld => ?_)
      refine wpAnyH_take (i := 0) (oi := ⟨some 13, .fieldAddr 203 (.tmp 3) 3, 0, "sealed.go:53", #[], none⟩) (v := .pointer (some ⟨w1.heap.size, 3, none⟩)) rfl (by kernel_rfl) (by kernel_rfl) (by kernel_rfl) (fun _ _ _ h => h) (Or.inl ⟨by rfl, fun w' hw' => by (clear hw'; go_simp)⟩) hHeld ?_
      simp only [Act.put, sjA, sjB, sjC]
      refine wpAnyH_take (i := 2) (oi := ⟨some 15, .load 155 (.tmp 5), 155, "sealed.go:53", #[], none⟩) (v := .agg cx.toArray) rfl (by kernel_rfl) (by kernel_rfl) (by kernel_rfl) (fun _ _ _ h => h) (yieldsIf_load_mid (by rfl) _ _ rfl wr.heap.size 0 rfl cx _ (HLX.out) Tryz.underlying155 rfl HI.out) hHeld ?_
      simp only [Act.put, sjA, sjB, sjC]
      refine wpAnyH_ready (rs := [1, 3]) (by kernel_rfl) (by simp) ?_
      refine (AllReadyH.cons (o := ⟨some 14, .load 201 (.tmp 13), 201, "sealed.go:53", #[⟨0, .data⟩], none⟩) rfl (fun K hK => ?_) (AllReadyH.cons (o := ⟨some 16, .call { callee := Callee.value (Operand.func 162), args := #[.tmp 15], argTypes := #[155] }, 203, "sealed.go:53", #[⟨2, .data⟩], none⟩) rfl (fun K hK => ?_) AllReadyH.nil))
      · have q3 := c3 (W1.drew) ((Kp.refl No W1).drew)
        go_simp
        refine hK.out _ _ ((((Kp.refl No W1).drew).ofNo)) (fun hh => ?_)
        clear hK K hHeld
        have hHeld := hh
        clear hh
        try simp only [Act.put, sjA, sjB, sjC]
        refine wpAnyH_ready (rs := [3]) (by kernel_rfl) (by simp) ?_
        refine (AllReadyH.cons (o := ⟨some 16, .call { callee := Callee.value (Operand.func 162), args := #[.tmp 15], argTypes := #[155] }, 203, "sealed.go:53", #[⟨2, .data⟩], none⟩) rfl (fun K hK => ?_) AllReadyH.nil)
        go_simp
        refine (HVAL.out _).mono ?_
        rintro e' w2 ⟨a3, l3, p3, a4, l4, p4, rfl, hr2, hb2⟩
        have hb2' : Below W1.heap.size W1 w2 := (Below.refl _ _).drew.trans hb2
        obtain ⟨g', cap, w4, hap, k3, kf, ks, hvi, hkp⟩ := HS.out.step HKW.out hb2' hr2 HE.out (by omega) 201
        have HK2 : Hid (Kp No W1 w2) := Kp.below hb2'
        have HAP := hid hap
        have HVI := hid hvi
        have HKP := hid hkp
        clear hap hvi hkp hr2 hb2 hb2'
        go_wp2_with fail
        refine hK.out _ _ (HK2.out.ofNo) (fun hh => ?_)
        clear hK K hHeld
        have hHeld := hh
        clear hh
        try simp only [Act.put, sjA, sjB, sjC]
        refine wpAnyH_ready (rs := [4]) (by kernel_rfl) (by simp) ?_
        refine (AllReadyH.cons (o := ⟨some 17, .buildSlice 201 1 #[(0, .tmp 16)], 201, "sealed.go:53", #[⟨3, .data⟩], none⟩) rfl (fun K hK => ?_) AllReadyH.nil)
        rw [if_pos (by rfl)]
        refine wp_valE (exec_sliceE 201 _ rfl (.agg #[.int .i64 3, .int .u64 0, .slice a3 l3 p3, .slice a4 l4 p4]) _ rfl (run_oneV _ _ _ _ _)) ?_
        refine hK.out _ _ ((HK2.out.alloc _).ofNo) (fun hh => ?_)
        clear hK K hHeld
        have hHeld := hh
        clear hh
        try simp only [Act.put, sjA, sjB, sjC]
        refine wpAnyH_ready (rs := [5]) (by kernel_rfl) (by simp) ?_
        refine (AllReadyH.cons (o := ⟨some 18, .call { callee := Callee.builtin Builtin.append, args := #[.tmp 14, .tmp 17], argTypes := #[201, 201] }, 201, "sealed.go:53", #[⟨1, .data⟩, ⟨4, .data⟩, ⟨3, .chain⟩], none⟩) rfl (fun K hK => ?_) AllReadyH.nil)
        rw [if_pos (by rfl)]
        refine wp_valE (exec_appE _ _ 201 rfl (.slice av k cv) (.slice (some ⟨w2.heap.size, 0, none⟩) 1 1) _ rfl rfl HAP.out) ?_
        refine hK.out _ _ (HKP.out) (fun hh => ?_)
        clear hK K hHeld
        have hHeld := hh
        clear hh
        try simp only [Act.put, sjA, sjB, sjC]
        refine wpAnyH_take (i := 6) (oi := ⟨some 19, .fieldAddr 203 (.tmp 3) 3, 0, "sealed.go:53", #[⟨0, .phase⟩, ⟨1, .phase⟩, ⟨2, .phase⟩, ⟨3, .phase⟩, ⟨4, .phase⟩, ⟨5, .phase⟩], none⟩) (v := .pointer (some ⟨w1.heap.size, 3, none⟩)) rfl (by kernel_rfl) (by kernel_rfl) (by kernel_rfl) (fun _ _ _ h => h) (Or.inl ⟨by rfl, fun w' hw' => by (clear hw'; go_simp)⟩) hHeld ?_
        simp only [Act.put, sjA, sjB, sjC]
        refine wpAnyH_ready (rs := [7]) (by kernel_rfl) (by simp) ?_
        refine (AllReadyH.cons (o := ⟨none, .store 201 (.tmp 19) (.tmp 18), 0, "sealed.go:53", #[⟨6, .data⟩, ⟨5, .data⟩, ⟨5, .chain⟩, ⟨0, .phase⟩, ⟨1, .phase⟩, ⟨2, .phase⟩, ⟨3, .phase⟩, ⟨4, .phase⟩, ⟨5, .phase⟩], none⟩) rfl (fun K hK => ?_) AllReadyH.nil)
        go_simp
        refine hK.out _ _ ((HKP.out.setCell (p := ⟨w1.heap.size, 3, none⟩) (.inl (.inl rfl)) _)) (fun hh => ?_)
        clear hK K hHeld
        have hHeld := hh
        clear hh
        try simp only [Act.put, sjA, sjB, sjC]
        refine wpAnyH_done (by kernel_rfl) ?_ _
        clear hHeld
        go_wp2_with fail
        go_round
        case rel => exact ⟨k + 1, some ⟨g', 0, none⟩, cap, by first | rfl | go_num, by omega, HVI.out⟩
        case measure => simp [intOf]; omega
      · go_simp
        refine (HVAL.out _).mono ?_
        rintro e' w2 ⟨a3, l3, p3, a4, l4, p4, rfl, hr2, hb2⟩
        have hb2' : Below W1.heap.size W1 w2 := (Below.refl _ _).drew.trans hb2
        obtain ⟨g', cap, w4, hap, k3, kf, ks, hvi, hkp⟩ := HS.out.step HKW.out hb2' hr2 HE.out (by omega) 201
        have HK2 : Hid (Kp No W1 w2) := Kp.below hb2'
        have HAP := hid hap
        have HVI := hid hvi
        have HKP := hid hkp
        clear hap hvi hkp hr2 hb2 hb2'
        go_wp2_with fail
        refine hK.out _ _ (HK2.out.ofNo) (fun hh => ?_)
        clear hK K hHeld
        have hHeld := hh
        clear hh
        try simp only [Act.put, sjA, sjB, sjC]
        refine wpAnyH_ready (rs := [1, 4]) (by kernel_rfl) (by simp) ?_
        refine (AllReadyH.cons (o := ⟨some 14, .load 201 (.tmp 13), 201, "sealed.go:53", #[⟨0, .data⟩], none⟩) rfl (fun K hK => ?_) (AllReadyH.cons (o := ⟨some 17, .buildSlice 201 1 #[(0, .tmp 16)], 201, "sealed.go:53", #[⟨3, .data⟩], none⟩) rfl (fun K hK => ?_) AllReadyH.nil))
        · have q3 := c3 (w2) HK2.out
          go_simp
          refine hK.out _ _ ((HK2.out.ofNo)) (fun hh => ?_)
          clear hK K hHeld
          have hHeld := hh
          clear hh
          try simp only [Act.put, sjA, sjB, sjC]
          refine wpAnyH_ready (rs := [4]) (by kernel_rfl) (by simp) ?_
          refine (AllReadyH.cons (o := ⟨some 17, .buildSlice 201 1 #[(0, .tmp 16)], 201, "sealed.go:53", #[⟨3, .data⟩], none⟩) rfl (fun K hK => ?_) AllReadyH.nil)
          rw [if_pos (by rfl)]
          refine wp_valE (exec_sliceE 201 _ rfl (.agg #[.int .i64 3, .int .u64 0, .slice a3 l3 p3, .slice a4 l4 p4]) _ rfl (run_oneV _ _ _ _ _)) ?_
          refine hK.out _ _ ((HK2.out.alloc _).ofNo) (fun hh => ?_)
          clear hK K hHeld
          have hHeld := hh
          clear hh
          try simp only [Act.put, sjA, sjB, sjC]
          refine wpAnyH_ready (rs := [5]) (by kernel_rfl) (by simp) ?_
          refine (AllReadyH.cons (o := ⟨some 18, .call { callee := Callee.builtin Builtin.append, args := #[.tmp 14, .tmp 17], argTypes := #[201, 201] }, 201, "sealed.go:53", #[⟨1, .data⟩, ⟨4, .data⟩, ⟨3, .chain⟩], none⟩) rfl (fun K hK => ?_) AllReadyH.nil)
          rw [if_pos (by rfl)]
          refine wp_valE (exec_appE _ _ 201 rfl (.slice av k cv) (.slice (some ⟨w2.heap.size, 0, none⟩) 1 1) _ rfl rfl HAP.out) ?_
          refine hK.out _ _ (HKP.out) (fun hh => ?_)
          clear hK K hHeld
          have hHeld := hh
          clear hh
          try simp only [Act.put, sjA, sjB, sjC]
          refine wpAnyH_take (i := 6) (oi := ⟨some 19, .fieldAddr 203 (.tmp 3) 3, 0, "sealed.go:53", #[⟨0, .phase⟩, ⟨1, .phase⟩, ⟨2, .phase⟩, ⟨3, .phase⟩, ⟨4, .phase⟩, ⟨5, .phase⟩], none⟩) (v := .pointer (some ⟨w1.heap.size, 3, none⟩)) rfl (by kernel_rfl) (by kernel_rfl) (by kernel_rfl) (fun _ _ _ h => h) (Or.inl ⟨by rfl, fun w' hw' => by (clear hw'; go_simp)⟩) hHeld ?_
          simp only [Act.put, sjA, sjB, sjC]
          refine wpAnyH_ready (rs := [7]) (by kernel_rfl) (by simp) ?_
          refine (AllReadyH.cons (o := ⟨none, .store 201 (.tmp 19) (.tmp 18), 0, "sealed.go:53", #[⟨6, .data⟩, ⟨5, .data⟩, ⟨5, .chain⟩, ⟨0, .phase⟩, ⟨1, .phase⟩, ⟨2, .phase⟩, ⟨3, .phase⟩, ⟨4, .phase⟩, ⟨5, .phase⟩], none⟩) rfl (fun K hK => ?_) AllReadyH.nil)
          go_simp
          refine hK.out _ _ ((HKP.out.setCell (p := ⟨w1.heap.size, 3, none⟩) (.inl (.inl rfl)) _)) (fun hh => ?_)
          clear hK K hHeld
          have hHeld := hh
          clear hh
          try simp only [Act.put, sjA, sjB, sjC]
          refine wpAnyH_done (by kernel_rfl) ?_ _
          clear hHeld
          go_wp2_with fail
          go_round
          case rel => exact ⟨k + 1, some ⟨g', 0, none⟩, cap, by first | rfl | go_num, by omega, HVI.out⟩
          case measure => simp [intOf]; omega
        · rw [if_pos (by rfl)]
          refine wp_valE (exec_sliceE 201 _ rfl (.agg #[.int .i64 3, .int .u64 0, .slice a3 l3 p3, .slice a4 l4 p4]) _ rfl (run_oneV _ _ _ _ _)) ?_
          refine hK.out _ _ ((HK2.out.alloc _).ofNo) (fun hh => ?_)
          clear hK K hHeld
          have hHeld := hh
          clear hh
          try simp only [Act.put, sjA, sjB, sjC]
          refine wpAnyH_ready (rs := [1]) (by kernel_rfl) (by simp) ?_
          refine (AllReadyH.cons (o := ⟨some 14, .load 201 (.tmp 13), 201, "sealed.go:53", #[⟨0, .data⟩], none⟩) rfl (fun K hK => ?_) AllReadyH.nil)
          have q3 := c3 (w2.alloc (.cells #[.int .i64 3, .int .u64 0, .slice a3 l3 p3, .slice a4 l4 p4] 203)) (HK2.out.alloc _)
          go_simp
          refine hK.out _ _ (((HK2.out.alloc _).ofNo)) (fun hh => ?_)
          clear hK K hHeld
          have hHeld := hh
          clear hh
          try simp only [Act.put, sjA, sjB, sjC]
          refine wpAnyH_ready (rs := [5]) (by kernel_rfl) (by simp) ?_
          refine (AllReadyH.cons (o := ⟨some 18, .call { callee := Callee.builtin Builtin.append, args := #[.tmp 14, .tmp 17], argTypes := #[201, 201] }, 201, "sealed.go:53", #[⟨1, .data⟩, ⟨4, .data⟩, ⟨3, .chain⟩], none⟩) rfl (fun K hK => ?_) AllReadyH.nil)
          rw [if_pos (by rfl)]
          refine wp_valE (exec_appE _ _ 201 rfl (.slice av k cv) (.slice (some ⟨w2.heap.size, 0, none⟩) 1 1) _ rfl rfl HAP.out) ?_
          refine hK.out _ _ (HKP.out) (fun hh => ?_)
          clear hK K hHeld
          have hHeld := hh
          clear hh
          try simp only [Act.put, sjA, sjB, sjC]
          refine wpAnyH_take (i := 6) (oi := ⟨some 19, .fieldAddr 203 (.tmp 3) 3, 0, "sealed.go:53", #[⟨0, .phase⟩, ⟨1, .phase⟩, ⟨2, .phase⟩, ⟨3, .phase⟩, ⟨4, .phase⟩, ⟨5, .phase⟩], none⟩) (v := .pointer (some ⟨w1.heap.size, 3, none⟩)) rfl (by kernel_rfl) (by kernel_rfl) (by kernel_rfl) (fun _ _ _ h => h) (Or.inl ⟨by rfl, fun w' hw' => by (clear hw'; go_simp)⟩) hHeld ?_
          simp only [Act.put, sjA, sjB, sjC]
          refine wpAnyH_ready (rs := [7]) (by kernel_rfl) (by simp) ?_
          refine (AllReadyH.cons (o := ⟨none, .store 201 (.tmp 19) (.tmp 18), 0, "sealed.go:53", #[⟨6, .data⟩, ⟨5, .data⟩, ⟨5, .chain⟩, ⟨0, .phase⟩, ⟨1, .phase⟩, ⟨2, .phase⟩, ⟨3, .phase⟩, ⟨4, .phase⟩, ⟨5, .phase⟩], none⟩) rfl (fun K hK => ?_) AllReadyH.nil)
          go_simp
          refine hK.out _ _ ((HKP.out.setCell (p := ⟨w1.heap.size, 3, none⟩) (.inl (.inl rfl)) _)) (fun hh => ?_)
          clear hK K hHeld
          have hHeld := hh
          clear hh
          try simp only [Act.put, sjA, sjB, sjC]
          refine wpAnyH_done (by kernel_rfl) ?_ _
          clear hHeld
          go_wp2_with fail
          go_round
          case rel => exact ⟨k + 1, some ⟨g', 0, none⟩, cap, by first | rfl | go_num, by omega, HVI.out⟩
          case measure => simp [intOf]; omega
    · have hltI : ¬ (k : Int) < (n : Int) := by omega
      have hkn' : k = n := by omega
      have hS := HS.out
      obtain ⟨f0, f1, f2, f3, hf, hs, hc, hw⟩ := hS
      have hc' := hc.done (by rw [List.length_take, List.length_map, HN.out]; omega)
      rw [List.take_of_length_le (by rw [List.length_map, HN.out]; omega)] at hc'
      have HC := hid hc'
      have HBW := hid hw
      have xr : ∀ o, wr.cell? ⟨w.heap.size, o, none⟩ = (#[.int .i64 0, .int .u64 0, .slice none 0 0, .slice none 0 0] : Array Value)[o]? := fun o => by
        rw [hw.cell (p := ⟨w.heap.size, o, none⟩) (by simp; omega), HB1.out.cell (p := ⟨w.heap.size, o, none⟩) (by simp), World.cell?_alloc_at _ _ _ _ rfl]
      have xf : ∀ o, wr.frozen? ⟨w.heap.size, o, none⟩ = false := fun o => by
        rw [hw.frozen (p := ⟨w.heap.size, o, none⟩) (by simp; omega), HB1.out.frozen (p := ⟨w.heap.size, o, none⟩) (by simp), World.frozen?_alloc_at _ _ _ _ rfl]
      have r0 : wr.cell? ⟨w.heap.size, 0, none⟩ = some (.int .i64 0) := xr 0
      have r1 : wr.cell? ⟨w.heap.size, 1, none⟩ = some (.int .u64 0) := xr 1
      have r2 : wr.cell? ⟨w.heap.size, 2, none⟩ = some (.slice none 0 0) := xr 2
      have r3 : wr.cell? ⟨w.heap.size, 3, none⟩ = some (.slice none 0 0) := xr 3
      clear xr hc hc' hw hKw HS hkn'
      go_wp2_with fail
      obtain ⟨q0, q1, q2, q3⟩ := Tlv.set4_read (u0 := .int .i64 3) (u1 := .int .u64 0) (u2 := .slice none 0 0) (u3 := .slice av k cv) r0 r1 r2 r3
      refine bodyPost_ret (v := .agg #[.int .i64 3, .int .u64 0, .slice none 0 0, .slice av k cv]) (by simp [results, Tryz.results114, go_sem, q0, q1, q2, q3]) rfl ⟨_, _, _, _, _, _, rfl, ⟨by simp [entsT, Tr.mk, Tlv.Tr.hd], by simp [entsT, Tr.mk, Tlv.Tr.hd], Tlv.BySl.none _ _ _, ?_⟩, ?_⟩
      · have A4 := Agree.set4 (L := w1.heap.size + 1) (B := wr.heap.size) wr (b := w.heap.size) (o0 := 0) (o1 := 1) (o2 := 2) (o3 := 3) (.inl (by omega)) (.int .i64 3) (.int .u64 0) (.slice none 0 0) (.slice av k cv)
        exact HC.out.agree (L' := w.heap.size) (fun _ _ _ r => Tlv.Rep.agree (L' := w.heap.size) A4 (by omega) (by simp) r) A4 (by omega) (by simp)
      · exact (HW.out.trans (HBW.out.mono (by omega))).trans (Tlv.bset4 (Nat.le_refl _) _ _ _ _)
end Go.Proofs.YthmimipoooemjaaGreatDoor.Sg
end

section
/-
  The form of entries, and segment.Put.
-/
namespace Go.Proofs.YthmimipoooemjaaGreatDoor.Sg
open Go.RowKit
open Tlv (Tr Agree)
open Crc (Kept)
open Sim (hid Kp No)

theorem ent_bsz {e : Ent} (hn : e.1.length = 32) {room deep : Int} (hr : 68 ≤ room) (hd : 0 < deep) : (Tlv.bsz 2 (entT e) room deep).2 = true ∧ 0 ≤ (Tlv.bsz 2 (entT e) room deep).1 ∧ (Tlv.bsz 2 (entT e) room deep).1 ≤ 68 := by
  have b1 := Tlv.nsz_bd e.2.1
  have b2 := Tlv.nsz_bd e.2.2.1
  have b3 := Tlv.nsz_bd e.2.2.2
  rw [entT, Tlv.bsz_3 _ _ _ (by omega), Tlv.lsz_go hd]
  simp only [Tlv.lszGo]
  rw [Tlv.bsz_2 _ _ _ (by omega), hn, Tlv.bsz_1 _ _ _ (by simp; omega)]
  have d1 : decide (((32 : Nat) : Int) ≤ room - 0 - 3) = true := by simp; omega
  simp only [d1, if_true]
  have d2 : decide (Tlv.nsz e.2.1 ≤ room - (0 + (3 + ((32 : Nat) : Int))) - 3) = true := by simp; omega
  simp only [d2, if_true]
  rw [Tlv.bsz_1 _ _ _ (by simp; omega)]
  have d3 : decide (Tlv.nsz e.2.2.1 ≤ room - (0 + (3 + ((32 : Nat) : Int)) + (3 + Tlv.nsz e.2.1)) - 3) = true := by simp; omega
  simp only [d3, if_true]
  rw [Tlv.bsz_1 _ _ _ (by simp; omega)]
  have d4 : decide (Tlv.nsz e.2.2.2 ≤ room - (0 + (3 + ((32 : Nat) : Int)) + (3 + Tlv.nsz e.2.1) + (3 + Tlv.nsz e.2.2.1)) - 3) = true := by simp; omega
  simp only [d4, if_true]
  refine ⟨trivial, ?_, ?_⟩ <;> simp <;> omega

theorem ents_bsz : ∀ (d : List Ent), (∀ e ∈ d, e.1.length = 32) → ∀ (room acc : Int), 0 ≤ acc → acc + 71 * (d.length : Int) ≤ room → (Tlv.lszGo (Tlv.bsz 2) room 8 acc (d.map entT)).2 = true
  | [], _, _, _, _, _ => rfl
  | e :: d, h, room, acc, h0, h1 => by
    rw [List.map_cons, Tlv.lszGo]
    simp only [List.length_cons] at h1
    obtain ⟨b1, b2, b3⟩ := ent_bsz (h e (by simp)) (room := room - acc - 3) (deep := 8 - 1) (by omega) (by omega)
    rw [if_pos b1]
    exact ents_bsz d (fun x hx => h x (by simp [hx])) room _ (by omega) (by omega)

theorem entsT_right {d : List Ent} (h : ∀ e ∈ d, e.1.length = 32) (hl : d.length ≤ 900) : (Tlv.bsz 3 (entsT d) 65535 8).2 = true := by
  rw [entsT, Tlv.bsz_3 _ _ _ (by omega), Tlv.lsz_go (by omega)]
  exact ents_bsz d h _ _ (by omega) (by omega)

/-- The form of entries, and what it is sealed. -/
def formE (d : List Ent) : List Int := Tlv.formOf 3 (entsT d)
def sealE (d : List Ent) : List Int := sealI (formE d)

theorem szT_ents {d : List Ent} (h : ∀ e ∈ d, e.1.length = 32) (hl : d.length ≤ 900) : Tlv.szT 3 (entsT d) ≠ 0 := by
  have h1 := entsT_right h hl
  have h2 := Tlv.bsz_fits 3 _ _ _ h1
  rw [Tlv.szT, if_pos h1]
  omega
theorem formE_length {d : List Ent} (h : ∀ e ∈ d, e.1.length = 32) (hl : d.length ≤ 900) : (formE d).length ≤ 65538 := by
  have h1 := entsT_right h hl
  have h2 := Tlv.bsz_fits 3 _ _ _ h1
  have h3 := Tlv.bsz_len 3 _ _ _ h1
  have h4 : (formE d).length = 3 + (Tlv.bodyOf 3 (entsT d)).length := by rw [formE]; simp [Tlv.formOf]; omega
  omega

theorem RightP.places {d : List Ent} (h : RightP d) : ∀ e ∈ d, plB e = true := fun e he => by
  obtain ⟨i, hi⟩ := List.mem_iff_getElem?.1 he
  exact (h.2 i e (List.getElem?_eq_some_iff.1 hi).1 hi).1

set_option maxHeartbeats 2000000 in
set_option maxRecDepth 100000 in
theorem put_yes (b : Nat) (w : World) (v : Value) (d : List Ent) (P : Nat → Prop) (hT : TabX w b) (hv : EV P w v d) (hR : RightP d) :
    Calls Tryz.prog 74 #[.pointer (some ⟨b, 0, none⟩), v] w fun e w' => ∃ v', e = .returned (.tuple #[v', .int .i64 0]) ∧ Crc.Own w' w.heap.size v' (nats (sealE d)) ∧ Kept b w w' ∧ TabX w' b := by
  have hok := hv.ok
  have HOK : Hid (∀ e ∈ d, e.1.length = 32) := fun e he => (hok e he).1
  have HR := hid (right_any w v d P hv (by have := hR.1; omega))
  have HRR := hid hR
  have HV := hid hv
  have HT := hid hT
  have hbw := hT.lt
  obtain ⟨a, c, rfl, _⟩ := hv
  clear hR hT hok
  go_enter Tryz.func74, Tryz.ntmps74
  go_wp2_with fail
  refine HR.out.mono ?_
  rintro e w1 ⟨⟨bb, rfl, hb⟩, hk⟩
  have hbt : bb = true := hb.2 HRR.out
  subst hbt
  have HB1 : Hid (Below w.heap.size w w1) := ⟨hk.os, hk.tape, hk.output, hk.size, fun j hj => hk.block j hj (fun x => x)⟩
  have HV1 := hid (HV.out.kept hk)
  clear hb hk
  go_wp2_with fail
  refine (value_any w1 _ d P HV1.out HRR.out.places (by have := HRR.out.1; omega)).mono ?_
  rintro e w2 ⟨a3, l3, p3, a4, l4, p4, rfl, hr2, hb2⟩
  have HR2 := hid hr2
  have HB2 : Hid (Below w.heap.size w w2) := HB1.out.trans (hb2.mono HB1.out.size)
  clear hr2 hb2
  go_wp2_with fail
  refine (Tlv.Put_yes (entsT d) _ _ _ (HR2.out.agree (Agree.refl _ _ _) (Nat.zero_le _) (Nat.le_refl _)) (szT_ents HOK.out HRR.out.1)).mono ?_
  rintro e w3 ⟨vf, rfl, hf3, hb3⟩
  obtain ⟨af, cf, rfl, hrf⟩ := id hf3
  clear hrf
  have HF3 := hid hf3
  have HB3 : Hid (Below w.heap.size w w3) := HB2.out.trans (hb3.mono HB2.out.size)
  have hz2 : w.heap.size ≤ w2.heap.size := HB2.out.size
  clear hf3 hb3
  go_wp2_with fail
  obtain ⟨f, n, hf, ht⟩ := (HT.out.below HB3.out)
  have hcf : Crc.BySl b w3 (.slice af (Tlv.formOf 3 (entsT d)).length cf) (nats (formE d)) := toCrc HF3.out.toS (fun g hg => ⟨by omega, hg.2⟩)
  refine (Crc.seal_any b f n _ (nats (formE d)) _ hf ht hcf (by rw [nats_length]; have := formE_length HOK.out HRR.out.1; omega)).mono ?_
  rintro e w4 ⟨v', rfl, ho, hk4, ht4⟩
  have HO := hid ho
  have HK4 := hid hk4
  have HT4 := hid ht4
  clear ho hk4 ht4 ht hcf hf
  go_wp2_with fail
  go_ret2
  refine ⟨v', rfl, ?_, (Kept.below HB3.out).trans HK4.out, TabX.of HT4.out⟩
  rw [sealE, sealI_nats]
  exact HO.out.mono HB3.out.size
end Go.Proofs.YthmimipoooemjaaGreatDoor.Sg
end

section
/-
  Save: the list's bytes, and the six steps in their order.
-/
namespace Go.Proofs.YthmimipoooemjaaGreatDoor.Ix
open Go.RowKit Go.Shelf
open Sim (hid Kp No PS Done Blk nm ByP)

/-- In the midst of a save. -/
def SaveSt (P : Nat → Prop) (N : Nat) (w w1 wr : World) (s b c1 c2 : Nat) (vb : Value) (bs : List Nat) (q : PS) : Prop :=
  ∃ P', Sim.Sys P' N wr s q ∧ (∀ x, P' x → P x ∨ w1.heap.size ≤ x) ∧ Kp (fun x => P x ∨ x = b) w wr ∧ w1.heap.size ≤ wr.heap.size ∧ TabX wr b ∧
    wr.cell? ⟨c1, 0, none⟩ = some (.pointer (some ⟨s, 0, none⟩)) ∧ wr.cell? ⟨c2, 0, none⟩ = some vb ∧ ByP (fun x => w.heap.size ≤ x ∧ x < w1.heap.size) wr vb bs

structure Apart (P : Nat → Prop) (w w1 : World) (b c1 c2 : Nat) : Prop where
  lt : ∀ x, P x → x < w.heap.size
  le : w.heap.size ≤ w1.heap.size
  b : b < w.heap.size ∧ ¬ P b
  c1 : w.heap.size ≤ c1 ∧ c1 < w1.heap.size
  c2 : w.heap.size ≤ c2 ∧ c2 < w1.heap.size

theorem Apart.not {P P' : Nat → Prop} {w w1 : World} {b c1 c2 : Nat} (h : Apart P w w1 b c1 c2) (hP : ∀ x, P' x → P x ∨ w1.heap.size ≤ x) : ¬ P' b ∧ (∀ x, w.heap.size ≤ x → x < w1.heap.size → ¬ P' x) := by
  refine ⟨fun e => ?_, fun x h1 h2 e => ?_⟩
  · have := h.b
    have := h.le
    rcases hP _ e with e | e
    · exact h.b.2 e
    · omega
  · rcases hP _ e with e | e
    · have := h.lt _ e; omega
    · omega

theorem SaveSt.step {P P' : Nat → Prop} {N : Nat} {w w1 wr w2 : World} {s b c1 c2 : Nat} {vb : Value} {bs : List Nat} {q : PS} (hA : Apart P w w1 b c1 c2) (hP : ∀ x, P' x → P x ∨ w1.heap.size ≤ x) (hK : Kp (fun x => P x ∨ x = b) w wr) (hs : w1.heap.size ≤ wr.heap.size)
    (hT : TabX wr b) (k1 : wr.cell? ⟨c1, 0, none⟩ = some (.pointer (some ⟨s, 0, none⟩))) (k2 : wr.cell? ⟨c2, 0, none⟩ = some vb) (hv : ByP (fun x => w.heap.size ≤ x ∧ x < w1.heap.size) wr vb bs) (hD : Done P' N wr w2 s q) :
    SaveSt P N w w1 w2 s b c1 c2 vb bs q := by
  obtain ⟨P2, hS, hk, h2⟩ := hD
  obtain ⟨n1, n2⟩ := hA.not hP
  have hl := hA.le
  refine ⟨P2, hS, fun x hx => ?_, hK.trans hk (fun x hx => ?_), Nat.le_trans hs hk.size, hT.kp hk n1, (hk.cell (p := ⟨c1, 0, none⟩) (World.block_lt_of_cell? wr _ k1) (n2 _ hA.c1.1 hA.c1.2)).trans k1, (hk.cell (p := ⟨c2, 0, none⟩) (World.block_lt_of_cell? wr _ k2) (n2 _ hA.c2.1 hA.c2.2)).trans k2, hv.kp hk (fun x hx _ hw => n2 x hw.1 hw.2 hx)⟩
  · rcases h2 x hx with e | e
    · exact hP x e
    · right; omega
  · rcases hP x hx with e | e
    · exact .inl (.inl e)
    · right; omega

/-- Files, and a table beside them: what a call leaves. -/
def DoneT (P : Nat → Prop) (N b : Nat) (w w' : World) (s : Nat) (q : PS) : Prop :=
  TabX w' b ∧ ∃ P', Sim.Sys P' N w' s q ∧ Kp (fun x => P x ∨ x = b) w w' ∧ ∀ x, P' x → P x ∨ w.heap.size ≤ x

theorem SaveSt.done {P : Nat → Prop} {N M : Nat} {w w1 wr : World} {s b c1 c2 : Nat} {vb : Value} {bs : List Nat} {q : PS} (hA : Apart P w w1 b c1 c2) (h : SaveSt P M w w1 wr s b c1 c2 vb bs q) (hM : M ≤ N) (hN : N ≤ 1000) : DoneT P N b w wr s q := by
  obtain ⟨P', h1, h2, h3, _, h5, _⟩ := h
  refine ⟨h5, P', h1.more hM hN, h3, fun x hx => ?_⟩
  rcases h2 x hx with e | e
  · exact .inl e
  · right; have := hA.le; omega

/-- What a save answers, and leaves. -/
def SaveP (bs : List Nat) (P : Nat → Prop) (N b : Nat) (w : World) (s : Nat) (p : PS) (e : Ending) (w' : World) : Prop :=
  ∃ r, Saved bs p r ∧ e = .returned (.int .i64 (r.1 : Nat)) ∧ DoneT P N b w w' s r.2

set_option maxHeartbeats 4000000 in
set_option maxRecDepth 100000 in
theorem save_any {P Q : Nat → Prop} {N : Nat} (w : World) (s b : Nat) (p : PS) (v : Value) (d : List Sg.Ent) (h : Sim.Sys P N w s p) (hN : N + 6 ≤ 1000) (hT : TabX w b) (hb : ¬ P b) (hv : Sg.EV Q w v d) (hR : Sg.RightP d) (hl : (nats (Sg.sealE d)).length ≤ 12000) (hx : ∀ x ∈ nats (Sg.sealE d), x < 256) :
    Calls Tryz.prog 34 #[.pointer (some ⟨s, 0, none⟩), .pointer (some ⟨b, 0, none⟩), v] w fun e w' => SaveP (nats (Sg.sealE d)) P (N + 6) b w s p e w' := by
  obtain ⟨av, cv, rfl, _⟩ := id hv
  have hbl := hT.lt
  have HPL := hid h.lt
  have HS := hid h
  have HPUT := hid (Sg.put_yes b w _ d Q hT hv hR)
  generalize nats (Sg.sealE d) = bs at *
  clear hv hR hT h
  go_enter Tryz.func34, Tryz.ntmps34
  go_wp2_with fail
  refine HPUT.out.mono ?_
  rintro e w0 ⟨vb, rfl, ho, hk, ht⟩
  have hoB : Sim.OwnB w0 vb bs := ⟨ho.1, by
    rcases ho.2 with ⟨h1, h2⟩ | ⟨g, cap, cur, h1, h2, h3⟩
    · exact .inl ⟨h1, h2⟩
    · exact .inr ⟨g, cap, cur, h1, Nat.zero_le _, h3⟩⟩
  have HBY : Hid (ByP (fun x => w.heap.size ≤ x ∧ x < w0.heap.size) w0 vb bs) := (hoB.byP (P := fun x => w.heap.size ≤ x ∧ x < w0.heap.size) (fun x e => ⟨ho.ge x e, hoB.row.lt x e⟩) (by omega) hx)
  obtain ⟨ab, cb, rfl, _⟩ := hoB.shape
  have HS0 := hid (sys_kept HS.out hk hb)
  have HT0 := hid ht
  have HK0 := hid (kp_kept hk)
  clear ho hoB ht hk HPUT
  go_wp2_with fail
  refine (saving_any w0 s bs.length cb ab).mono ?_
  rintro e w1 ⟨c1, c2, rfl, k1, k2, l1, l2, hB1⟩
  have hw0 : w.heap.size ≤ w0.heap.size := HK0.out.size
  have HA : Hid (Apart P w w1 b c1 c2) := ⟨HPL.out, Nat.le_trans hw0 hB1.size, ⟨hbl, hb⟩, ⟨Nat.le_trans hw0 l1, World.block_lt_of_cell? w1 _ k1⟩, ⟨Nat.le_trans hw0 l2, World.block_lt_of_cell? w1 _ k2⟩⟩
  have hKB : Kp No w0 w1 := Kp.below hB1
  have HST : Hid (SaveSt P N w w1 w1 s b c1 c2 (.slice ab bs.length cb) bs p) := ⟨P, HS0.out.kept hKB, fun x hx => .inl hx, (HK0.out.mono (fun x hx => .inl (.inr hx))).andNone hKB, Nat.le_refl _, HT0.out.below hB1, k1, k2, (HBY.out.kept hKB).mono (fun x _ hx => ⟨hx.1, Nat.lt_of_lt_of_le hx.2 hB1.size⟩)⟩
  clear k1 k2 l1 l2 hB1 hKB hw0 HBY HS0 HT0 HK0 HS
  have ix0 : ∀ V, (Instr.index 163 (.agg (fnA c1 c2 s)) (.int .i64 0)).run Tryz.prog V = .ok (.func (.func 116) #[] #[.pointer (some ⟨c1, 0, none⟩)]) V := fun V => by kernel_rfl
  have ix1 : ∀ V, (Instr.index 163 (.agg (fnA c1 c2 s)) (.int .i64 1)).run Tryz.prog V = .ok (.func (.func 118) #[] #[.pointer (some ⟨c1, 0, none⟩)]) V := fun V => by kernel_rfl
  have ix2 : ∀ V, (Instr.index 163 (.agg (fnA c1 c2 s)) (.int .i64 2)).run Tryz.prog V = .ok (.func (.func 120) #[] #[.pointer (some ⟨c1, 0, none⟩), .pointer (some ⟨c2, 0, none⟩)]) V := fun V => by kernel_rfl
  have ix3 : ∀ V, (Instr.index 163 (.agg (fnA c1 c2 s)) (.int .i64 3)).run Tryz.prog V = .ok (.func (.func 122) #[] #[.pointer (some ⟨c1, 0, none⟩)]) V := fun V => by kernel_rfl
  have ix4 : ∀ V, (Instr.index 163 (.agg (fnA c1 c2 s)) (.int .i64 4)).run Tryz.prog V = .ok (.func (.func 124) #[] #[.pointer (some ⟨c1, 0, none⟩)]) V := fun V => by kernel_rfl
  have ix5 : ∀ V, (Instr.index 163 (.agg (fnA c1 c2 s)) (.int .i64 5)).run Tryz.prog V = .ok (.func (.func 86) #[.pointer (some ⟨s, 0, none⟩)] #[]) V := fun V => by kernel_rfl
  obtain ⟨FA, hFA⟩ : ∃ FA, fnA c1 c2 s = FA := ⟨_, rfl⟩
  rw [hFA] at ix0 ix1 ix2 ix3 ix4 ix5
  rw [hFA]
  clear hFA
  go_wp2_with fail
  go_loopw [26] (fun iv wr => ∃ j : Nat, j ≤ 6 ∧ iv = .int .i64 (j : Int) ∧ Hid (∃ q, SaveSt P (N + j) w w1 wr s b c1 c2 (.slice ab bs.length cb) bs q ∧ Reach bs p j q)) (fun iv _ => 6 - (intOf iv).toNat)
  case atStart => exact ⟨0, by omega, rfl, p, HST.out, rfl⟩
  case round =>
    obtain ⟨j, hj, rfl, HS⟩ := hrel
    clear HST
    have hjj : j = 0 ∨ j = 1 ∨ j = 2 ∨ j = 3 ∨ j = 4 ∨ j = 5 ∨ j = 6 := by omega
    rcases hjj with rfl | rfl | rfl | rfl | rfl | rfl | rfl
    · obtain ⟨q, ⟨P', hS, hP, hK, hs, hT, k1, k2, hv⟩, hR⟩ := HS.out
      obtain ⟨n1, n2⟩ := HA.out.not hP
      have HCALL := hid (save1_any bs wr s c1 q hS (by omega) k1)
      have HPK := hid (fun w2 q2 (hD : Done P' (N + 0 + 1) wr w2 s q2) => SaveSt.step HA.out hP hK hs hT k1 k2 hv hD)
      have HR := hid hR
      clear HS hS hP hK hs hT k1 k2 hv n1 n2 hR
      go_wp2_with fail
      refine HCALL.out.mono ?_
      rintro e w2 ⟨r, hr, rfl, hD⟩
      have HST := hid (HPK.out w2 r.2 hD)
      have HRR := hid hr
      clear hD hr HCALL HPK
      by_cases hz : r.1 = 0
      · have HZ := hid hz
        rw [hz]
        clear hz
        go_wp2_with fail
        go_round
        case rel => exact ⟨1, by omega, by go_num, r.2, HST.out, q, HR.out, by have h := HRR.out; rw [show r = (0, r.2) from Prod.ext HZ.out rfl] at h; exact h⟩
        case measure => simp [intOf]
      · have HZ := hid hz
        obtain ⟨F, hF⟩ : ∃ F, r.1 = F := ⟨_, rfl⟩
        have HF := hid hF
        rw [hF] at hz ⊢
        have hz' : ¬ ((F : Int) = 0) := by omega
        clear hF
        go_wp2_with fail
        go_ret
        exact ⟨r, .inr ⟨HZ.out, 0, by omega, q, HR.out, HRR.out⟩, by rw [HF.out]; rfl, HST.out.done HA.out (by omega) hN⟩
    · obtain ⟨q, ⟨P', hS, hP, hK, hs, hT, k1, k2, hv⟩, hR⟩ := HS.out
      obtain ⟨n1, n2⟩ := HA.out.not hP
      have HCALL := hid (save2_any bs wr s c1 q hS (by omega) k1)
      have HPK := hid (fun w2 q2 (hD : Done P' (N + 1 + 1) wr w2 s q2) => SaveSt.step HA.out hP hK hs hT k1 k2 hv hD)
      have HR := hid hR
      clear HS hS hP hK hs hT k1 k2 hv n1 n2 hR
      go_wp2_with fail
      refine HCALL.out.mono ?_
      rintro e w2 ⟨r, hr, rfl, hD⟩
      have HST := hid (HPK.out w2 r.2 hD)
      have HRR := hid hr
      clear hD hr HCALL HPK
      by_cases hz : r.1 = 0
      · have HZ := hid hz
        rw [hz]
        clear hz
        go_wp2_with fail
        go_round
        case rel => exact ⟨2, by omega, by go_num, r.2, HST.out, q, HR.out, by have h := HRR.out; rw [show r = (0, r.2) from Prod.ext HZ.out rfl] at h; exact h⟩
        case measure => simp [intOf]
      · have HZ := hid hz
        obtain ⟨F, hF⟩ : ∃ F, r.1 = F := ⟨_, rfl⟩
        have HF := hid hF
        rw [hF] at hz ⊢
        have hz' : ¬ ((F : Int) = 0) := by omega
        clear hF
        go_wp2_with fail
        go_ret
        exact ⟨r, .inr ⟨HZ.out, 1, by omega, q, HR.out, HRR.out⟩, by rw [HF.out]; rfl, HST.out.done HA.out (by omega) hN⟩
    · obtain ⟨q, ⟨P', hS, hP, hK, hs, hT, k1, k2, hv⟩, hR⟩ := HS.out
      obtain ⟨n1, n2⟩ := HA.out.not hP
      have HCALL := hid (save3_any bs wr s c1 c2 q _ hS (by omega) k1 k2 hv (fun x hx => n2 x hx.1 hx.2) hl)
      have HPK := hid (fun w2 q2 (hD : Done P' (N + 2 + 1) wr w2 s q2) => SaveSt.step HA.out hP hK hs hT k1 k2 hv hD)
      have HR := hid hR
      clear HS hS hP hK hs hT k1 k2 hv n1 n2 hR
      go_wp2_with fail
      refine HCALL.out.mono ?_
      rintro e w2 ⟨r, hr, rfl, hD⟩
      have HST := hid (HPK.out w2 r.2 hD)
      have HRR := hid hr
      clear hD hr HCALL HPK
      by_cases hz : r.1 = 0
      · have HZ := hid hz
        rw [hz]
        clear hz
        go_wp2_with fail
        go_round
        case rel => exact ⟨3, by omega, by go_num, r.2, HST.out, q, HR.out, by have h := HRR.out; rw [show r = (0, r.2) from Prod.ext HZ.out rfl] at h; exact h⟩
        case measure => simp [intOf]
      · have HZ := hid hz
        obtain ⟨F, hF⟩ : ∃ F, r.1 = F := ⟨_, rfl⟩
        have HF := hid hF
        rw [hF] at hz ⊢
        have hz' : ¬ ((F : Int) = 0) := by omega
        clear hF
        go_wp2_with fail
        go_ret
        exact ⟨r, .inr ⟨HZ.out, 2, by omega, q, HR.out, HRR.out⟩, by rw [HF.out]; rfl, HST.out.done HA.out (by omega) hN⟩
    · obtain ⟨q, ⟨P', hS, hP, hK, hs, hT, k1, k2, hv⟩, hR⟩ := HS.out
      obtain ⟨n1, n2⟩ := HA.out.not hP
      have HCALL := hid (save4_any bs wr s c1 q hS (by omega) k1)
      have HPK := hid (fun w2 q2 (hD : Done P' (N + 3 + 1) wr w2 s q2) => SaveSt.step HA.out hP hK hs hT k1 k2 hv hD)
      have HR := hid hR
      clear HS hS hP hK hs hT k1 k2 hv n1 n2 hR
      go_wp2_with fail
      refine HCALL.out.mono ?_
      rintro e w2 ⟨r, hr, rfl, hD⟩
      have HST := hid (HPK.out w2 r.2 hD)
      have HRR := hid hr
      clear hD hr HCALL HPK
      by_cases hz : r.1 = 0
      · have HZ := hid hz
        rw [hz]
        clear hz
        go_wp2_with fail
        go_round
        case rel => exact ⟨4, by omega, by go_num, r.2, HST.out, q, HR.out, by have h := HRR.out; rw [show r = (0, r.2) from Prod.ext HZ.out rfl] at h; exact h⟩
        case measure => simp [intOf]
      · have HZ := hid hz
        obtain ⟨F, hF⟩ : ∃ F, r.1 = F := ⟨_, rfl⟩
        have HF := hid hF
        rw [hF] at hz ⊢
        have hz' : ¬ ((F : Int) = 0) := by omega
        clear hF
        go_wp2_with fail
        go_ret
        exact ⟨r, .inr ⟨HZ.out, 3, by omega, q, HR.out, HRR.out⟩, by rw [HF.out]; rfl, HST.out.done HA.out (by omega) hN⟩
    · obtain ⟨q, ⟨P', hS, hP, hK, hs, hT, k1, k2, hv⟩, hR⟩ := HS.out
      obtain ⟨n1, n2⟩ := HA.out.not hP
      have HCALL := hid (save5_any bs wr s c1 q hS (by omega) k1)
      have HPK := hid (fun w2 q2 (hD : Done P' (N + 4 + 1) wr w2 s q2) => SaveSt.step HA.out hP hK hs hT k1 k2 hv hD)
      have HR := hid hR
      clear HS hS hP hK hs hT k1 k2 hv n1 n2 hR
      go_wp2_with fail
      refine HCALL.out.mono ?_
      rintro e w2 ⟨r, hr, rfl, hD⟩
      have HST := hid (HPK.out w2 r.2 hD)
      have HRR := hid hr
      clear hD hr HCALL HPK
      by_cases hz : r.1 = 0
      · have HZ := hid hz
        rw [hz]
        clear hz
        go_wp2_with fail
        go_round
        case rel => exact ⟨5, by omega, by go_num, r.2, HST.out, q, HR.out, by have h := HRR.out; rw [show r = (0, r.2) from Prod.ext HZ.out rfl] at h; exact h⟩
        case measure => simp [intOf]
      · have HZ := hid hz
        obtain ⟨F, hF⟩ : ∃ F, r.1 = F := ⟨_, rfl⟩
        have HF := hid hF
        rw [hF] at hz ⊢
        have hz' : ¬ ((F : Int) = 0) := by omega
        clear hF
        go_wp2_with fail
        go_ret
        exact ⟨r, .inr ⟨HZ.out, 4, by omega, q, HR.out, HRR.out⟩, by rw [HF.out]; rfl, HST.out.done HA.out (by omega) hN⟩
    · obtain ⟨q, ⟨P', hS, hP, hK, hs, hT, k1, k2, hv⟩, hR⟩ := HS.out
      obtain ⟨n1, n2⟩ := HA.out.not hP
      have HCALL := hid (save6_any bs wr s q hS (by omega))
      have HPK := hid (fun w2 q2 (hD : Done P' (N + 5 + 1) wr w2 s q2) => SaveSt.step HA.out hP hK hs hT k1 k2 hv hD)
      have HR := hid hR
      clear HS hS hP hK hs hT k1 k2 hv n1 n2 hR
      go_wp2_with fail
      refine HCALL.out.mono ?_
      rintro e w2 ⟨r, hr, rfl, hD⟩
      have HST := hid (HPK.out w2 r.2 hD)
      have HRR := hid hr
      clear hD hr HCALL HPK
      by_cases hz : r.1 = 0
      · have HZ := hid hz
        rw [hz]
        clear hz
        go_wp2_with fail
        go_round
        case rel => exact ⟨6, by omega, by go_num, r.2, HST.out, q, HR.out, by have h := HRR.out; rw [show r = (0, r.2) from Prod.ext HZ.out rfl] at h; exact h⟩
        case measure => simp [intOf]
      · have HZ := hid hz
        obtain ⟨F, hF⟩ : ∃ F, r.1 = F := ⟨_, rfl⟩
        have HF := hid hF
        rw [hF] at hz ⊢
        have hz' : ¬ ((F : Int) = 0) := by omega
        clear hF
        go_wp2_with fail
        go_ret
        exact ⟨r, .inr ⟨HZ.out, 5, by omega, q, HR.out, HRR.out⟩, by rw [HF.out]; rfl, HST.out.done HA.out (by omega) hN⟩
    · have HS' := HS
      clear HS
      go_wp2_with fail
      go_ret
      obtain ⟨q, hst, hR⟩ := HS'.out
      exact ⟨(0, q), .inl ⟨rfl, hR⟩, rfl, hst.done HA.out (by omega) hN⟩

end Go.Proofs.YthmimipoooemjaaGreatDoor.Ix
end

section
/-
  The index: what is said of what is not there.
-/
namespace Go.Proofs.YthmimipoooemjaaGreatDoor.Ix
open Go.RowKit
open Sim (hid Kp No)
end Go.Proofs.YthmimipoooemjaaGreatDoor.Ix
end

section
/-
  An index in memory: Len, Find, become, Add.
-/
namespace Go.Proofs.YthmimipoooemjaaGreatDoor.Ix
open Go.RowKit Go.Shelf
open Sim (hid Kp No PS Done Blk nm ByP)
open Stb (Stab Srt)

def ixC (s b : Nat) (v : Value) : List Value := [.pointer (some ⟨s, 0, none⟩), .pointer (some ⟨b, 0, none⟩), v]
/-- An index at x: of the files at s, with the table at b; its list is v. -/
def IxAt (w : World) (x s b : Nat) (v : Value) : Prop := Blk w x 169 (ixC s b v)

theorem none_any (w : World) (x s b : Nat) (v : Value) (hX : IxAt w x s b v) : Calls Tryz.prog 81 #[.pointer (some ⟨x, 0, none⟩)] w fun e w' => e = .returned (.bool false) ∧ w' = w := by
  have c0 : w.cell? ⟨x, 0, none⟩ = some (.pointer (some ⟨s, 0, none⟩)) := hX.cell 0
  go_enter Tryz.func81, Tryz.ntmps81
  go_wp2_with fail
  go_ret
  exact ⟨rfl, rfl⟩

theorem len_any (w : World) (x s b n c : Nat) (a : Option Addr) (hX : IxAt w x s b (.slice a n c)) : Calls Tryz.prog 42 #[.pointer (some ⟨x, 0, none⟩)] w fun e w' => e = .returned (.int .i64 (n : Int)) ∧ w' = w := by
  have c2 : w.cell? ⟨x, 2, none⟩ = some (.slice a n c) := hX.cell 2
  have HN := hid (none_any w x s b _ hX)
  clear hX
  go_enter Tryz.func42, Tryz.ntmps42
  go_wp2_with fail
  refine HN.out.mono ?_
  rintro e w1 ⟨rfl, rfl⟩
  go_wp2_with fail
  go_ret
  exact ⟨rfl, rfl⟩

/-- What become answers, and leaves. -/
def BecP (bs : List Nat) (P : Nat → Prop) (N b x : Nat) (w : World) (s : Nat) (p : PS) (v v0 : Value) (e : Ending) (w' : World) : Prop :=
  ∃ r, Saved bs p r ∧ e = .returned (.int .i64 (r.1 : Nat)) ∧ IxAt w' x s b (if r.1 = 0 then v else v0) ∧ TabX w' b ∧
    ∃ P', Sim.Sys P' N w' s r.2 ∧ Kp (fun y => P y ∨ y = b ∨ y = x) w w' ∧ ∀ y, P' y → P y ∨ w.heap.size ≤ y

set_option maxHeartbeats 1000000 in
theorem become_any {P Q : Nat → Prop} {N : Nat} (w : World) (s b x : Nat) (p : PS) (v v0 : Value) (d : List Sg.Ent) (h : Sim.Sys P N w s p) (hN : N + 6 ≤ 1000) (hT : TabX w b) (hb : ¬ P b) (hX : IxAt w x s b v0) (hxP : ¬ P x) (hxb : x ≠ b)
    (hv : Sg.EV Q w v d) (hR : Sg.RightP d) (hl : (nats (Sg.sealE d)).length ≤ 12000) (hx : ∀ x ∈ nats (Sg.sealE d), x < 256) :
    Calls Tryz.prog 80 #[.pointer (some ⟨x, 0, none⟩), v] w fun e w' => BecP (nats (Sg.sealE d)) P (N + 6) b x w s p v v0 e w' := by
  have hld : d.length ≤ 1000000 := by have := hR.1; omega
  have HRT := hid (Sg.right_any w v d Q hv hld)
  have HRP := hid hR
  have HSV := hid (fun V (hk : Kp No w V) => save_any V s b p v d (h.kept hk) hN (hT.kp hk (fun h => h)) hb (hv.kept hk) hR hl hx)
  have HX := hid hX
  have hxl := hX.lt
  have HPL := hid h.lt
  obtain ⟨av, cv, rfl, _⟩ := id hv
  generalize nats (Sg.sealE d) = bs at *
  clear hv h hT hX hR
  go_enter Tryz.func80, Tryz.ntmps80
  go_wp2_with fail
  refine HRT.out.mono ?_
  rintro e w1 ⟨⟨rb, rfl, hrb⟩, hk1⟩
  obtain rfl : rb = true := hrb.2 HRP.out
  have HK1 := hid hk1
  have c0 : w1.cell? ⟨x, 0, none⟩ = some (.pointer (some ⟨s, 0, none⟩)) := (HX.out.kp hk1 (fun h => h)).cell 0
  have c1 : w1.cell? ⟨x, 1, none⟩ = some (.pointer (some ⟨b, 0, none⟩)) := (HX.out.kp hk1 (fun h => h)).cell 1
  clear hk1 hrb HRT
  go_wp2_with fail
  go_region_with (go_at_call 34; refine (HSV.out _ (HK1.out.drew)).mono ?_; rintro e w2 ⟨r, hr, rfl, hD⟩; have HD := hid (And.intro hr hD); clear hr hD)
  all_goals
    have HF : Hid (TabX w2 b ∧ ∃ P', Sim.Sys P' (N + 6) w2 s r.2 ∧ Kp (fun y => P y ∨ y = b) w w2 ∧ (∀ y, P' y → P y ∨ w.heap.size ≤ y) ∧ IxAt w2 x s b v0 ∧ ¬ P' x) := by
      obtain ⟨_, ht, P', h1, h2, h3⟩ := HD.out
      have hk := HK1.out.drew
      have hkk : Kp (fun y => P y ∨ y = b) w w2 := hk.ofNo.trans h2 (fun y hy => .inl hy)
      refine ⟨ht, P', h1, hkk, fun y hy => ?_, HX.out.kp hkk (fun e => ?_), fun e => ?_⟩
      · rcases h3 y hy with e | e
        · exact .inl e
        · right; have := hk.size; omega
      · rcases e with e | e
        · exact hxP e
        · exact hxb e
      · rcases h3 x e with e | e
        · exact hxP e
        · have := hk.size; omega
    have HSD := hid HD.out.1
    clear HD HSV HK1 c0 c1
    by_cases hz : r.1 = 0
    · have HZ := hid hz
      rw [hz]
      have hx2 : w2.cell? ⟨x, 2, none⟩ = some v0 := HF.out.2.choose_spec.2.2.2.1.cell 2
      have hf2 : w2.frozen? ⟨x, 2, none⟩ = false := HF.out.2.choose_spec.2.2.2.1.frozen 2
      clear hz
      go_wp2_with fail
      go_ret
      obtain ⟨ht, P', h1, h2, h3, h4, h5⟩ := HF.out
      have hs : Kp (fun y => y = x) w2 (w2.setCell ⟨x, 2, none⟩ (.slice av d.length cv)) := Kp.setCell (p := ⟨x, 2, none⟩) (Kp.refl (fun y => y = x) w2) (.inl rfl) _
      refine ⟨r, HSD.out, by rw [HZ.out]; rfl, ?_, ht.kp hs (fun e => hxb e.symm), P', h1.kp hs (fun y hy => by rw [hy]; exact h5), (h2.mono (fun y hy => .inl (by rcases hy with e | e; exact .inl e; exact .inr (.inl e)))).trans hs (fun y hy => .inl (.inr (.inr hy))), h3⟩
      rw [if_pos HZ.out]
      exact Blk.setCell h4 2 _
    · have HZ := hid hz
      obtain ⟨F, hF⟩ : ∃ F, r.1 = F := ⟨_, rfl⟩
      have HFF := hid hF
      rw [hF] at hz ⊢
      have hz' : ¬ ((F : Int) = 0) := by omega
      clear hF
      go_wp2_with fail
      go_ret
      obtain ⟨ht, P', h1, h2, h3, h4, h5⟩ := HF.out
      refine ⟨r, HSD.out, by rw [HFF.out]; rfl, ?_, ht, P', h1, h2.mono (fun y hy => .inl (by rcases hy with e | e; exact .inl e; exact .inr (.inl e))), h3⟩
      rw [if_neg HZ.out]
      exact h4

set_option maxHeartbeats 1000000 in
theorem add_any {P Q Q0 : Nat → Prop} {N : Nat} (w : World) (s b x : Nat) (p : PS) (v v0 : Value) (d d0 : List Sg.Ent) (h : Sim.Sys P N w s p) (hN : N + 6 ≤ 1000) (hT : TabX w b) (hb : ¬ P b) (hX : IxAt w x s b v0) (hxP : ¬ P x) (hxb : x ≠ b)
    (h0 : Sg.EV Q0 w v0 d0) (hv : Sg.EV Q w v d) (hl : d0.length + d.length ≤ 900) (hR : ∀ X, Stab Sg.ky (d0 ++ d) X → Srt Sg.ky Sg.lexB X → Sg.RightP (Sg.cmpct X) ∧ (nats (Sg.sealE (Sg.cmpct X))).length ≤ 12000 ∧ ∀ x ∈ nats (Sg.sealE (Sg.cmpct X)), x < 256) :
    Calls Tryz.prog 45 #[.pointer (some ⟨x, 0, none⟩), v] w fun e w' => ∃ X r w1, Stab Sg.ky (d0 ++ d) X ∧ Srt Sg.ky Sg.lexB X ∧ Kp No w w1 ∧ Sg.EV (fun g => w.heap.size ≤ g) w1 r (Sg.cmpct X) ∧ BecP (nats (Sg.sealE (Sg.cmpct X))) P (N + 6) b x w1 s p r v0 e w' := by
  have HJ := hid (Sg.join_any w v0 v d0 d Q0 Q h0 hv (by omega))
  have HN := hid (none_any w x s b v0 hX)
  have c2 : w.cell? ⟨x, 2, none⟩ = some v0 := hX.cell 2
  have HB := hid (fun w1 (hk : Kp No w w1) r X (hs : Stab Sg.ky (d0 ++ d) X) (hr : Srt Sg.ky Sg.lexB X) (hv : Sg.EV (fun g => w.heap.size ≤ g) w1 r (Sg.cmpct X)) => become_any w1 s b x p r v0 (Sg.cmpct X) (h.kept hk) hN (hT.kp hk (fun h => h)) hb (hX.kp hk (fun h => h)) hxP hxb hv (hR X hs hr).1 (hR X hs hr).2.1 (hR X hs hr).2.2)
  obtain ⟨av, cv, rfl, _⟩ := id hv
  obtain ⟨a0, c0, rfl, _⟩ := id h0
  clear h hT hX h0 hv hR
  go_enter Tryz.func45, Tryz.ntmps45
  go_wp2_with fail
  refine HN.out.mono ?_
  rintro e w0 ⟨rfl, rfl⟩
  go_wp2_with fail
  refine HJ.out.mono ?_
  rintro e w1 ⟨r, X, rfl, hs, hr, hk, hv⟩
  obtain ⟨ar, cr, rfl, _⟩ := id hv
  have HC := hid (HB.out w1 hk _ X hs hr hv)
  have HG := hid (And.intro hs (And.intro hr (And.intro hk hv)))
  clear hs hr hk hv HB HJ
  generalize (Sg.cmpct X).length = n at *
  go_wp2_with fail
  refine HC.out.mono ?_
  rintro e w2 hbp
  obtain ⟨rr, hsv, rfl, hrest⟩ := id hbp
  have HBP := hid hbp
  clear hbp hsv hrest
  generalize rr.1 = F at *
  go_wp2_with fail
  go_ret
  exact ⟨X, _, w1, HG.out.1, HG.out.2.1, HG.out.2.2.1, HG.out.2.2.2, HBP.out⟩

end Go.Proofs.YthmimipoooemjaaGreatDoor.Ix
end

section
/-
  A pack is loaded.
-/
namespace Go.Proofs.YthmimipoooemjaaGreatDoor
open Go.RowKit Go.Shelf
open Tlv (BySlS)
open Sim (hid Kp No PS Done Blk nm finds pBytes OwnB)

theorem own_of {w : World} {v : Value} {xs : List Nat} (h : OwnB w v xs) (hx : ∀ x ∈ xs, x < 256) (hl : xs.length ≤ 140737488355328) (B : Nat) (hB : ∀ x, v.ownBlock = some x → B ≤ x) : BySlS (fun g => B ≤ g ∧ g < w.heap.size) w v (ints xs) := by
  have h1 : w.ownsRow B 5 1 v (ints xs).length ((ints xs).map (Value.int .u8)) := by
    have e1 : (ints xs).map (Value.int .u8) = Sim.cl xs := by simp [ints, Sim.cl, Function.comp_def]
    rw [e1, ints_length]
    refine ⟨h.1, ?_⟩
    rcases h.2 with h2 | ⟨g, cap, cur, hv, _, r⟩
    · exact .inl h2
    · exact .inr ⟨g, cap, cur, hv, hB g (by rw [hv]; rfl), r⟩
  exact Tlv.BySl.toS (Tlv.BySl.own h1 (by rw [ints_length]; exact hl) (ints_bd _ hx))

end Go.Proofs.YthmimipoooemjaaGreatDoor
end

section
/-
  What a seal takes: the two closures.
-/
namespace Go.Proofs.YthmimipoooemjaaGreatDoor
open Go.RowKit Go.Shelf
open Sim (hid Kp No PS Done Blk nm finds pFsync pRename pSyncDir)
end Go.Proofs.YthmimipoooemjaaGreatDoor
end

section
/-
  What a seal takes, laid in an array; Seal.
-/
namespace Go.Proofs.YthmimipoooemjaaGreatDoor
open Go.RowKit Go.Shelf
open Sim (hid Kp No PS Done Blk nm finds pFsync pRename pSyncDir)
end Go.Proofs.YthmimipoooemjaaGreatDoor
end

section
/-
  Seal.
-/
namespace Go.Proofs.YthmimipoooemjaaGreatDoor
open Go.RowKit Go.Shelf
open Sim (hid Kp No PS Done Blk nm finds pFsync pRename pSyncDir)
end Go.Proofs.YthmimipoooemjaaGreatDoor
end

section
/-
  Plain mathematics of a pack: one file made, written, synced, moved.
-/
namespace Go.Proofs.YthmimipoooemjaaGreatDoor.Sim

def startPS (room : Nat) : PS := ⟨room, false, [], [], [], false, false, 0, 0, fun _ => none⟩

section
variable {t n : Nm} {r b : Nat} {ys : List Nat}

theorem start_finds (hn : nameB n = true) : finds (startPS r) n = 5 := by simp [finds, wrongs, startPS, hn, dfind]

def q1 (t : Nm) (r b : Nat) : PS := chgd ⟨0, t, [], b⟩ (setF b ⟨[], 0⟩ (tick (startPS r)))
def q2 (t : Nm) (r b : Nat) (ys : List Nat) : PS := setF b ⟨ys, 0⟩ (tick (q1 t r b))
def q3 (t : Nm) (r b : Nat) (ys : List Nat) : PS := setF b ⟨ys, ys.length⟩ (tick (q2 t r b ys))
def q4 (t n : Nm) (r b : Nat) (ys : List Nat) : PS := chgd ⟨2, t, n, 0⟩ (tick (q3 t r b ys))
def q5 (t n : Nm) (r b : Nat) (ys : List Nat) : PS := settle (q4 t n r b ys).chg.length (tick (q4 t n r b ys))
end
end Go.Proofs.YthmimipoooemjaaGreatDoor.Sim
end

section
/-
  Plain mathematics of a pack with many records: one file that is appended to, synced and moved, on a disk that goes down at any step; and what is there once it is up again.
-/
namespace Go.Proofs.YthmimipoooemjaaGreatDoor.Sim

/-- One file x, whatever is seen of it. -/
def one (d ar : Bool) (lf st : Nat) (sn : Dir) (cg : List PC) (sa : Dir) (r x : Nat) (f : Fl) : PS := ⟨r, true, sn, sa, cg, d, ar, lf, st, fun y => if y = x then some f else none⟩
section
variable {t n : Nm} {r x : Nat} {ar d : Bool} {ys bs : List Nat} {p : PS}

def start (r : Nat) (ar : Bool) (lf : Nat) : PS := { startPS r with armed := ar, left := lf }
/-- The pack is begun: the file is seen under its temporary name. -/
def Beg (t : Nm) (r x : Nat) (ar d : Bool) (ys : List Nat) (p : PS) : Prop := (d = true → ar = true) ∧ ∃ lf st, p = one d ar lf st [(t, x)] [⟨0, t, [], x⟩] [] r x ⟨ys, 0⟩

/-- How far a sealing came: 0: nothing of it is safe; 1: the bytes are; 2: they are moved; 3: that is safe. -/
def SealR (t n : Nm) (r x : Nat) (ys : List Nat) (k : Nat) (p : PS) : Prop :=
  ∃ d ar lf st, (k = 0 ∧ p = one d ar lf st [(t, x)] [⟨0, t, [], x⟩] [] r x ⟨ys, 0⟩) ∨ (k = 1 ∧ p = one d ar lf st [(t, x)] [⟨0, t, [], x⟩] [] r x ⟨ys, ys.length⟩) ∨
    (k = 2 ∧ p = one d ar lf st [(n, x)] [⟨0, t, [], x⟩, ⟨2, t, n, 0⟩] [] r x ⟨ys, ys.length⟩) ∨ (k = 3 ∧ p = one d ar lf st [(n, x)] [] [(n, x)] r x ⟨ys, ys.length⟩)
variable {c : Nat}
end
end Go.Proofs.YthmimipoooemjaaGreatDoor.Sim
namespace Go.Proofs.YthmimipoooemjaaGreatDoor
open Sim (Beg SealR nm nameB PS)

section
variable {i r x : Nat} {ar d : Bool} {ys : List Nat} {p : PS}
end
end Go.Proofs.YthmimipoooemjaaGreatDoor
end

section
/-
  A record of a pack is got.
-/
namespace Go.Proofs.YthmimipoooemjaaGreatDoor
open Go.RowKit Go.Shelf
open Tlv (BySlS)
open Sim (hid Kp No PS Done Blk nm finds pBytes OwnB)
end Go.Proofs.YthmimipoooemjaaGreatDoor
end

section
/-
  Plain mathematics: frames laid one behind the other, and cut off anywhere, are scanned to those that are whole.
-/
namespace Go.Proofs.YthmimipoooemjaaGreatDoor

abbrev Rec : Type := Int × List Int × List Int
def frOf (r : Rec) : List Int := frameR r.1 r.2.1 r.2.2
/-- How many are whole in the first c bytes. -/
def cnt : List Rec → Nat → Nat
  | [], _ => 0
  | r :: rs, c => if (frOf r).length ≤ c then cnt rs (c - (frOf r).length) + 1 else 0
end Go.Proofs.YthmimipoooemjaaGreatDoor
end

section
/-
  What the reference's Take and Get answer.
-/
namespace Go.Proofs.YthmimipoooemjaaGreatDoor.Tlv
open Go.RowKit
attribute [local go_sem ↓] Go.wp_at_zero Go.wp_at_succ

end Go.Proofs.YthmimipoooemjaaGreatDoor.Tlv
end

section
/-
  What the reference's Open does.
-/
namespace Go.Proofs.YthmimipoooemjaaGreatDoor.Crc
open Go.RowKit

end Go.Proofs.YthmimipoooemjaaGreatDoor.Crc
end

section
/-
  The document's Take.
-/
namespace Go.Proofs.YthmimipoooemjaaGreatDoor
open Go.RowKit Go.Shelf
open Tlv (Tr BySlS AgreeS Agree)
open Crc (hid Kept Tab)
end Go.Proofs.YthmimipoooemjaaGreatDoor
end

section
/-
  The document's Scan.
-/
namespace Go.Proofs.YthmimipoooemjaaGreatDoor
open Go.RowKit Go.Shelf
open Tlv (Tr BySlS AgreeS Agree)
open Crc (hid Kept Tab)

theorem wpList_val {P : Program} {ops : Array Oper} {rest : List Oper} {o : Oper} {a : Act} {Q : Exit → Act → World → Prop} {w w' : World} {v : Value} (hgd : o.guard = none) (hr : (execOp a.eval o).run P w = .ok (.value v) w') (h : wpList P ops Q rest (a.put o.dst v) w') : wpList P ops Q (o :: rest) a w :=
  wpList_plain hgd fun _ hK => by unfold Oper.wp; rw [hr]; exact hK _ _ h

end Go.Proofs.YthmimipoooemjaaGreatDoor
end

section
/-
  FrameTurned, walked: a frame of which bits within 32 are turned, behind its first three bytes, is none.
-/
namespace Go.Proofs.YthmimipoooemjaaGreatDoor
open Go.RowKit
open Tlv (Tr BySlS AgreeS Agree)
open Crc (hid Kept Tab turn)
end Go.Proofs.YthmimipoooemjaaGreatDoor
end

section
/-
  Three rows that a call builds side by side: bytes, ends, records.
-/
namespace Go.Proofs.YthmimipoooemjaaGreatDoor
open Go.RowKit Go.Shelf
open Tlv (Tr BySlS AgreeS Agree)
open Crc (hid Kept Tab)

/-- One of the list: a record, and where its body lies. -/
abbrev El : Type := Rec × Option Addr × Nat
def elV (z : El) : Value := .slice z.2.1 z.1.2.2.length z.2.2
def elC (z : El) : List Value := recA z.1.1 z.1.2.1 (elV z)
def recsC : List El → List Value
  | [] => []
  | z :: zs => elC z ++ recsC zs
def nums (l : List Nat) : List Value := l.map fun (n : Nat) => Value.int .i64 (n : Int)

/-- The three rows, in blocks from B on, each in one of its own; all else from w1 on is as it was, the table's block b left out. -/
structure R3 (B b : Nat) (w1 wr : World) (va ve vw : Value) (xa : List Int) (xe : List Nat) (zs : List El) : Prop where
  kept : Kept b w1 wr
  tab : TabX wr b
  all : wr.ownsRow B 5 1 va xa.length (u8s xa)
  ends : wr.ownsRow B 3 1 ve xe.length (nums xe)
  want : wr.ownsRow B 68 34 vw zs.length (recsC zs)
  ae : ∀ q, va.ownBlock = some q → ve.ownBlock ≠ some q
  aw : ∀ q, va.ownBlock = some q → vw.ownBlock ≠ some q
  ew : ∀ q, ve.ownBlock = some q → vw.ownBlock ≠ some q

section
variable {B b : Nat} {w1 wr W : World} {va ve vw : Value} {xa : List Int} {xe : List Nat} {zs : List El}
end
end Go.Proofs.YthmimipoooemjaaGreatDoor
end

section
/-
  lose, Up.
-/
namespace Go.Proofs.YthmimipoooemjaaGreatDoor.Sim
open Go.RowKit Go.Maps

set_option maxHeartbeats 2000000 in
theorem lose_raw (W : World) (b n cap m : Nat) (a : Option Addr) (k : Int) (hb : Blk W b 135 [.slice a n cap, .int .i64 (m : Int)]) (hn : n ≤ cap) (hm : m ≤ n) (hN : n ≤ 20000000) :
    Calls Tryz.prog 63 #[.pointer (some ⟨b, 0, none⟩), .int .i64 k] W fun e w' => e = .returned (.tuple #[]) ∧ ∃ W1, Kp No W W1 ∧
      w' = (W1.setCell ⟨b, 0, none⟩ (.slice a (m + min (max k 0).toNat (n - m)) cap)).setCell ⟨b, 1, none⟩ (.int .i64 ((m + min (max k 0).toNat (n - m) : Nat) : Int)) := by
  have c0 : W.cell? ⟨b, 0, none⟩ = some (.slice a n cap) := hb.cell 0
  have c1 : W.cell? ⟨b, 1, none⟩ = some (.int .i64 (m : Int)) := hb.cell 1
  have f0 := hb.frozen 0
  have f1 := hb.frozen 1
  clear hb
  obtain ⟨r, hr⟩ : ∃ r : Nat, min (max k 0).toNat (n - m) = r := ⟨_, rfl⟩
  have hrI : min (max k 0) ((n : Int) - (m : Int)) = (r : Int) := by rw [← hr]; omega
  have hrm : m + r ≤ n := by rw [← hr]; omega
  rw [hr]
  clear hr
  have hrc : m + r ≤ cap := by omega
  have hI0 : (0 : Int) ≤ (m : Int) + (r : Int) := by omega
  have hI1 : (m : Int) + (r : Int) ≤ (cap : Int) := by omega
  go_enter Tryz.func63, Tryz.ntmps63
  go_wp2_with fail
  go_region
  all_goals
    go_wp2_with fail
    go_region
    all_goals
      go_wp2
      go_end0
      exact ⟨rfl, W.drew.drew, (Kp.refl _ _).drew.drew, rfl⟩

/-- A row's front. -/
theorem OwnB.front {w : World} {a : Option Addr} {n0 cap : Nat} {bs : List Nat} (h : OwnB w (.slice a n0 cap) bs) (j : Nat) (hj : j ≤ bs.length) : OwnB w (.slice a j cap) (bs.take j) := by
  have hl : (bs.take j).length = j := List.length_take_of_le hj
  have hcl : cl (bs.take j) = (cl bs).take j := by simp [cl, List.map_take]
  rcases h.row.2 with ⟨e, e2⟩ | ⟨g, cap', cur, e, hb, hh, h1, h2, h3, h4⟩
  · cases e
    have : bs = [] := List.length_eq_zero_iff.1 e2
    subst this
    have : j = 0 := by simpa using hj
    subst this
    exact OwnB.nil _
  · cases e
    refine ⟨by rw [cl_length]; omega, .inr ⟨g, cap, cur, by rw [hl], hb, hh, by omega, h2, h3, ?_⟩⟩
    rw [hcl, ← h4, List.take_take, hl]
    congr 1
    omega

theorem lose_len (k : Int) (f : Fl) (h : f.safe ≤ f.b.length) : (lose k f).b = f.b.take (f.safe + min (max k 0).toNat (f.b.length - f.safe)) ∧ (lose k f).b.length = f.safe + min (max k 0).toNat (f.b.length - f.safe) ∧ (lose k f).safe = f.safe + min (max k 0).toNat (f.b.length - f.safe) ∧ f.safe + min (max k 0).toNat (f.b.length - f.safe) ≤ f.b.length := by
  have h1 : f.safe + min (max k 0).toNat (f.b.length - f.safe) ≤ f.b.length := by omega
  have h2 : (f.b.take (f.safe + min (max k 0).toNat (f.b.length - f.safe))).length = f.safe + min (max k 0).toNat (f.b.length - f.safe) := List.length_take_of_le h1
  exact ⟨rfl, h2, h2, h1⟩

/-- lose, of a file of the system. -/
theorem lose_any {P : Nat → Prop} {I J : PS → Prop} (W : World) (s b : Nat) (q : PS) (vs vf vc : Value) (u : Nat → Value) (f : Fl) (k : Int) (h : Rp P I W s q vs vf vc u) (hb : q.files b = some f) (hl : f.b.length ≤ 20000000) (hi : J (setF b (lose k f) q)) :
    Calls Tryz.prog 63 #[.pointer (some ⟨b, 0, none⟩), .int .i64 k] W fun e w' => e = .returned (.tuple #[]) ∧ ∃ u', Rp P J w' s (setF b (lose k f) q) vs vf vc u' ∧ Kp P W w' := by
  obtain ⟨hPb, hFb, hPu⟩ := h.file b f hb
  obtain ⟨a, cap, hv, hle, hcap, hnil⟩ := hFb.own.shape
  obtain ⟨l1, l2, l3, l4⟩ := lose_len k f hFb.le
  have hblk := hFb.blk
  rw [hv] at hblk
  refine (lose_raw W b f.b.length cap f.safe a k hblk hle hFb.le hl).mono ?_
  rintro e w' ⟨rfl, W1, k1, rfl⟩
  generalize hj : f.safe + min (max k 0).toNat (f.b.length - f.safe) = j at *
  have kb : Kp (· = b) W1 ((W1.setCell ⟨b, 0, none⟩ (.slice a j cap)).setCell ⟨b, 1, none⟩ (.int .i64 (j : Int))) := (Kp.set1 _ _ _ _).trans (Kp.set1 _ _ _ _) (fun x hx => .inl hx)
  have K : Kp (fun k => k = b ∨ (u b).ownBlock = some k) W ((W1.setCell ⟨b, 0, none⟩ (.slice a j cap)).setCell ⟨b, 1, none⟩ (.int .i64 (j : Int))) := (k1.mono (fun _ h => h.elim)).trans kb (fun x hx => .inl (.inl hx))
  have hown : OwnB W1 (.slice a j cap) (f.b.take j) := ((by rw [hv] at hFb; exact hFb.own.kept k1 : OwnB W1 (.slice a f.b.length cap) f.b)).front j l4
  have hbk : (Value.slice a j cap).ownBlock = (u b).ownBlock := by rw [hv]; cases a <;> rfl
  have hF : FileAt ((W1.setCell ⟨b, 0, none⟩ (.slice a j cap)).setCell ⟨b, 1, none⟩ (.int .i64 (j : Int))) b (.slice a j cap) (lose k f) := by
    refine ⟨?_, ?_, fun x hx => hFb.byt x (List.mem_of_mem_take (by rw [l1] at hx; exact hx)), by rw [l2, l3]; exact Nat.le_refl _⟩
    · have := ((hFb.blk.kp k1 (fun h => h)).setCell 0 (.slice a j cap)).setCell 1 (.int .i64 (j : Int))
      rw [l3]
      exact this
    · rw [l1]
      exact hown.row.kp kb (fun x hx e => by
        rw [hbk] at hx
        exact hFb.own.row.ne hFb.blk (by decide) (by rw [hx, e]))
  obtain ⟨r1, r2⟩ := rq_setF (P' := P) (J := J) h hb K hF (fun x hx => .inl (by rw [← hbk]; exact hx)) (fun _ h => h) (fun x hx => Nat.lt_of_lt_of_le (h.lt x hx) K.size) (fun x hx => hPu x (by rw [← hbk]; exact hx)) hi
  exact ⟨rfl, _, r1, r2⟩

/-! ### Up -/
/-- A slice of numbers that is read. -/
def IntsAt (Q : Nat → Prop) (w : World) (v : Value) (zs : List Int) : Prop :=
  ∃ a cap, v = .slice a zs.length cap ∧ zs.length ≤ cap ∧ cap ≤ maxLen ∧ zs.length ≤ 1000 ∧ (zs ≠ [] → ∃ g o, a = some ⟨g, o, none⟩ ∧ Q g ∧ g < w.heap.size ∧ ∀ i, i < zs.length → w.cell? ⟨g, o + i, none⟩ = some (.int .i64 (zs.getD i 0)))
theorem IntsAt.kp {Q L : Nat → Prop} {w w' : World} {v : Value} {zs : List Int} (h : IntsAt Q w v zs) (k : Kp L w w') (hL : ∀ x, L x → ¬ Q x) : IntsAt Q w' v zs := by
  obtain ⟨a, cap, h1, h2, h3, h4, h5⟩ := h
  refine ⟨a, cap, h1, h2, h3, h4, fun hne => ?_⟩
  obtain ⟨g, o, e, hq, hg, hc⟩ := h5 hne
  exact ⟨g, o, e, hq, Nat.lt_of_lt_of_le hg k.size, fun i hi => (k.cell (p := ⟨g, o + i, none⟩) hg (fun hl => hL g hl hq)).trans (hc i hi)⟩
theorem loses_snoc (e : Nm × Nat) (cuts : List Int) : ∀ (l : Dir) (i : Nat) (p : PS), loses (l ++ [e]) i cuts p = setF e.2 (lose (cuts.getD (i + l.length) 0) (fileAt (loses l i cuts p) e.2)) (loses l i cuts p)
  | [], i, p => by simp [loses]
  | x :: r, i, p => by
    rw [List.cons_append, loses, loses_snoc e cuts r (i + 1)]
    have : i + 1 + r.length = i + (x :: r).length := by simp; omega
    rw [this]
    rfl
theorem loses_same (cuts : List Int) : ∀ (l : Dir) (i : Nat) (p : PS), (loses l i cuts p).safe = p.safe ∧ (loses l i cuts p).seen = p.seen ∧ (loses l i cuts p).chg = p.chg ∧ (loses l i cuts p).made = p.made ∧ (loses l i cuts p).room = p.room ∧ (loses l i cuts p).steps = p.steps
  | [], _, _ => ⟨rfl, rfl, rfl, rfl, rfl, rfl⟩
  | x :: r, i, p => by
    rw [loses]
    exact loses_same cuts r (i + 1) _
theorem loses_files (cuts : List Int) (B : Nat) : ∀ (l : Dir) (i : Nat) (p : PS), (∀ b f, p.files b = some f → f.b.length ≤ B) → (∀ b f, (loses l i cuts p).files b = some f → f.b.length ≤ B) ∧ ∀ b, ((p.files b).isSome = true → ((loses l i cuts p).files b).isSome = true)
  | [], _, _, h => ⟨h, fun _ h => h⟩
  | x :: r, i, p, h => by
    rw [loses]
    obtain ⟨h1, h2⟩ := loses_files cuts B r (i + 1) (setF x.2 (lose (cuts.getD i 0) (fileAt p x.2)) p) (fun b f hf => by
      have hf' : (if b = x.2 then some (lose (cuts.getD i 0) (fileAt p x.2)) else p.files b) = some f := hf
      split at hf'
      · cases hf'
        have hlen : (lose (cuts.getD i 0) (fileAt p x.2)).b.length ≤ (fileAt p x.2).b.length := List.length_take_le' _ _
        refine Nat.le_trans hlen ?_
        unfold fileAt
        cases hx : p.files x.2 with
        | none => simp
        | some g => exact h _ g hx
      · exact h b f hf')
    refine ⟨h1, fun b hb => h2 b ?_⟩
    show (if b = x.2 then some (lose (cuts.getD i 0) (fileAt p x.2)) else p.files b).isSome = true
    split
    · rfl
    · exact hb
theorem inv_up {N : Nat} {p : PS} (h : PInv N p) (hr : Ris p.safe) (k : Int) (cuts : List Int) : PInv N (pUp k cuts p) := by
  obtain ⟨n, hn, hn2⟩ : ∃ n, min (max k 0).toNat p.chg.length = n ∧ n ≤ p.chg.length := ⟨_, rfl, by omega⟩
  have e : pUp k cuts p = { loses ((p.chg.take n).foldl pdo p.safe) 0 cuts (settle n p) with seen := (loses ((p.chg.take n).foldl pdo p.safe) 0 cuts (settle n p)).safe, down := false, armed := false, left := 0 } := by
    unfold pUp
    rw [hn]
    rfl
  rw [e]
  obtain ⟨s1, s2, s3, s4, s5, s6⟩ := loses_same cuts ((p.chg.take n).foldl pdo p.safe) 0 (settle n p)
  obtain ⟨f1, f2⟩ := loses_files cuts (12000 * N) ((p.chg.take n).foldl pdo p.safe) 0 (settle n p) h.lfile
  have s1' : (loses ((p.chg.take n).foldl pdo p.safe) 0 cuts (settle n p)).safe = (p.chg.take n).foldl pdo p.safe := s1
  have s3' : (loses ((p.chg.take n).foldl pdo p.safe) 0 cuts (settle n p)).chg = [] := s3
  have hfn := fold_names h n
  refine {
    seen_eq := by show _ = List.foldl pdo _ _; rw [s3']; rfl
    okc := by show okcs _ _; rw [s3']; trivial
    has := fun x hx => ?_
    hasC := fun c hc => ?_
    nodup := ?_
    nmS := fun x hx => ?_
    nmC := fun c hc => ?_
    nmade := fun hm => ?_
    room := by show _ ≤ _; rw [s5]; exact h.room
    left := Nat.zero_le _
    steps := by show _ ≤ _; rw [s6]; exact h.steps
    lsum := ?_
    lfile := f1
    big := h.big }
  · have hx' : x ∈ (p.chg.take n).foldl pdo p.safe := by rw [← s1']; exact hx
    exact f2 x.2 ((hfn x hx').1)
  · have hc' : c ∈ (loses ((p.chg.take n).foldl pdo p.safe) 0 cuts (settle n p)).chg := hc
    rw [s3'] at hc'
    simp at hc'
  · show (List.map _ (loses ((p.chg.take n).foldl pdo p.safe) 0 cuts (settle n p)).safe ++ List.map _ (List.filter _ (loses ((p.chg.take n).foldl pdo p.safe) 0 cuts (settle n p)).chg)).Nodup
    rw [s3', s1']
    have hd := h.nodup
    have h2 := nodup_fold (p.chg.take n) (p.chg.drop n) p.safe hr (by
      have := h.okc
      rw [← List.take_append_drop n p.chg, okcs_append] at this
      exact this.1) (by rw [List.take_append_drop]; exact hd)
    rw [List.nodup_append] at h2
    simpa [vals] using h2.1
  · have hx' : x ∈ (p.chg.take n).foldl pdo p.safe := by rw [← s1']; exact hx
    exact (hfn x hx').2
  · have hc' : c ∈ (loses ((p.chg.take n).foldl pdo p.safe) 0 cuts (settle n p)).chg := hc
    rw [s3'] at hc'
    simp at hc'
  · have hm' : (loses ((p.chg.take n).foldl pdo p.safe) 0 cuts (settle n p)).made = false := hm
    rw [s4] at hm'
    obtain ⟨h1, h2⟩ := h.nmade hm'
    refine ⟨s3', ?_⟩
    show (loses ((p.chg.take n).foldl pdo p.safe) 0 cuts (settle n p)).safe = []
    rw [s1', h1, h2]
    simp
  · show (loses ((p.chg.take n).foldl pdo p.safe) 0 cuts (settle n p)).safe.length + (loses ((p.chg.take n).foldl pdo p.safe) 0 cuts (settle n p)).chg.length ≤ N
    rw [s1', s3']
    have h1 := length_fold (p.chg.take n) p.safe
    have h2 := List.length_take_le n p.chg
    have := h.lsum
    have h3 : (p.chg.take n).length ≤ p.chg.length := by simp; omega
    simp only [List.length_nil]
    omega

end Go.Proofs.YthmimipoooemjaaGreatDoor.Sim
end

section
/-
  Up.
-/
namespace Go.Proofs.YthmimipoooemjaaGreatDoor.Sim
open Go.RowKit Go.Maps

/-- What holds while Up goes on. -/
def UpI (N : Nat) (d : Dir) : PS → Prop := fun p => (∀ b f, p.files b = some f → f.b.length ≤ 12000 * N) ∧ (∀ e ∈ d, (p.files e.2).isSome = true) ∧ p.safe = d ∧ N ≤ 1000

/-- Where Up stands, i names through. -/
def UpAt (P : Nat → Prop) (N : Nat) (w : World) (s : Nat) (q : PS) (d : Dir) (cuts : List Int) (vs : Value) (mo : Option Nat) (i : Nat) (wr : World) : Prop :=
  ∃ u, Rp P (UpI N d) wr s (loses (d.take i) 0 cuts q) vs (.map mo) (.slice none 0 0) u ∧ Kp P w wr

theorem upI_step {N : Nat} {d : Dir} {q : PS} {b : Nat} {f : Fl} {k : Int} (h : UpI N d q) (hf : q.files b = some f) : UpI N d (setF b (lose k f) q) := by
  refine ⟨fun x g hg => ?_, fun e he => ?_, h.2.2.1, h.2.2.2⟩
  · have hg' : (if x = b then some (lose k f) else q.files x) = some g := hg
    split at hg'
    · cases hg'
      exact Nat.le_trans (List.length_take_le' _ _) (h.1 b f hf)
    · exact h.1 x g hg'
  · show (if e.2 = b then some (lose k f) else q.files e.2).isSome = true
    split
    · rfl
    · exact h.2.1 e he

/-- At the end of Up. -/
theorem up_end {P : Nat → Prop} {N : Nat} {w wr w2 : World} {s : Nat} {q : PS} {vs vs' : Value} {mo : Option Nat} {u : Nat → Value} (h : Rp P (UpI N q.safe) wr s q vs (.map mo) (.slice none 0 0) u) (hq : q.chg = [])
    (hv : (mo = none ∧ vs' = .map none ∧ w2 = wr) ∨ ∃ b, mo = some b ∧ vs' = .map (some wr.heap.size) ∧ MapAt w2 wr.heap.size q.safe) (k2 : Kp No wr w2) (hk : Kp P w wr)
    (hi : PInv N { q with seen := q.safe, down := false, armed := false, left := 0 }) :
    Done P N w ((((w2.setCell ⟨s, 1, none⟩ vs').setCell ⟨s, 4, none⟩ (.bool false)).setCell ⟨s, 5, none⟩ (.bool false)).setCell ⟨s, 6, none⟩ (.int .i64 0)) s { q with seen := q.safe, down := false, armed := false, left := 0 } := by
  have hR := h.kp k2 (fun _ h => h.elim)
  have k4 : Kp (· = s) w2 ((((w2.setCell ⟨s, 1, none⟩ vs').setCell ⟨s, 4, none⟩ (.bool false)).setCell ⟨s, 5, none⟩ (.bool false)).setCell ⟨s, 6, none⟩ (.int .i64 0)) :=
    (((Kp.set1 _ _ _ _).trans (Kp.set1 _ _ _ _) (fun x hx => .inl hx)).trans (Kp.set1 _ _ _ _) (fun x hx => .inl hx)).trans (Kp.set1 _ _ _ _) (fun x hx => .inl hx)
  have hb := (((hR.blk.setCell 1 vs').setCell 4 (.bool false)).setCell 5 (.bool false)).setCell 6 (.int .i64 0)
  generalize hw' : (((w2.setCell ⟨s, 1, none⟩ vs').setCell ⟨s, 4, none⟩ (.bool false)).setCell ⟨s, 5, none⟩ (.bool false)).setCell ⟨s, 6, none⟩ (.int .i64 0) = w' at *
  have hz : w2.heap.size = w'.heap.size := by rw [← hw']; simp
  have hsl := hR.lt s hR.ps
  refine ⟨fun x => P x ∨ (wr.heap.size = x ∧ mo ≠ none), ⟨vs', .map mo, .slice none 0 0, u, ?_⟩, ((hk.andNone k2).trans k4 (fun x hx => .inl (by subst hx; exact h.ps))), fun x hx => by
    rcases hx with hx | hx
    · exact .inl hx
    · exact .inr (by have := hk.size; omega)⟩
  have hnew : ∀ b, mo = some b → wr.heap.size < w2.heap.size := fun b e => by
    rcases hv with ⟨e1, _⟩ | ⟨b', _, _, hm⟩
    · rw [e] at e1; cases e1
    · exact hm.lt
  exact {
    lt := fun x hx => by
      rcases hx with hx | ⟨hx, hm⟩
      · have := h.lt x hx; have := k2.size; omega
      · cases mo with
        | none => exact absurd rfl hm
        | some b => have := hnew b rfl; omega
    ps := .inl h.ps
    blk := hb
    seen := by
      rcases hv with ⟨e1, e2, e3⟩ | ⟨b, e1, e2, hm⟩
      · refine .inl ⟨e2, ?_⟩
        rcases h.safe with ⟨_, h2⟩ | ⟨b, h1, _⟩
        · exact h2
        · rw [e1] at h1; cases h1
      · exact .inr ⟨_, e2, hm.kp k4 (hm.blk hR.blk)⟩
    safe := by
      rcases hR.safe with ⟨h1, h2⟩ | ⟨b, h1, h2⟩
      · exact .inl ⟨h1, h2⟩
      · exact .inr ⟨b, h1, h2.kp k4 (h2.blk hR.blk)⟩
    unmade := fun e => by
      obtain ⟨e1, e2⟩ := h.unmade e
      rcases hv with ⟨_, e3, _⟩ | ⟨b, e3, _⟩
      · exact ⟨e3, e2⟩
      · rw [e3] at e2; cases e2
    mades := fun e => by
      obtain ⟨a, b, h1, h2, h3, h4, h5⟩ := h.mades e
      rcases hv with ⟨e1, _⟩ | ⟨b', e1, e2, hm⟩
      · rw [e1] at h2; cases h2
      · have : b = b' := by rw [e1] at h2; cases h2; rfl
        refine ⟨wr.heap.size, b, e2, h2, ?_, .inr ⟨rfl, by rw [e1]; simp⟩, .inl h5⟩
        have := h.lt b h5
        omega
    chg := by show Row _ _ _ _ q.chg.length _; rw [hq]; exact Row.nil _ _ _
    pc := by simp [Value.ownBlock]
    file := fun b f hf => by
      obtain ⟨h1, h2, h3⟩ := hR.file b f hf
      exact ⟨.inl h1, h2.kp k4 (h2.blk.ne hR.blk (by decide)) (fun x hx e => h2.own.row.ne hR.blk (by decide) (by rw [hx, e])), fun x hx => .inl (h3 x hx)⟩
    sep := h.sep
    inv := hi }

set_option maxHeartbeats 4000000 in
set_option maxRecDepth 100000 in
theorem up_any {P Q : Nat → Prop} {N : Nat} (w : World) (s : Nat) (p : PS) (k : Int) (v : Value) (cuts : List Int) (h : Sys P N w s p) (hv : IntsAt Q w v cuts) (hQ : ∀ x, Q x → ¬ P x) :
    Calls Tryz.prog 23 #[.pointer (some ⟨s, 0, none⟩), .int .i64 k, v] w fun e w' => e = .returned (.int .i64 0) ∧ Done P N w w' s (pUp k cuts p) := by
  have hI := h.inv
  obtain ⟨vs, vf, vc, u, hR⟩ := h
  obtain ⟨mo, rfl⟩ := hR.safe.shape
  obtain ⟨ac, cc, hvc, _⟩ := hR.chg.shape
  obtain ⟨n, hn, hn2⟩ : ∃ n, min (max k 0).toNat p.chg.length = n ∧ n ≤ p.chg.length := ⟨_, rfl, by omega⟩
  have hnI : min (max k 0) (p.chg.length : Int) = (n : Int) := by rw [← hn]; omega
  have hbig := hI.big
  have hsl := hR.lt s hR.ps
  have hps := hR.ps
  have c3 : w.cell? ⟨s, 3, none⟩ = some (.slice ac p.chg.length cc) := by rw [← hvc]; exact hR.c 3
  have HUP : Hid (pUp k cuts p = { loses ((p.chg.take n).foldl pdo p.safe) 0 cuts (settle n p) with seen := (loses ((p.chg.take n).foldl pdo p.safe) 0 cuts (settle n p)).safe, down := false, armed := false, left := 0 }) := by
    unfold Hid pUp
    rw [hn]
    rfl
  have HINV := hid (inv_up hI hR.safe.ris k cuts)
  have hfn := fold_names hI n
  have hrs : Ris ((p.chg.take n).foldl pdo p.safe) := hR.safe.ris.fold _
  -- settle
  have HST : Hid (Calls Tryz.prog 61 #[.pointer (some ⟨s, 0, none⟩), .int .i64 (n : Int)] w fun e w' => e = .returned (.tuple #[]) ∧ UpAt P N w s (settle n p) ((p.chg.take n).foldl pdo p.safe) cuts vs mo 0 w') := by
    refine (settle_raw w s p vs vc mo u n hR hn2 hI.okc hI.nmC (by have := hI.lsafe; omega) (by have := hI.lchg; omega) hI.nmade).mono ?_
    rintro e w' ⟨rfl, W1, hm1, hk1, hw1⟩
    obtain ⟨hS, hK⟩ := rq_settle (J := UpI N ((p.chg.take n).foldl pdo p.safe)) hR hm1 hk1 hw1 ⟨hI.lfile, fun e he => (hfn e he).1, rfl, hbig⟩
    exact ⟨rfl, u, hS, hK⟩
  have hdl : Hid (((p.chg.take n).foldl pdo p.safe).length ≤ 1000) := by
    have h1 := length_fold (p.chg.take n) p.safe
    have h2 : (p.chg.take n).length ≤ p.chg.length := by simp; omega
    have := hI.lsum
    show _ ≤ _
    omega
  have hq0 : Hid ((settle n p).chg = []) := rfl
  have HFN := hid hfn
  have HRS := hid hrs
  have HV := hid hv
  have HQ := hid hQ
  obtain ⟨av, cv, rfl, hv1, hv2, hv3, _⟩ := hv
  rw [HUP.out] at HINV ⊢
  generalize hd : (p.chg.take n).foldl pdo p.safe = d at *
  generalize settle n p = q at *
  clear hn hfn hrs hd hI hR hvc HUP hQ
  generalize p.chg.length = M at *
  go_enter Tryz.func23, Tryz.ntmps23
  go_wp2_with fail
  refine (HST.out).mono ?_
  rintro e w1 ⟨rfl, hU⟩
  have HU := hid hU
  obtain ⟨u1, hR1, hK1⟩ := hU
  have c2 : w1.cell? ⟨s, 2, none⟩ = some (.map mo) := hR1.c 2
  have hsafe1 : MapV w1 (.map mo) d := by have := hR1.safe; rw [hR1.inv.2.2.1] at this; exact this
  have HN := hid (names_any w1 (.map mo) d hsafe1 (by have := hdl.out; omega))
  have hsz1 := hK1.size
  clear hR1 hK1 hsafe1 HST
  go_wp2_with fail
  refine (HN.out).mono ?_
  rintro e w2 ⟨un, rfl, ho, hnew, hk2⟩
  have HO := hid ho
  have HNEW := hid hnew
  have HU2 : Hid (UpAt P N w s q d cuts vs mo 0 w2) := by
    obtain ⟨u1, hR1, hK1⟩ := HU.out
    exact ⟨u1, hR1.kp hk2 (fun _ h => h.elim), hK1.andNone hk2⟩
  obtain ⟨an, cn, hun, hn1, hn2', hn3, hn4⟩ := ho.shape
  subst hun
  have hsz2 := hk2.size
  -- the names stay
  have HNM : Hid (∀ wr, Kp P w2 wr → ∀ i, (hi : i < d.length) → ∃ g, an = some ⟨g, 0, none⟩ ∧ wr.cell? ⟨g, i, none⟩ = some (.string (sOf (d[i]).1))) := fun wr kw i hi => by
    obtain ⟨g, hg⟩ : ∃ g, an = some ⟨g, 0, none⟩ := by
      rcases HO.out.2 with ⟨e1, e2⟩ | ⟨g, cap', cur, e1, _⟩
      · simp at e2; subst e2; simp at hi
      · cases e1; exact ⟨g, rfl⟩
    refine ⟨g, hg, ?_⟩
    subst hg
    have hgP : ¬ P g := fun hp => by
      obtain ⟨u1, hR1, hK1⟩ := HU.out
      have h1 := hR1.lt g hp
      have h2 := HNEW.out g rfl
      omega
    have h3 := HO.out.kp kw (fun x hx => by cases hx; exact hgP)
    have hr3 : Row wr 9 1 (.slice (some ⟨g, 0, none⟩) (d.map (·.1)).length cn) (d.map (·.1)).length ((d.map (·.1)).map encStr) := h3
    rw [hr3.cellAt i (by simp; exact hi)]
    simp [hi]
    rfl
  have HCUT : Hid (∀ wr, Kp P w wr → ∀ i, i < cuts.length → ∃ g o, av = some ⟨g, o, none⟩ ∧ wr.cell? ⟨g, o + i, none⟩ = some (.int .i64 (cuts.getD i 0))) := fun wr kw i hi => by
    obtain ⟨a', cap', e1, _, _, _, h5⟩ := HV.out
    cases e1
    obtain ⟨g, o, e, hq, hg, hc⟩ := h5 (by intro e; subst e; simp at hi)
    exact ⟨g, o, e, (kw.cell (p := ⟨g, o + i, none⟩) hg (fun hp => HQ.out g hq hp)).trans (hc i hi)⟩
  have hdm : (d.map (·.1)).length = d.length := by simp
  rw [hdm] at hn1 ⊢
  have hD := hdl.out
  obtain ⟨D, hDL⟩ : ∃ D, d.length = D := ⟨_, rfl⟩
  rw [hDL] at hn1 hD ⊢
  have HDL := hid hDL
  clear hDL hdm ho hnew hk2 hn3 hn4 HN c2 HU
  go_wp2_with fail
  go_loopw [28] (fun x wr => ∃ i : Nat, x = .int .i64 i ∧ i ≤ D ∧ Hid (UpAt P N w s q d cuts vs mo i wr ∧ Kp P w2 wr)) (fun x _ => D - (intOf x).toNat)
  case atStart => exact ⟨0, rfl, by omega, HU2.out, Kp.refl _ _⟩
  case round =>
    obtain ⟨i, rfl, hi, HI⟩ := hrel
    by_cases hlt : i < D
    · have hlt' : i < d.length := by rw [HDL.out]; exact hlt
      obtain ⟨g, hg, cn1⟩ := HNM.out wr HI.out.2 i hlt'
      subst hg
      obtain ⟨ui, hRi, hKi⟩ := HI.out.1
      have hsf : MapV wr (.map mo) d := by have := hRi.safe; rw [hRi.inv.2.2.1] at this; exact this
      have hfd : dfind d (d[i]).1 = some (d[i]).2 := dfind_of_mem hsf.ris.nodup (List.getElem_mem hlt')
      have hlk := hsf.lookS (sOf (d[i]).1) (by rw [sOf_size]; have := (HFN.out _ (List.getElem_mem hlt')).2; omega)
      rw [nm_sOf, hfd, show ptrV (some (d[i]).2) = .pointer (some ⟨(d[i]).2, 0, none⟩) from rfl] at hlk
      have c2 : wr.cell? ⟨s, 2, none⟩ = some (.map mo) := hRi.c 2
      obtain ⟨f, hf⟩ := Option.isSome_iff_exists.1 (hRi.inv.2.1 _ (List.getElem_mem hlt'))
      have hfl := hRi.inv.1 _ f hf
      have hfa : fileAt (loses (d.take i) 0 cuts q) (d[i]).2 = f := by simp [fileAt, hf]
      have htk : d.take (i + 1) = d.take i ++ [d[i]] := List.take_succ_eq_append_getElem hlt'
      have hst : loses (d.take (i + 1)) 0 cuts q = setF (d[i]).2 (lose (cuts.getD i 0) f) (loses (d.take i) 0 cuts q) := by
        rw [htk, loses_snoc, hfa]
        have : 0 + (d.take i).length = i := by simp; omega
        rw [this]
      have HL : Hid (Calls Tryz.prog 63 #[.pointer (some ⟨(d[i]).2, 0, none⟩), .int .i64 (cuts.getD i 0)] wr fun e w' => e = .returned (.tuple #[]) ∧ UpAt P N w s q d cuts vs mo (i + 1) w' ∧ Kp P w2 w') := by
        refine (lose_any (J := UpI N d) wr s (d[i]).2 _ vs (.map mo) _ ui f (cuts.getD i 0) hRi hf (by omega) (upI_step hRi.inv hf)).mono ?_
        rintro e w' ⟨rfl, u', r1, r2⟩
        refine ⟨rfl, ⟨u', ?_, hKi.trans r2 (fun x hx => .inl hx)⟩, HI.out.2.trans r2 (fun x hx => .inl hx)⟩
        rw [hst]
        exact r1
      generalize sOf (d[i]).1 = sn at *
      generalize (d[i]).2 = fb at *
      by_cases hc : i < cuts.length
      · obtain ⟨gc, oc, hgc, cc1⟩ := HCUT.out wr hKi i hc
        subst hgc
        clear hRi hKi hsf hfd hf hfl hfa htk hst HNM HCUT HFN HINV
        generalize cuts.getD i 0 = z at *
        go_wp2_with (go_at_call 63; refine (HL.out).mono ?_; rintro e w3 ⟨rfl, h3, h4⟩; have H3 := hid h3; have H4 := hid h4; clear h3 h4)
        go_roundw
        case rel => exact ⟨i + 1, by go_num, by omega, H3.out, H4.out⟩
        case measure => simp [intOf]; omega
      · have hz : cuts.getD i 0 = 0 := by rw [List.getD_eq_getElem?_getD, List.getElem?_eq_none (by omega)]; rfl
        rw [hz] at HL
        clear hRi hKi hsf hfd hf hfl hfa htk hst HNM HCUT HFN HINV
        go_wp2_with (go_at_call 63; refine (HL.out).mono ?_; rintro e w3 ⟨rfl, h3, h4⟩; have H3 := hid h3; have H4 := hid h4; clear h3 h4)
        go_roundw
        case rel => exact ⟨i + 1, by go_num, by omega, H3.out, H4.out⟩
        case measure => simp [intOf]; omega
    · have hiD : i = D := by omega
      subst hiD
      have htk : d.take i = d := List.take_of_length_le (by rw [HDL.out]; exact Nat.le_refl _)
      obtain ⟨ui, hRi, hKi⟩ := HI.out.1
      rw [htk] at hRi
      have hsd := hRi.inv.2.2.1
      have hRi' : Rp P (UpI N (loses d 0 cuts q).safe) wr s (loses d 0 cuts q) vs (.map mo) (.slice none 0 0) ui := by rw [hsd]; exact hRi
      have hq1 : (loses d 0 cuts q).chg = [] := (loses_same cuts d 0 q).2.2.1.trans hq0.out
      have c2 : wr.cell? ⟨s, 2, none⟩ = some (.map mo) := hRi.c 2
      have HCL : Hid (Calls Tryz.prog 64 #[.map mo] wr fun e w' => ∃ vs', e = .returned vs' ∧ ((mo = none ∧ vs' = .map none ∧ w' = wr) ∨ ∃ b, mo = some b ∧ vs' = .map (some wr.heap.size) ∧ MapAt w' wr.heap.size (loses d 0 cuts q).safe) ∧ Kp No wr w') := by
        refine (mclone_v wr (.map mo) (loses d 0 cuts q).safe hRi'.safe).mono ?_
        rintro e w' ⟨v', rfl, h1, h2⟩
        refine ⟨v', rfl, ?_, h2⟩
        rcases h1 with ⟨e1, e2, e3⟩ | ⟨b, e1, e2, e3⟩
        · have hmn : mo = none := by
            cases mo with
            | none => rfl
            | some _ => cases e1
          exact .inl ⟨hmn, e2, e3⟩
        · exact .inr ⟨b, by cases e1; rfl, e2, e3⟩
      have HE : Hid (∀ w3 vs', ((mo = none ∧ vs' = .map none ∧ w3 = wr) ∨ ∃ b, mo = some b ∧ vs' = .map (some wr.heap.size) ∧ MapAt w3 wr.heap.size (loses d 0 cuts q).safe) → Kp No wr w3 → Done P N w ((((w3.setCell ⟨s, 1, none⟩ vs').setCell ⟨s, 4, none⟩ (.bool false)).setCell ⟨s, 5, none⟩ (.bool false)).setCell ⟨s, 6, none⟩ (.int .i64 0)) s _) := fun w3 vs' h1 h2 => up_end hRi' hq1 h1 h2 hKi HINV.out
      have HCE : Hid (∀ w3, Kp No wr w3 → ∃ x1 x4 x5 x6, w3.cell? ⟨s, 1, none⟩ = some (.map x1) ∧ w3.cell? ⟨s, 4, none⟩ = some (.bool x4) ∧ w3.cell? ⟨s, 5, none⟩ = some (.bool x5) ∧ w3.cell? ⟨s, 6, none⟩ = some (.int .i64 x6) ∧ ∀ j, w3.frozen? ⟨s, j, none⟩ = false) := fun w3 kw => by
        have h3 := hRi.kp kw (fun _ h => h.elim)
        obtain ⟨ms, hms⟩ := h3.seen.shape
        exact ⟨ms, _, _, _, by rw [h3.c 1]; simp [fsCells, hms], h3.c 4, h3.c 5, h3.c 6, h3.blk.frozen⟩
      clear hRi hRi' hq1 hsd htk HI HINV HFN HNM HCUT
      go_wp2_with (go_at_call 64; refine (HCL.out).mono ?_; rintro e w3 ⟨vs', rfl, h3, h4⟩; have H3 := hid h3; have H4 := hid h4; obtain ⟨x1, x4, x5, x6, d1, d4, d5, d6, df⟩ := HCE.out w3 h4; have df1 := df 1; have df4 := df 4; have df5 := df 5; have df6 := df 6; obtain ⟨m3, hm3⟩ : ∃ m, vs' = .map m := (by rcases h3 with ⟨_, e, _⟩ | ⟨_, _, e, _⟩ <;> exact ⟨_, e⟩); subst hm3; clear h3 h4 df)
      go_ret
      exact ⟨rfl, HE.out w3 _ H3.out H4.out⟩

end Go.Proofs.YthmimipoooemjaaGreatDoor.Sim
end

section
/-
  A pack that is written, record by record, on a disk that may go down; the writer's other calls.
-/
namespace Go.Proofs.YthmimipoooemjaaGreatDoor
open Go.RowKit Go.Shelf
open Tlv (BySlS Agree)
open Sim (hid Kp No PS Done Blk nm finds pBytes pRemove OwnB Beg)
section
variable {s b g x N : Nat} {ar : Bool} {K K' : Nat → Prop} {w wr V : World} {rs : List Rec}
end
end Go.Proofs.YthmimipoooemjaaGreatDoor
end

section
/-
  The names of any id.
-/
namespace Go.Proofs.YthmimipoooemjaaGreatDoor
open Go.RowKit Go.Shelf
open Sim (hid)
end Go.Proofs.YthmimipoooemjaaGreatDoor
end

section
/-
  Digits, and what they tell.
-/
namespace Go.Proofs.YthmimipoooemjaaGreatDoor
open Go.RowKit Go.Shelf
open Sim (hid)
end Go.Proofs.YthmimipoooemjaaGreatDoor
end

section
/-
  The id of any name.
-/
namespace Go.Proofs.YthmimipoooemjaaGreatDoor
open Go.RowKit Go.Shelf
open Sim (hid)
end Go.Proofs.YthmimipoooemjaaGreatDoor
end
