/- Of the proof: the texts SgValue, SgPut, IxSaveL, IxNil, IxBase, PkLoad, PkSeal, PkSealing, PkSealW, PkPlain, PkManyM, PkGet, FrBackM, TlvRefTake, CrcRefOpen, FrRTake, FrRScan, FrTurned, FrBackR, SimUp, one behind the other. -/
import Derived.Test.YthmimipoooemjaaGreatDoorAbb
import Derived.Test.YthmimipoooemjaaGreatDoorB12
import Derived.Test.YthmimipoooemjaaGreatDoorB13
import Derived.Test.YthmimipoooemjaaGreatDoorB8
import Derived.Test.YthmimipoooemjaaGreatDoorB1
import Derived.Test.YthmimipoooemjaaGreatDoorB3
import Derived.Test.YthmimipoooemjaaGreatDoorB7
import Derived.Test.YthmimipoooemjaaGreatDoorB4
import Derived.Test.YthmimipoooemjaaGreatDoorB5
section
/-
  The value of entries in tlv's words.
-/
namespace Go.Proofs.YthmimipoooemjaaGreatDoor.Sg
open Go.RowKit
open Tlv (Tr Agree)
open Sim (hid Kp No)

theorem run_oneV (t n : Int) (sb sk : Value) (w : World) : (Instr.buildSlice 201 1 #[(0, .agg #[.int .i64 t, .int .u64 n, sb, sk])]).run Tryz.prog w = .ok (.slice (some ⟨w.heap.size, 0, none⟩) 1 1) (w.alloc (.cells #[.int .i64 t, .int .u64 n, sb, sk] 203)) := by kernel_rfl
theorem plB_bd {e : Ent} (h : plB e = true) : (0 ≤ e.2.1 ∧ e.2.1 ≤ 1000000) ∧ (0 ≤ e.2.2.1 ∧ e.2.2.1 ≤ 1000000) ∧ (0 ≤ e.2.2.2 ∧ e.2.2.2 ≤ 1000000) := by
  simp [plB] at h
  omega

set_option maxHeartbeats 4000000 in
set_option maxRecDepth 100000 in
theorem value_any (w : World) (v : Value) (d : List Ent) (P : Nat → Prop) (hv : EV P w v d) (hp : ∀ e ∈ d, plB e = true) (hl : d.length ≤ 1000000) :
    Calls Tryz.prog 114 #[v] w fun e w' => ∃ a3 l3 p3 a4 l4 p4, e = .returned (.agg #[.int .i64 3, .int .u64 0, .slice a3 l3 p3, .slice a4 l4 p4]) ∧ Tlv.Rep w.heap.size w'.heap.size w' 3 (entsT d) (.slice a3 l3 p3) (.slice a4 l4 p4) ∧ Below w.heap.size w w' := by
  obtain ⟨a, c, rfl, h2, h3, h4, h5, h6⟩ := hv
  obtain ⟨n, hn⟩ : ∃ n, d.length = n := ⟨_, rfl⟩
  have HN := hid hn
  have HP := hid hp
  rw [hn] at hl h2 ⊢
  have H6 := hid h6
  have HM := hid many_none
  clear hn h2 h3 h4 h5 h6 hp
  go_enter Tryz.func114, Tryz.ntmps114
  go_wp2_with fail
  refine (HM.out _).mono ?_
  rintro e w1 ⟨rfl, hb1⟩
  have HB1 := hid hb1
  have HW : Hid (Below w.heap.size w w1) := ((Below.refl _ _).alloc (Nat.le_refl _) _).trans (hb1.mono (by simp))
  have hzw : w.heap.size < w1.heap.size := by have := hb1.size; simp at this; omega
  clear hb1 HM
  go_wp2_with fail
  go_loopw [9] (fun i wr => ∃ (k : Nat) (av : Option Addr) (cv : Nat), i = .int .i64 (k : Int) ∧ k ≤ n ∧ Hid (VI w1 d k (.slice av k cv) wr)) (fun i _ => n - (intOf i).toNat)
  case atStart => exact ⟨0, none, 0, rfl, Nat.zero_le _, VI.start w1 d⟩
  case round =>
    obtain ⟨k, av, cv, rfl, hkn, HS⟩ := hrel
    have hKw : Kp No w wr := Kp.below (HW.out.trans (HS.out.2.2.2.2.2.2.2.mono (by omega)))
    by_cases hlt : k < n
    · have hltI : (k : Int) < (n : Int) := by omega
      have hwk : IntKind.i64.wrap ((k : Int) + 1) = ((k + 1 : Nat) : Int) := by rw [IntKind.wrap_i64]; omega
      obtain ⟨e, he⟩ : ∃ e, d[k]? = some e := ⟨_, List.getElem?_eq_getElem (by rw [HN.out]; exact hlt)⟩
      have HE := hid he
      obtain ⟨g, o, rfl, _, hr⟩ := H6.out (by intro e; have := HN.out; rw [e] at this; simp at this; omega)
      have hrow := hr.kp hKw (fun x => x)
      have HX := hid (hrow.2 k e he)
      have HI := hid (inf HX.out.1)
      have HVAL : Hid (∀ V, Calls Tryz.prog 162 #[.agg (entC e).toArray] V fun e' w' => ∃ a3 l3 p3 a4 l4 p4, e' = .returned (.agg #[.int .i64 3, .int .u64 0, .slice a3 l3 p3, .slice a4 l4 p4]) ∧ Tlv.Rep V.heap.size w'.heap.size w' 2 (entT e) (.slice a3 l3 p3) (.slice a4 l4 p4) ∧ Below V.heap.size V w') := fun V => by
        obtain ⟨q0, q1, q2⟩ := plB_bd (HP.out e (List.mem_of_getElem? he))
        obtain ⟨nm, p, q, r⟩ := e
        exact entval_any nm p q r V HX.out.1 q0 q1 q2
      obtain ⟨cx, hcx⟩ : ∃ cx, entC e = cx := ⟨_, rfl⟩
      have HRX : Hid (wr.rangeAt g (o + k * 35) cx) := by rw [← hcx]; exact HX.out.2
      rw [hcx] at HI HVAL
      have hcl : cx.length = 35 := by rw [← hcx]; exact entC_length HX.out.1
      have HO1 : Hid (cx.toArray.all (·.oneCell') = true) := by rw [← hcx]; exact all_oneCell_toArray (entC_one e)
      have HC0 : Hid (∃ v0, cx[0]? = some v0) := ⟨_, List.getElem?_eq_getElem (by omega)⟩
      clear hcx hr hrow he hKw
      go_wp2_with (first
        | (refine wpList_load_mid (by rfl) 155 _ (by rfl) g (o + k * 35) (by rfl) cx _ HRX.out Tryz.underlying155 rfl HI.out ?_)
        | (refine wpList_store_box (fun W => ∀ V, Kp No W V → V.rangeAt wr.heap.size 0 cx ∧ Kp No wr V) (by rfl) 155 _ _ (by rfl) wr.heap.size 0 cx.toArray (by rfl) (by rfl) (thereE wr _ _ _ (by rw [List.size_toArray, hcl]; exact Nat.le_refl _)) HI.out HO1.out (boxE wr _ cx rfl hcl) ?_; intro W1 hW1; have HW1 := hid hW1; clear hW1))
      have HKW := hid (HW1.out W1 (Kp.refl _ _)).2
      have hbx : wr.heap.size < W1.heap.size := by
        obtain ⟨v0, hv0⟩ := HC0.out
        exact World.block_lt_of_cell? _ _ ((HW1.out W1 (Kp.refl _ _)).1 0 v0 hv0)
      have HLX : Hid (∀ V, Kp (fun x => x = w1.heap.size ∨ (Value.slice av k cv).ownBlock = some x) W1 V → V.rangeAt wr.heap.size 0 cx) := fun V hV j u hu => by
        refine (hV.cell (p := ⟨wr.heap.size, _, none⟩) hbx (fun hx => ?_)).trans ((HW1.out W1 (Kp.refl _ _)).1 j u hu)
        rcases hx with hx | hx
        · have h1 := HS.out.2.2.2.2.2.1
          have h2 : wr.heap.size = w1.heap.size := hx
          omega
        · have h1 := (HS.out.2.2.2.2.2.2.1.lt wr.heap.size hx).2
          omega
      have c3 : ∀ V, Kp No W1 V → V.cell? ⟨w1.heap.size, 3, none⟩ = some (.slice av k cv) := fun V hV => ((HW1.out V hV).2.cell (p := ⟨w1.heap.size, 3, none⟩) HS.out.2.2.2.2.2.1 (fun x => x)).trans HS.out.2.2.2.1
      clear hcl hbx
      refine wp_region_held_drew (S := fun V => Kp (fun x => x = w1.heap.size ∨ (Value.slice av k cv).ownBlock = some x) W1 V) (by kernel_rfl) ((Kp.refl _ _).drew) (fun hHeld => ?_)
      refine wpAnyH_take (i := 0) (oi := ⟨some 13, .fieldAddr 203 (.tmp 3) 3, 0, "sealed.go:53", #[], none⟩) (v := .pointer (some ⟨w1.heap.size, 3, none⟩)) rfl (by kernel_rfl) (by kernel_rfl) (by kernel_rfl) (fun _ _ _ h => h) (Or.inl ⟨by rfl, fun w' hw' => by (clear hw'; go_simp)⟩) hHeld ?_
      simp only [Act.put, sjA, sjB, sjC]
      refine wpAnyH_take (i := 2) (oi := ⟨some 15, .load 155 (.tmp 5), 155, "sealed.go:53", #[], none⟩) (v := .agg cx.toArray) rfl (by kernel_rfl) (by kernel_rfl) (by kernel_rfl) (fun _ _ _ h => h) (yieldsIf_load_mid (by rfl) _ _ rfl wr.heap.size 0 rfl cx _ (HLX.out) Tryz.underlying155 rfl HI.out) hHeld ?_
      simp only [Act.put, sjA, sjB, sjC]
      refine wpAnyH_ready (rs := [1, 3]) (by kernel_rfl) (by simp) ?_
      refine (AllReadyH.cons (o := ⟨some 14, .load 201 (.tmp 13), 201, "sealed.go:53", #[⟨0, .data⟩], none⟩) rfl (fun K hK => ?_) (AllReadyH.cons (o := ⟨some 16, .call { callee := Callee.value (Operand.func 162), args := #[.tmp 15], argTypes := #[155] }, 203, "sealed.go:53", #[⟨2, .data⟩], none⟩) rfl (fun K hK => ?_) AllReadyH.nil))
      · have q3 := c3 (W1.drew) ((Kp.refl No W1).drew)
        go_simp
        refine hK.out _ _ ((((Kp.refl No W1).drew).ofNo)) (fun hh => ?_)
        clear hK K hHeld
        have hHeld := hh
        clear hh
        try simp only [Act.put, sjA, sjB, sjC]
        refine wpAnyH_ready (rs := [3]) (by kernel_rfl) (by simp) ?_
        refine (AllReadyH.cons (o := ⟨some 16, .call { callee := Callee.value (Operand.func 162), args := #[.tmp 15], argTypes := #[155] }, 203, "sealed.go:53", #[⟨2, .data⟩], none⟩) rfl (fun K hK => ?_) AllReadyH.nil)
        go_simp
        refine (HVAL.out _).mono ?_
        rintro e' w2 ⟨a3, l3, p3, a4, l4, p4, rfl, hr2, hb2⟩
        have hb2' : Below W1.heap.size W1 w2 := (Below.refl _ _).drew.trans hb2
        obtain ⟨g', cap, w4, hap, k3, kf, ks, hvi, hkp⟩ := HS.out.step HKW.out hb2' hr2 HE.out (by omega) 201
        have HK2 : Hid (Kp No W1 w2) := Kp.below hb2'
        have HAP := hid hap
        have HVI := hid hvi
        have HKP := hid hkp
        clear hap hvi hkp hr2 hb2 hb2'
        go_wp2_with fail
        refine hK.out _ _ (HK2.out.ofNo) (fun hh => ?_)
        clear hK K hHeld
        have hHeld := hh
        clear hh
        try simp only [Act.put, sjA, sjB, sjC]
        refine wpAnyH_ready (rs := [4]) (by kernel_rfl) (by simp) ?_
        refine (AllReadyH.cons (o := ⟨some 17, .buildSlice 201 1 #[(0, .tmp 16)], 201, "sealed.go:53", #[⟨3, .data⟩], none⟩) rfl (fun K hK => ?_) AllReadyH.nil)
        rw [if_pos (by rfl)]
        refine wp_valE (exec_sliceE 201 _ rfl (.agg #[.int .i64 3, .int .u64 0, .slice a3 l3 p3, .slice a4 l4 p4]) _ rfl (run_oneV _ _ _ _ _)) ?_
        refine hK.out _ _ ((HK2.out.alloc _).ofNo) (fun hh => ?_)
        clear hK K hHeld
        have hHeld := hh
        clear hh
        try simp only [Act.put, sjA, sjB, sjC]
        refine wpAnyH_ready (rs := [5]) (by kernel_rfl) (by simp) ?_
        refine (AllReadyH.cons (o := ⟨some 18, .call { callee := Callee.builtin Builtin.append, args := #[.tmp 14, .tmp 17], argTypes := #[201, 201] }, 201, "sealed.go:53", #[⟨1, .data⟩, ⟨4, .data⟩, ⟨3, .chain⟩], none⟩) rfl (fun K hK => ?_) AllReadyH.nil)
        rw [if_pos (by rfl)]
        refine wp_valE (exec_appE _ _ 201 rfl (.slice av k cv) (.slice (some ⟨w2.heap.size, 0, none⟩) 1 1) _ rfl rfl HAP.out) ?_
        refine hK.out _ _ (HKP.out) (fun hh => ?_)
        clear hK K hHeld
        have hHeld := hh
        clear hh
        try simp only [Act.put, sjA, sjB, sjC]
        refine wpAnyH_take (i := 6) (oi := ⟨some 19, .fieldAddr 203 (.tmp 3) 3, 0, "sealed.go:53", #[⟨0, .phase⟩, ⟨1, .phase⟩, ⟨2, .phase⟩, ⟨3, .phase⟩, ⟨4, .phase⟩, ⟨5, .phase⟩], none⟩) (v := .pointer (some ⟨w1.heap.size, 3, none⟩)) rfl (by kernel_rfl) (by kernel_rfl) (by kernel_rfl) (fun _ _ _ h => h) (Or.inl ⟨by rfl, fun w' hw' => by (clear hw'; go_simp)⟩) hHeld ?_
        simp only [Act.put, sjA, sjB, sjC]
        refine wpAnyH_ready (rs := [7]) (by kernel_rfl) (by simp) ?_
        refine (AllReadyH.cons (o := ⟨none, .store 201 (.tmp 19) (.tmp 18), 0, "sealed.go:53", #[⟨6, .data⟩, ⟨5, .data⟩, ⟨5, .chain⟩, ⟨0, .phase⟩, ⟨1, .phase⟩, ⟨2, .phase⟩, ⟨3, .phase⟩, ⟨4, .phase⟩, ⟨5, .phase⟩], none⟩) rfl (fun K hK => ?_) AllReadyH.nil)
        go_simp
        refine hK.out _ _ ((HKP.out.setCell (p := ⟨w1.heap.size, 3, none⟩) (.inl (.inl rfl)) _)) (fun hh => ?_)
        clear hK K hHeld
        have hHeld := hh
        clear hh
        try simp only [Act.put, sjA, sjB, sjC]
        refine wpAnyH_done (by kernel_rfl) ?_ _
        clear hHeld
        go_wp2_with fail
        go_round
        case rel => exact ⟨k + 1, some ⟨g', 0, none⟩, cap, by first | rfl | go_num, by omega, HVI.out⟩
        case measure => simp [intOf]; omega
      · go_simp
        refine (HVAL.out _).mono ?_
        rintro e' w2 ⟨a3, l3, p3, a4, l4, p4, rfl, hr2, hb2⟩
        have hb2' : Below W1.heap.size W1 w2 := (Below.refl _ _).drew.trans hb2
        obtain ⟨g', cap, w4, hap, k3, kf, ks, hvi, hkp⟩ := HS.out.step HKW.out hb2' hr2 HE.out (by omega) 201
        have HK2 : Hid (Kp No W1 w2) := Kp.below hb2'
        have HAP := hid hap
        have HVI := hid hvi
        have HKP := hid hkp
        clear hap hvi hkp hr2 hb2 hb2'
        go_wp2_with fail
        refine hK.out _ _ (HK2.out.ofNo) (fun hh => ?_)
        clear hK K hHeld
        have hHeld := hh
        clear hh
        try simp only [Act.put, sjA, sjB, sjC]
        refine wpAnyH_ready (rs := [1, 4]) (by kernel_rfl) (by simp) ?_
        refine (AllReadyH.cons (o := ⟨some 14, .load 201 (.tmp 13), 201, "sealed.go:53", #[⟨0, .data⟩], none⟩) rfl (fun K hK => ?_) (AllReadyH.cons (o := ⟨some 17, .buildSlice 201 1 #[(0, .tmp 16)], 201, "sealed.go:53", #[⟨3, .data⟩], none⟩) rfl (fun K hK => ?_) AllReadyH.nil))
        · have q3 := c3 (w2) HK2.out
          go_simp
          refine hK.out _ _ ((HK2.out.ofNo)) (fun hh => ?_)
          clear hK K hHeld
          have hHeld := hh
          clear hh
          try simp only [Act.put, sjA, sjB, sjC]
          refine wpAnyH_ready (rs := [4]) (by kernel_rfl) (by simp) ?_
          refine (AllReadyH.cons (o := ⟨some 17, .buildSlice 201 1 #[(0, .tmp 16)], 201, "sealed.go:53", #[⟨3, .data⟩], none⟩) rfl (fun K hK => ?_) AllReadyH.nil)
          rw [if_pos (by rfl)]
          refine wp_valE (exec_sliceE 201 _ rfl (.agg #[.int .i64 3, .int .u64 0, .slice a3 l3 p3, .slice a4 l4 p4]) _ rfl (run_oneV _ _ _ _ _)) ?_
          refine hK.out _ _ ((HK2.out.alloc _).ofNo) (fun hh => ?_)
          clear hK K hHeld
          have hHeld := hh
          clear hh
          try simp only [Act.put, sjA, sjB, sjC]
          refine wpAnyH_ready (rs := [5]) (by kernel_rfl) (by simp) ?_
          refine (AllReadyH.cons (o := ⟨some 18, .call { callee := Callee.builtin Builtin.append, args := #[.tmp 14, .tmp 17], argTypes := #[201, 201] }, 201, "sealed.go:53", #[⟨1, .data⟩, ⟨4, .data⟩, ⟨3, .chain⟩], none⟩) rfl (fun K hK => ?_) AllReadyH.nil)
          rw [if_pos (by rfl)]
          refine wp_valE (exec_appE _ _ 201 rfl (.slice av k cv) (.slice (some ⟨w2.heap.size, 0, none⟩) 1 1) _ rfl rfl HAP.out) ?_
          refine hK.out _ _ (HKP.out) (fun hh => ?_)
          clear hK K hHeld
          have hHeld := hh
          clear hh
          try simp only [Act.put, sjA, sjB, sjC]
          refine wpAnyH_take (i := 6) (oi := ⟨some 19, .fieldAddr 203 (.tmp 3) 3, 0, "sealed.go:53", #[⟨0, .phase⟩, ⟨1, .phase⟩, ⟨2, .phase⟩, ⟨3, .phase⟩, ⟨4, .phase⟩, ⟨5, .phase⟩], none⟩) (v := .pointer (some ⟨w1.heap.size, 3, none⟩)) rfl (by kernel_rfl) (by kernel_rfl) (by kernel_rfl) (fun _ _ _ h => h) (Or.inl ⟨by rfl, fun w' hw' => by (clear hw'; go_simp)⟩) hHeld ?_
          simp only [Act.put, sjA, sjB, sjC]
          refine wpAnyH_ready (rs := [7]) (by kernel_rfl) (by simp) ?_
          refine (AllReadyH.cons (o := ⟨none, .store 201 (.tmp 19) (.tmp 18), 0, "sealed.go:53", #[⟨6, .data⟩, ⟨5, .data⟩, ⟨5, .chain⟩, ⟨0, .phase⟩, ⟨1, .phase⟩, ⟨2, .phase⟩, ⟨3, .phase⟩, ⟨4, .phase⟩, ⟨5, .phase⟩], none⟩) rfl (fun K hK => ?_) AllReadyH.nil)
          go_simp
          refine hK.out _ _ ((HKP.out.setCell (p := ⟨w1.heap.size, 3, none⟩) (.inl (.inl rfl)) _)) (fun hh => ?_)
          clear hK K hHeld
          have hHeld := hh
          clear hh
          try simp only [Act.put, sjA, sjB, sjC]
          refine wpAnyH_done (by kernel_rfl) ?_ _
          clear hHeld
          go_wp2_with fail
          go_round
          case rel => exact ⟨k + 1, some ⟨g', 0, none⟩, cap, by first | rfl | go_num, by omega, HVI.out⟩
          case measure => simp [intOf]; omega
        · rw [if_pos (by rfl)]
          refine wp_valE (exec_sliceE 201 _ rfl (.agg #[.int .i64 3, .int .u64 0, .slice a3 l3 p3, .slice a4 l4 p4]) _ rfl (run_oneV _ _ _ _ _)) ?_
          refine hK.out _ _ ((HK2.out.alloc _).ofNo) (fun hh => ?_)
          clear hK K hHeld
          have hHeld := hh
          clear hh
          try simp only [Act.put, sjA, sjB, sjC]
          refine wpAnyH_ready (rs := [1]) (by kernel_rfl) (by simp) ?_
          refine (AllReadyH.cons (o := ⟨some 14, .load 201 (.tmp 13), 201, "sealed.go:53", #[⟨0, .data⟩], none⟩) rfl (fun K hK => ?_) AllReadyH.nil)
          have q3 := c3 (w2.alloc (.cells #[.int .i64 3, .int .u64 0, .slice a3 l3 p3, .slice a4 l4 p4] 203)) (HK2.out.alloc _)
          go_simp
          refine hK.out _ _ (((HK2.out.alloc _).ofNo)) (fun hh => ?_)
          clear hK K hHeld
          have hHeld := hh
          clear hh
          try simp only [Act.put, sjA, sjB, sjC]
          refine wpAnyH_ready (rs := [5]) (by kernel_rfl) (by simp) ?_
          refine (AllReadyH.cons (o := ⟨some 18, .call { callee := Callee.builtin Builtin.append, args := #[.tmp 14, .tmp 17], argTypes := #[201, 201] }, 201, "sealed.go:53", #[⟨1, .data⟩, ⟨4, .data⟩, ⟨3, .chain⟩], none⟩) rfl (fun K hK => ?_) AllReadyH.nil)
          rw [if_pos (by rfl)]
          refine wp_valE (exec_appE _ _ 201 rfl (.slice av k cv) (.slice (some ⟨w2.heap.size, 0, none⟩) 1 1) _ rfl rfl HAP.out) ?_
          refine hK.out _ _ (HKP.out) (fun hh => ?_)
          clear hK K hHeld
          have hHeld := hh
          clear hh
          try simp only [Act.put, sjA, sjB, sjC]
          refine wpAnyH_take (i := 6) (oi := ⟨some 19, .fieldAddr 203 (.tmp 3) 3, 0, "sealed.go:53", #[⟨0, .phase⟩, ⟨1, .phase⟩, ⟨2, .phase⟩, ⟨3, .phase⟩, ⟨4, .phase⟩, ⟨5, .phase⟩], none⟩) (v := .pointer (some ⟨w1.heap.size, 3, none⟩)) rfl (by kernel_rfl) (by kernel_rfl) (by kernel_rfl) (fun _ _ _ h => h) (Or.inl ⟨by rfl, fun w' hw' => by (clear hw'; go_simp)⟩) hHeld ?_
          simp only [Act.put, sjA, sjB, sjC]
          refine wpAnyH_ready (rs := [7]) (by kernel_rfl) (by simp) ?_
          refine (AllReadyH.cons (o := ⟨none, .store 201 (.tmp 19) (.tmp 18), 0, "sealed.go:53", #[⟨6, .data⟩, ⟨5, .data⟩, ⟨5, .chain⟩, ⟨0, .phase⟩, ⟨1, .phase⟩, ⟨2, .phase⟩, ⟨3, .phase⟩, ⟨4, .phase⟩, ⟨5, .phase⟩], none⟩) rfl (fun K hK => ?_) AllReadyH.nil)
          go_simp
          refine hK.out _ _ ((HKP.out.setCell (p := ⟨w1.heap.size, 3, none⟩) (.inl (.inl rfl)) _)) (fun hh => ?_)
          clear hK K hHeld
          have hHeld := hh
          clear hh
          try simp only [Act.put, sjA, sjB, sjC]
          refine wpAnyH_done (by kernel_rfl) ?_ _
          clear hHeld
          go_wp2_with fail
          go_round
          case rel => exact ⟨k + 1, some ⟨g', 0, none⟩, cap, by first | rfl | go_num, by omega, HVI.out⟩
          case measure => simp [intOf]; omega
    · have hltI : ¬ (k : Int) < (n : Int) := by omega
      have hkn' : k = n := by omega
      have hS := HS.out
      obtain ⟨f0, f1, f2, f3, hf, hs, hc, hw⟩ := hS
      have hc' := hc.done (by rw [List.length_take, List.length_map, HN.out]; omega)
      rw [List.take_of_length_le (by rw [List.length_map, HN.out]; omega)] at hc'
      have HC := hid hc'
      have HBW := hid hw
      have xr : ∀ o, wr.cell? ⟨w.heap.size, o, none⟩ = (#[.int .i64 0, .int .u64 0, .slice none 0 0, .slice none 0 0] : Array Value)[o]? := fun o => by
        rw [hw.cell (p := ⟨w.heap.size, o, none⟩) (by simp; omega), HB1.out.cell (p := ⟨w.heap.size, o, none⟩) (by simp), World.cell?_alloc_at _ _ _ _ rfl]
      have xf : ∀ o, wr.frozen? ⟨w.heap.size, o, none⟩ = false := fun o => by
        rw [hw.frozen (p := ⟨w.heap.size, o, none⟩) (by simp; omega), HB1.out.frozen (p := ⟨w.heap.size, o, none⟩) (by simp), World.frozen?_alloc_at _ _ _ _ rfl]
      have r0 : wr.cell? ⟨w.heap.size, 0, none⟩ = some (.int .i64 0) := xr 0
      have r1 : wr.cell? ⟨w.heap.size, 1, none⟩ = some (.int .u64 0) := xr 1
      have r2 : wr.cell? ⟨w.heap.size, 2, none⟩ = some (.slice none 0 0) := xr 2
      have r3 : wr.cell? ⟨w.heap.size, 3, none⟩ = some (.slice none 0 0) := xr 3
      clear xr hc hc' hw hKw HS hkn'
      go_wp2_with fail
      obtain ⟨q0, q1, q2, q3⟩ := Tlv.set4_read (u0 := .int .i64 3) (u1 := .int .u64 0) (u2 := .slice none 0 0) (u3 := .slice av k cv) r0 r1 r2 r3
      refine bodyPost_ret (v := .agg #[.int .i64 3, .int .u64 0, .slice none 0 0, .slice av k cv]) (by simp [results, Tryz.results114, go_sem, q0, q1, q2, q3]) rfl ⟨_, _, _, _, _, _, rfl, ⟨by simp [entsT, Tr.mk, Tlv.Tr.hd], by simp [entsT, Tr.mk, Tlv.Tr.hd], Tlv.BySl.none _ _ _, ?_⟩, ?_⟩
      · have A4 := Agree.set4 (L := w1.heap.size + 1) (B := wr.heap.size) wr (b := w.heap.size) (o0 := 0) (o1 := 1) (o2 := 2) (o3 := 3) (.inl (by omega)) (.int .i64 3) (.int .u64 0) (.slice none 0 0) (.slice av k cv)
        exact HC.out.agree (L' := w.heap.size) (fun _ _ _ r => Tlv.Rep.agree (L' := w.heap.size) A4 (by omega) (by simp) r) A4 (by omega) (by simp)
      · exact (HW.out.trans (HBW.out.mono (by omega))).trans (Tlv.bset4 (Nat.le_refl _) _ _ _ _)
end Go.Proofs.YthmimipoooemjaaGreatDoor.Sg
end

section
/-
  The form of entries, and segment.Put.
-/
namespace Go.Proofs.YthmimipoooemjaaGreatDoor.Sg
open Go.RowKit
open Tlv (Tr Agree)
open Crc (Kept)
open Sim (hid Kp No)

theorem ent_bsz {e : Ent} (hn : e.1.length = 32) {room deep : Int} (hr : 68 ≤ room) (hd : 0 < deep) : (Tlv.bsz 2 (entT e) room deep).2 = true ∧ 0 ≤ (Tlv.bsz 2 (entT e) room deep).1 ∧ (Tlv.bsz 2 (entT e) room deep).1 ≤ 68 := by
  have b1 := Tlv.nsz_bd e.2.1
  have b2 := Tlv.nsz_bd e.2.2.1
  have b3 := Tlv.nsz_bd e.2.2.2
  rw [entT, Tlv.bsz_3 _ _ _ (by omega), Tlv.lsz_go hd]
  simp only [Tlv.lszGo]
  rw [Tlv.bsz_2 _ _ _ (by omega), hn, Tlv.bsz_1 _ _ _ (by simp; omega)]
  have d1 : decide (((32 : Nat) : Int) ≤ room - 0 - 3) = true := by simp; omega
  simp only [d1, if_true]
  have d2 : decide (Tlv.nsz e.2.1 ≤ room - (0 + (3 + ((32 : Nat) : Int))) - 3) = true := by simp; omega
  simp only [d2, if_true]
  rw [Tlv.bsz_1 _ _ _ (by simp; omega)]
  have d3 : decide (Tlv.nsz e.2.2.1 ≤ room - (0 + (3 + ((32 : Nat) : Int)) + (3 + Tlv.nsz e.2.1)) - 3) = true := by simp; omega
  simp only [d3, if_true]
  rw [Tlv.bsz_1 _ _ _ (by simp; omega)]
  have d4 : decide (Tlv.nsz e.2.2.2 ≤ room - (0 + (3 + ((32 : Nat) : Int)) + (3 + Tlv.nsz e.2.1) + (3 + Tlv.nsz e.2.2.1)) - 3) = true := by simp; omega
  simp only [d4, if_true]
  refine ⟨trivial, ?_, ?_⟩ <;> simp <;> omega

theorem ents_bsz : ∀ (d : List Ent), (∀ e ∈ d, e.1.length = 32) → ∀ (room acc : Int), 0 ≤ acc → acc + 71 * (d.length : Int) ≤ room → (Tlv.lszGo (Tlv.bsz 2) room 8 acc (d.map entT)).2 = true
  | [], _, _, _, _, _ => rfl
  | e :: d, h, room, acc, h0, h1 => by
    rw [List.map_cons, Tlv.lszGo]
    simp only [List.length_cons] at h1
    obtain ⟨b1, b2, b3⟩ := ent_bsz (h e (by simp)) (room := room - acc - 3) (deep := 8 - 1) (by omega) (by omega)
    rw [if_pos b1]
    exact ents_bsz d (fun x hx => h x (by simp [hx])) room _ (by omega) (by omega)

theorem entsT_right {d : List Ent} (h : ∀ e ∈ d, e.1.length = 32) (hl : d.length ≤ 900) : (Tlv.bsz 3 (entsT d) 65535 8).2 = true := by
  rw [entsT, Tlv.bsz_3 _ _ _ (by omega), Tlv.lsz_go (by omega)]
  exact ents_bsz d h _ _ (by omega) (by omega)

/-- The form of entries, and what it is sealed. -/
def formE (d : List Ent) : List Int := Tlv.formOf 3 (entsT d)
def sealE (d : List Ent) : List Int := sealI (formE d)

theorem szT_ents {d : List Ent} (h : ∀ e ∈ d, e.1.length = 32) (hl : d.length ≤ 900) : Tlv.szT 3 (entsT d) ≠ 0 := by
  have h1 := entsT_right h hl
  have h2 := Tlv.bsz_fits 3 _ _ _ h1
  rw [Tlv.szT, if_pos h1]
  omega
theorem formE_length {d : List Ent} (h : ∀ e ∈ d, e.1.length = 32) (hl : d.length ≤ 900) : (formE d).length ≤ 65538 := by
  have h1 := entsT_right h hl
  have h2 := Tlv.bsz_fits 3 _ _ _ h1
  have h3 := Tlv.bsz_len 3 _ _ _ h1
  have h4 : (formE d).length = 3 + (Tlv.bodyOf 3 (entsT d)).length := by rw [formE]; simp [Tlv.formOf]; omega
  omega

theorem RightP.places {d : List Ent} (h : RightP d) : ∀ e ∈ d, plB e = true := fun e he => by
  obtain ⟨i, hi⟩ := List.mem_iff_getElem?.1 he
  exact (h.2 i e (List.getElem?_eq_some_iff.1 hi).1 hi).1

set_option maxHeartbeats 2000000 in
set_option maxRecDepth 100000 in
theorem put_yes (b : Nat) (w : World) (v : Value) (d : List Ent) (P : Nat → Prop) (hT : TabX w b) (hv : EV P w v d) (hR : RightP d) :
    Calls Tryz.prog 74 #[.pointer (some ⟨b, 0, none⟩), v] w fun e w' => ∃ v', e = .returned (.tuple #[v', .int .i64 0]) ∧ Crc.Own w' w.heap.size v' (nats (sealE d)) ∧ Kept b w w' ∧ TabX w' b := by
  have hok := hv.ok
  have HOK : Hid (∀ e ∈ d, e.1.length = 32) := fun e he => (hok e he).1
  have HR := hid (right_any w v d P hv (by have := hR.1; omega))
  have HRR := hid hR
  have HV := hid hv
  have HT := hid hT
  have hbw := hT.lt
  obtain ⟨a, c, rfl, _⟩ := hv
  clear hR hT hok
  go_enter Tryz.func74, Tryz.ntmps74
  go_wp2_with fail
  refine HR.out.mono ?_
  rintro e w1 ⟨⟨bb, rfl, hb⟩, hk⟩
  have hbt : bb = true := hb.2 HRR.out
  subst hbt
  have HB1 : Hid (Below w.heap.size w w1) := ⟨hk.os, hk.tape, hk.output, hk.size, fun j hj => hk.block j hj (fun x => x)⟩
  have HV1 := hid (HV.out.kept hk)
  clear hb hk
  go_wp2_with fail
  refine (value_any w1 _ d P HV1.out HRR.out.places (by have := HRR.out.1; omega)).mono ?_
  rintro e w2 ⟨a3, l3, p3, a4, l4, p4, rfl, hr2, hb2⟩
  have HR2 := hid hr2
  have HB2 : Hid (Below w.heap.size w w2) := HB1.out.trans (hb2.mono HB1.out.size)
  clear hr2 hb2
  go_wp2_with fail
  refine (Tlv.Put_yes (entsT d) _ _ _ (HR2.out.agree (Agree.refl _ _ _) (Nat.zero_le _) (Nat.le_refl _)) (szT_ents HOK.out HRR.out.1)).mono ?_
  rintro e w3 ⟨vf, rfl, hf3, hb3⟩
  obtain ⟨af, cf, rfl, hrf⟩ := id hf3
  clear hrf
  have HF3 := hid hf3
  have HB3 : Hid (Below w.heap.size w w3) := HB2.out.trans (hb3.mono HB2.out.size)
  have hz2 : w.heap.size ≤ w2.heap.size := HB2.out.size
  clear hf3 hb3
  go_wp2_with fail
  obtain ⟨f, n, hf, ht⟩ := (HT.out.below HB3.out)
  have hcf : Crc.BySl b w3 (.slice af (Tlv.formOf 3 (entsT d)).length cf) (nats (formE d)) := toCrc HF3.out.toS (fun g hg => ⟨by omega, hg.2⟩)
  refine (Crc.seal_any b f n _ (nats (formE d)) _ hf ht hcf (by rw [nats_length]; have := formE_length HOK.out HRR.out.1; omega)).mono ?_
  rintro e w4 ⟨v', rfl, ho, hk4, ht4⟩
  have HO := hid ho
  have HK4 := hid hk4
  have HT4 := hid ht4
  clear ho hk4 ht4 ht hcf hf
  go_wp2_with fail
  go_ret2
  refine ⟨v', rfl, ?_, (Kept.below HB3.out).trans HK4.out, TabX.of HT4.out⟩
  rw [sealE, sealI_nats]
  exact HO.out.mono HB3.out.size
end Go.Proofs.YthmimipoooemjaaGreatDoor.Sg
end

section
/-
  Save: the list's bytes, and the six steps in their order.
-/
namespace Go.Proofs.YthmimipoooemjaaGreatDoor.Ix
open Go.RowKit Go.Shelf
open Sim (hid Kp No PS Done Blk nm ByP)

/-- In the midst of a save. -/
def SaveSt (P : Nat → Prop) (N : Nat) (w w1 wr : World) (s b c1 c2 : Nat) (vb : Value) (bs : List Nat) (q : PS) : Prop :=
  ∃ P', Sim.Sys P' N wr s q ∧ (∀ x, P' x → P x ∨ w1.heap.size ≤ x) ∧ Kp (fun x => P x ∨ x = b) w wr ∧ w1.heap.size ≤ wr.heap.size ∧ TabX wr b ∧
    wr.cell? ⟨c1, 0, none⟩ = some (.pointer (some ⟨s, 0, none⟩)) ∧ wr.cell? ⟨c2, 0, none⟩ = some vb ∧ ByP (fun x => w.heap.size ≤ x ∧ x < w1.heap.size) wr vb bs

structure Apart (P : Nat → Prop) (w w1 : World) (b c1 c2 : Nat) : Prop where
  lt : ∀ x, P x → x < w.heap.size
  le : w.heap.size ≤ w1.heap.size
  b : b < w.heap.size ∧ ¬ P b
  c1 : w.heap.size ≤ c1 ∧ c1 < w1.heap.size
  c2 : w.heap.size ≤ c2 ∧ c2 < w1.heap.size

theorem Apart.not {P P' : Nat → Prop} {w w1 : World} {b c1 c2 : Nat} (h : Apart P w w1 b c1 c2) (hP : ∀ x, P' x → P x ∨ w1.heap.size ≤ x) : ¬ P' b ∧ (∀ x, w.heap.size ≤ x → x < w1.heap.size → ¬ P' x) := by
  refine ⟨fun e => ?_, fun x h1 h2 e => ?_⟩
  · have := h.b
    have := h.le
    rcases hP _ e with e | e
    · exact h.b.2 e
    · omega
  · rcases hP _ e with e | e
    · have := h.lt _ e; omega
    · omega

theorem SaveSt.step {P P' : Nat → Prop} {N : Nat} {w w1 wr w2 : World} {s b c1 c2 : Nat} {vb : Value} {bs : List Nat} {q : PS} (hA : Apart P w w1 b c1 c2) (hP : ∀ x, P' x → P x ∨ w1.heap.size ≤ x) (hK : Kp (fun x => P x ∨ x = b) w wr) (hs : w1.heap.size ≤ wr.heap.size)
    (hT : TabX wr b) (k1 : wr.cell? ⟨c1, 0, none⟩ = some (.pointer (some ⟨s, 0, none⟩))) (k2 : wr.cell? ⟨c2, 0, none⟩ = some vb) (hv : ByP (fun x => w.heap.size ≤ x ∧ x < w1.heap.size) wr vb bs) (hD : Done P' N wr w2 s q) :
    SaveSt P N w w1 w2 s b c1 c2 vb bs q := by
  obtain ⟨P2, hS, hk, h2⟩ := hD
  obtain ⟨n1, n2⟩ := hA.not hP
  have hl := hA.le
  refine ⟨P2, hS, fun x hx => ?_, hK.trans hk (fun x hx => ?_), Nat.le_trans hs hk.size, hT.kp hk n1, (hk.cell (p := ⟨c1, 0, none⟩) (World.block_lt_of_cell? wr _ k1) (n2 _ hA.c1.1 hA.c1.2)).trans k1, (hk.cell (p := ⟨c2, 0, none⟩) (World.block_lt_of_cell? wr _ k2) (n2 _ hA.c2.1 hA.c2.2)).trans k2, hv.kp hk (fun x hx _ hw => n2 x hw.1 hw.2 hx)⟩
  · rcases h2 x hx with e | e
    · exact hP x e
    · right; omega
  · rcases hP x hx with e | e
    · exact .inl (.inl e)
    · right; omega

/-- Files, and a table beside them: what a call leaves. -/
def DoneT (P : Nat → Prop) (N b : Nat) (w w' : World) (s : Nat) (q : PS) : Prop :=
  TabX w' b ∧ ∃ P', Sim.Sys P' N w' s q ∧ Kp (fun x => P x ∨ x = b) w w' ∧ ∀ x, P' x → P x ∨ w.heap.size ≤ x

theorem SaveSt.done {P : Nat → Prop} {N M : Nat} {w w1 wr : World} {s b c1 c2 : Nat} {vb : Value} {bs : List Nat} {q : PS} (hA : Apart P w w1 b c1 c2) (h : SaveSt P M w w1 wr s b c1 c2 vb bs q) (hM : M ≤ N) (hN : N ≤ 1000) : DoneT P N b w wr s q := by
  obtain ⟨P', h1, h2, h3, _, h5, _⟩ := h
  refine ⟨h5, P', h1.more hM hN, h3, fun x hx => ?_⟩
  rcases h2 x hx with e | e
  · exact .inl e
  · right; have := hA.le; omega

/-- What a save answers, and leaves. -/
def SaveP (bs : List Nat) (P : Nat → Prop) (N b : Nat) (w : World) (s : Nat) (p : PS) (e : Ending) (w' : World) : Prop :=
  ∃ r, Saved bs p r ∧ e = .returned (.int .i64 (r.1 : Nat)) ∧ DoneT P N b w w' s r.2

set_option maxHeartbeats 4000000 in
set_option maxRecDepth 100000 in
theorem save_any {P Q : Nat → Prop} {N : Nat} (w : World) (s b : Nat) (p : PS) (v : Value) (d : List Sg.Ent) (h : Sim.Sys P N w s p) (hN : N + 6 ≤ 1000) (hT : TabX w b) (hb : ¬ P b) (hv : Sg.EV Q w v d) (hR : Sg.RightP d) (hl : (nats (Sg.sealE d)).length ≤ 12000) (hx : ∀ x ∈ nats (Sg.sealE d), x < 256) :
    Calls Tryz.prog 34 #[.pointer (some ⟨s, 0, none⟩), .pointer (some ⟨b, 0, none⟩), v] w fun e w' => SaveP (nats (Sg.sealE d)) P (N + 6) b w s p e w' := by
  obtain ⟨av, cv, rfl, _⟩ := id hv
  have hbl := hT.lt
  have HPL := hid h.lt
  have HS := hid h
  have HPUT := hid (Sg.put_yes b w _ d Q hT hv hR)
  generalize nats (Sg.sealE d) = bs at *
  clear hv hR hT h
  go_enter Tryz.func34, Tryz.ntmps34
  go_wp2_with fail
  refine HPUT.out.mono ?_
  rintro e w0 ⟨vb, rfl, ho, hk, ht⟩
  have hoB : Sim.OwnB w0 vb bs := ⟨ho.1, by
    rcases ho.2 with ⟨h1, h2⟩ | ⟨g, cap, cur, h1, h2, h3⟩
    · exact .inl ⟨h1, h2⟩
    · exact .inr ⟨g, cap, cur, h1, Nat.zero_le _, h3⟩⟩
  have HBY : Hid (ByP (fun x => w.heap.size ≤ x ∧ x < w0.heap.size) w0 vb bs) := (hoB.byP (P := fun x => w.heap.size ≤ x ∧ x < w0.heap.size) (fun x e => ⟨ho.ge x e, hoB.row.lt x e⟩) (by omega) hx)
  obtain ⟨ab, cb, rfl, _⟩ := hoB.shape
  have HS0 := hid (sys_kept HS.out hk hb)
  have HT0 := hid ht
  have HK0 := hid (kp_kept hk)
  clear ho hoB ht hk HPUT
  go_wp2_with fail
  refine (saving_any w0 s bs.length cb ab).mono ?_
  rintro e w1 ⟨c1, c2, rfl, k1, k2, l1, l2, hB1⟩
  have hw0 : w.heap.size ≤ w0.heap.size := HK0.out.size
  have HA : Hid (Apart P w w1 b c1 c2) := ⟨HPL.out, Nat.le_trans hw0 hB1.size, ⟨hbl, hb⟩, ⟨Nat.le_trans hw0 l1, World.block_lt_of_cell? w1 _ k1⟩, ⟨Nat.le_trans hw0 l2, World.block_lt_of_cell? w1 _ k2⟩⟩
  have hKB : Kp No w0 w1 := Kp.below hB1
  have HST : Hid (SaveSt P N w w1 w1 s b c1 c2 (.slice ab bs.length cb) bs p) := ⟨P, HS0.out.kept hKB, fun x hx => .inl hx, (HK0.out.mono (fun x hx => .inl (.inr hx))).andNone hKB, Nat.le_refl _, HT0.out.below hB1, k1, k2, (HBY.out.kept hKB).mono (fun x _ hx => ⟨hx.1, Nat.lt_of_lt_of_le hx.2 hB1.size⟩)⟩
  clear k1 k2 l1 l2 hB1 hKB hw0 HBY HS0 HT0 HK0 HS
  have ix0 : ∀ V, (Instr.index 163 (.agg (fnA c1 c2 s)) (.int .i64 0)).run Tryz.prog V = .ok (.func (.func 116) #[] #[.pointer (some ⟨c1, 0, none⟩)]) V := fun V => by kernel_rfl
  have ix1 : ∀ V, (Instr.index 163 (.agg (fnA c1 c2 s)) (.int .i64 1)).run Tryz.prog V = .ok (.func (.func 118) #[] #[.pointer (some ⟨c1, 0, none⟩)]) V := fun V => by kernel_rfl
  have ix2 : ∀ V, (Instr.index 163 (.agg (fnA c1 c2 s)) (.int .i64 2)).run Tryz.prog V = .ok (.func (.func 120) #[] #[.pointer (some ⟨c1, 0, none⟩), .pointer (some ⟨c2, 0, none⟩)]) V := fun V => by kernel_rfl
  have ix3 : ∀ V, (Instr.index 163 (.agg (fnA c1 c2 s)) (.int .i64 3)).run Tryz.prog V = .ok (.func (.func 122) #[] #[.pointer (some ⟨c1, 0, none⟩)]) V := fun V => by kernel_rfl
  have ix4 : ∀ V, (Instr.index 163 (.agg (fnA c1 c2 s)) (.int .i64 4)).run Tryz.prog V = .ok (.func (.func 124) #[] #[.pointer (some ⟨c1, 0, none⟩)]) V := fun V => by kernel_rfl
  have ix5 : ∀ V, (Instr.index 163 (.agg (fnA c1 c2 s)) (.int .i64 5)).run Tryz.prog V = .ok (.func (.func 86) #[.pointer (some ⟨s, 0, none⟩)] #[]) V := fun V => by kernel_rfl
  obtain ⟨FA, hFA⟩ : ∃ FA, fnA c1 c2 s = FA := ⟨_, rfl⟩
  rw [hFA] at ix0 ix1 ix2 ix3 ix4 ix5
  rw [hFA]
  clear hFA
  go_wp2_with fail
  go_loopw [26] (fun iv wr => ∃ j : Nat, j ≤ 6 ∧ iv = .int .i64 (j : Int) ∧ Hid (∃ q, SaveSt P (N + j) w w1 wr s b c1 c2 (.slice ab bs.length cb) bs q ∧ Reach bs p j q)) (fun iv _ => 6 - (intOf iv).toNat)
  case atStart => exact ⟨0, by omega, rfl, p, HST.out, rfl⟩
  case round =>
    obtain ⟨j, hj, rfl, HS⟩ := hrel
    clear HST
    have hjj : j = 0 ∨ j = 1 ∨ j = 2 ∨ j = 3 ∨ j = 4 ∨ j = 5 ∨ j = 6 := by omega
    rcases hjj with rfl | rfl | rfl | rfl | rfl | rfl | rfl
    · obtain ⟨q, ⟨P', hS, hP, hK, hs, hT, k1, k2, hv⟩, hR⟩ := HS.out
      obtain ⟨n1, n2⟩ := HA.out.not hP
      have HCALL := hid (save1_any bs wr s c1 q hS (by omega) k1)
      have HPK := hid (fun w2 q2 (hD : Done P' (N + 0 + 1) wr w2 s q2) => SaveSt.step HA.out hP hK hs hT k1 k2 hv hD)
      have HR := hid hR
      clear HS hS hP hK hs hT k1 k2 hv n1 n2 hR
      go_wp2_with fail
      refine HCALL.out.mono ?_
      rintro e w2 ⟨r, hr, rfl, hD⟩
      have HST := hid (HPK.out w2 r.2 hD)
      have HRR := hid hr
      clear hD hr HCALL HPK
      by_cases hz : r.1 = 0
      · have HZ := hid hz
        rw [hz]
        clear hz
        go_wp2_with fail
        go_round
        case rel => exact ⟨1, by omega, by go_num, r.2, HST.out, q, HR.out, by have h := HRR.out; rw [show r = (0, r.2) from Prod.ext HZ.out rfl] at h; exact h⟩
        case measure => simp [intOf]
      · have HZ := hid hz
        obtain ⟨F, hF⟩ : ∃ F, r.1 = F := ⟨_, rfl⟩
        have HF := hid hF
        rw [hF] at hz ⊢
        have hz' : ¬ ((F : Int) = 0) := by omega
        clear hF
        go_wp2_with fail
        go_ret
        exact ⟨r, .inr ⟨HZ.out, 0, by omega, q, HR.out, HRR.out⟩, by rw [HF.out]; rfl, HST.out.done HA.out (by omega) hN⟩
    · obtain ⟨q, ⟨P', hS, hP, hK, hs, hT, k1, k2, hv⟩, hR⟩ := HS.out
      obtain ⟨n1, n2⟩ := HA.out.not hP
      have HCALL := hid (save2_any bs wr s c1 q hS (by omega) k1)
      have HPK := hid (fun w2 q2 (hD : Done P' (N + 1 + 1) wr w2 s q2) => SaveSt.step HA.out hP hK hs hT k1 k2 hv hD)
      have HR := hid hR
      clear HS hS hP hK hs hT k1 k2 hv n1 n2 hR
      go_wp2_with fail
      refine HCALL.out.mono ?_
      rintro e w2 ⟨r, hr, rfl, hD⟩
      have HST := hid (HPK.out w2 r.2 hD)
      have HRR := hid hr
      clear hD hr HCALL HPK
      by_cases hz : r.1 = 0
      · have HZ := hid hz
        rw [hz]
        clear hz
        go_wp2_with fail
        go_round
        case rel => exact ⟨2, by omega, by go_num, r.2, HST.out, q, HR.out, by have h := HRR.out; rw [show r = (0, r.2) from Prod.ext HZ.out rfl] at h; exact h⟩
        case measure => simp [intOf]
      · have HZ := hid hz
        obtain ⟨F, hF⟩ : ∃ F, r.1 = F := ⟨_, rfl⟩
        have HF := hid hF
        rw [hF] at hz ⊢
        have hz' : ¬ ((F : Int) = 0) := by omega
        clear hF
        go_wp2_with fail
        go_ret
        exact ⟨r, .inr ⟨HZ.out, 1, by omega, q, HR.out, HRR.out⟩, by rw [HF.out]; rfl, HST.out.done HA.out (by omega) hN⟩
    · obtain ⟨q, ⟨P', hS, hP, hK, hs, hT, k1, k2, hv⟩, hR⟩ := HS.out
      obtain ⟨n1, n2⟩ := HA.out.not hP
      have HCALL := hid (save3_any bs wr s c1 c2 q _ hS (by omega) k1 k2 hv (fun x hx => n2 x hx.1 hx.2) hl)
      have HPK := hid (fun w2 q2 (hD : Done P' (N + 2 + 1) wr w2 s q2) => SaveSt.step HA.out hP hK hs hT k1 k2 hv hD)
      have HR := hid hR
      clear HS hS hP hK hs hT k1 k2 hv n1 n2 hR
      go_wp2_with fail
      refine HCALL.out.mono ?_
      rintro e w2 ⟨r, hr, rfl, hD⟩
      have HST := hid (HPK.out w2 r.2 hD)
      have HRR := hid hr
      clear hD hr HCALL HPK
      by_cases hz : r.1 = 0
      · have HZ := hid hz
        rw [hz]
        clear hz
        go_wp2_with fail
        go_round
        case rel => exact ⟨3, by omega, by go_num, r.2, HST.out, q, HR.out, by have h := HRR.out; rw [show r = (0, r.2) from Prod.ext HZ.out rfl] at h; exact h⟩
        case measure => simp [intOf]
      · have HZ := hid hz
        obtain ⟨F, hF⟩ : ∃ F, r.1 = F := ⟨_, rfl⟩
        have HF := hid hF
        rw [hF] at hz ⊢
        have hz' : ¬ ((F : Int) = 0) := by omega
        clear hF
        go_wp2_with fail
        go_ret
        exact ⟨r, .inr ⟨HZ.out, 2, by omega, q, HR.out, HRR.out⟩, by rw [HF.out]; rfl, HST.out.done HA.out (by omega) hN⟩
    · obtain ⟨q, ⟨P', hS, hP, hK, hs, hT, k1, k2, hv⟩, hR⟩ := HS.out
      obtain ⟨n1, n2⟩ := HA.out.not hP
      have HCALL := hid (save4_any bs wr s c1 q hS (by omega) k1)
      have HPK := hid (fun w2 q2 (hD : Done P' (N + 3 + 1) wr w2 s q2) => SaveSt.step HA.out hP hK hs hT k1 k2 hv hD)
      have HR := hid hR
      clear HS hS hP hK hs hT k1 k2 hv n1 n2 hR
      go_wp2_with fail
      refine HCALL.out.mono ?_
      rintro e w2 ⟨r, hr, rfl, hD⟩
      have HST := hid (HPK.out w2 r.2 hD)
      have HRR := hid hr
      clear hD hr HCALL HPK
      by_cases hz : r.1 = 0
      · have HZ := hid hz
        rw [hz]
        clear hz
        go_wp2_with fail
        go_round
        case rel => exact ⟨4, by omega, by go_num, r.2, HST.out, q, HR.out, by have h := HRR.out; rw [show r = (0, r.2) from Prod.ext HZ.out rfl] at h; exact h⟩
        case measure => simp [intOf]
      · have HZ := hid hz
        obtain ⟨F, hF⟩ : ∃ F, r.1 = F := ⟨_, rfl⟩
        have HF := hid hF
        rw [hF] at hz ⊢
        have hz' : ¬ ((F : Int) = 0) := by omega
        clear hF
        go_wp2_with fail
        go_ret
        exact ⟨r, .inr ⟨HZ.out, 3, by omega, q, HR.out, HRR.out⟩, by rw [HF.out]; rfl, HST.out.done HA.out (by omega) hN⟩
    · obtain ⟨q, ⟨P', hS, hP, hK, hs, hT, k1, k2, hv⟩, hR⟩ := HS.out
      obtain ⟨n1, n2⟩ := HA.out.not hP
      have HCALL := hid (save5_any bs wr s c1 q hS (by omega) k1)
      have HPK := hid (fun w2 q2 (hD : Done P' (N + 4 + 1) wr w2 s q2) => SaveSt.step HA.out hP hK hs hT k1 k2 hv hD)
      have HR := hid hR
      clear HS hS hP hK hs hT k1 k2 hv n1 n2 hR
      go_wp2_with fail
      refine HCALL.out.mono ?_
      rintro e w2 ⟨r, hr, rfl, hD⟩
      have HST := hid (HPK.out w2 r.2 hD)
      have HRR := hid hr
      clear hD hr HCALL HPK
      by_cases hz : r.1 = 0
      · have HZ := hid hz
        rw [hz]
        clear hz
        go_wp2_with fail
        go_round
        case rel => exact ⟨5, by omega, by go_num, r.2, HST.out, q, HR.out, by have h := HRR.out; rw [show r = (0, r.2) from Prod.ext HZ.out rfl] at h; exact h⟩
        case measure => simp [intOf]
      · have HZ := hid hz
        obtain ⟨F, hF⟩ : ∃ F, r.1 = F := ⟨_, rfl⟩
        have HF := hid hF
        rw [hF] at hz ⊢
        have hz' : ¬ ((F : Int) = 0) := by omega
        clear hF
        go_wp2_with fail
        go_ret
        exact ⟨r, .inr ⟨HZ.out, 4, by omega, q, HR.out, HRR.out⟩, by rw [HF.out]; rfl, HST.out.done HA.out (by omega) hN⟩
    · obtain ⟨q, ⟨P', hS, hP, hK, hs, hT, k1, k2, hv⟩, hR⟩ := HS.out
      obtain ⟨n1, n2⟩ := HA.out.not hP
      have HCALL := hid (save6_any bs wr s q hS (by omega))
      have HPK := hid (fun w2 q2 (hD : Done P' (N + 5 + 1) wr w2 s q2) => SaveSt.step HA.out hP hK hs hT k1 k2 hv hD)
      have HR := hid hR
      clear HS hS hP hK hs hT k1 k2 hv n1 n2 hR
      go_wp2_with fail
      refine HCALL.out.mono ?_
      rintro e w2 ⟨r, hr, rfl, hD⟩
      have HST := hid (HPK.out w2 r.2 hD)
      have HRR := hid hr
      clear hD hr HCALL HPK
      by_cases hz : r.1 = 0
      · have HZ := hid hz
        rw [hz]
        clear hz
        go_wp2_with fail
        go_round
        case rel => exact ⟨6, by omega, by go_num, r.2, HST.out, q, HR.out, by have h := HRR.out; rw [show r = (0, r.2) from Prod.ext HZ.out rfl] at h; exact h⟩
        case measure => simp [intOf]
      · have HZ := hid hz
        obtain ⟨F, hF⟩ : ∃ F, r.1 = F := ⟨_, rfl⟩
        have HF := hid hF
        rw [hF] at hz ⊢
        have hz' : ¬ ((F : Int) = 0) := by omega
        clear hF
        go_wp2_with fail
        go_ret
        exact ⟨r, .inr ⟨HZ.out, 5, by omega, q, HR.out, HRR.out⟩, by rw [HF.out]; rfl, HST.out.done HA.out (by omega) hN⟩
    · have HS' := HS
      clear HS
      go_wp2_with fail
      go_ret
      obtain ⟨q, hst, hR⟩ := HS'.out
      exact ⟨(0, q), .inl ⟨rfl, hR⟩, rfl, hst.done HA.out (by omega) hN⟩

end Go.Proofs.YthmimipoooemjaaGreatDoor.Ix
end

section
/-
  The index: what is said of what is not there.
-/
namespace Go.Proofs.YthmimipoooemjaaGreatDoor.Ix
open Go.RowKit
open Sim (hid Kp No)
end Go.Proofs.YthmimipoooemjaaGreatDoor.Ix
end

section
/-
  An index in memory: Len, Find, become, Add.
-/
namespace Go.Proofs.YthmimipoooemjaaGreatDoor.Ix
open Go.RowKit Go.Shelf
open Sim (hid Kp No PS Done Blk nm ByP)
open Stb (Stab Srt)

def ixC (s b : Nat) (v : Value) : List Value := [.pointer (some ⟨s, 0, none⟩), .pointer (some ⟨b, 0, none⟩), v]
/-- An index at x: of the files at s, with the table at b; its list is v. -/
def IxAt (w : World) (x s b : Nat) (v : Value) : Prop := Blk w x 169 (ixC s b v)

theorem none_any (w : World) (x s b : Nat) (v : Value) (hX : IxAt w x s b v) : Calls Tryz.prog 81 #[.pointer (some ⟨x, 0, none⟩)] w fun e w' => e = .returned (.bool false) ∧ w' = w := by
  have c0 : w.cell? ⟨x, 0, none⟩ = some (.pointer (some ⟨s, 0, none⟩)) := hX.cell 0
  go_enter Tryz.func81, Tryz.ntmps81
  go_wp2_with fail
  go_ret
  exact ⟨rfl, rfl⟩

theorem len_any (w : World) (x s b n c : Nat) (a : Option Addr) (hX : IxAt w x s b (.slice a n c)) : Calls Tryz.prog 42 #[.pointer (some ⟨x, 0, none⟩)] w fun e w' => e = .returned (.int .i64 (n : Int)) ∧ w' = w := by
  have c2 : w.cell? ⟨x, 2, none⟩ = some (.slice a n c) := hX.cell 2
  have HN := hid (none_any w x s b _ hX)
  clear hX
  go_enter Tryz.func42, Tryz.ntmps42
  go_wp2_with fail
  refine HN.out.mono ?_
  rintro e w1 ⟨rfl, rfl⟩
  go_wp2_with fail
  go_ret
  exact ⟨rfl, rfl⟩

/-- What become answers, and leaves. -/
def BecP (bs : List Nat) (P : Nat → Prop) (N b x : Nat) (w : World) (s : Nat) (p : PS) (v v0 : Value) (e : Ending) (w' : World) : Prop :=
  ∃ r, Saved bs p r ∧ e = .returned (.int .i64 (r.1 : Nat)) ∧ IxAt w' x s b (if r.1 = 0 then v else v0) ∧ TabX w' b ∧
    ∃ P', Sim.Sys P' N w' s r.2 ∧ Kp (fun y => P y ∨ y = b ∨ y = x) w w' ∧ ∀ y, P' y → P y ∨ w.heap.size ≤ y

set_option maxHeartbeats 1000000 in
theorem become_any {P Q : Nat → Prop} {N : Nat} (w : World) (s b x : Nat) (p : PS) (v v0 : Value) (d : List Sg.Ent) (h : Sim.Sys P N w s p) (hN : N + 6 ≤ 1000) (hT : TabX w b) (hb : ¬ P b) (hX : IxAt w x s b v0) (hxP : ¬ P x) (hxb : x ≠ b)
    (hv : Sg.EV Q w v d) (hR : Sg.RightP d) (hl : (nats (Sg.sealE d)).length ≤ 12000) (hx : ∀ x ∈ nats (Sg.sealE d), x < 256) :
    Calls Tryz.prog 80 #[.pointer (some ⟨x, 0, none⟩), v] w fun e w' => BecP (nats (Sg.sealE d)) P (N + 6) b x w s p v v0 e w' := by
  have hld : d.length ≤ 1000000 := by have := hR.1; omega
  have HRT := hid (Sg.right_any w v d Q hv hld)
  have HRP := hid hR
  have HSV := hid (fun V (hk : Kp No w V) => save_any V s b p v d (h.kept hk) hN (hT.kp hk (fun h => h)) hb (hv.kept hk) hR hl hx)
  have HX := hid hX
  have hxl := hX.lt
  have HPL := hid h.lt
  obtain ⟨av, cv, rfl, _⟩ := id hv
  generalize nats (Sg.sealE d) = bs at *
  clear hv h hT hX hR
  go_enter Tryz.func80, Tryz.ntmps80
  go_wp2_with fail
  refine HRT.out.mono ?_
  rintro e w1 ⟨⟨rb, rfl, hrb⟩, hk1⟩
  obtain rfl : rb = true := hrb.2 HRP.out
  have HK1 := hid hk1
  have c0 : w1.cell? ⟨x, 0, none⟩ = some (.pointer (some ⟨s, 0, none⟩)) := (HX.out.kp hk1 (fun h => h)).cell 0
  have c1 : w1.cell? ⟨x, 1, none⟩ = some (.pointer (some ⟨b, 0, none⟩)) := (HX.out.kp hk1 (fun h => h)).cell 1
  clear hk1 hrb HRT
  go_wp2_with fail
  go_region_with (go_at_call 34; refine (HSV.out _ (HK1.out.drew)).mono ?_; rintro e w2 ⟨r, hr, rfl, hD⟩; have HD := hid (And.intro hr hD); clear hr hD)
  all_goals
    have HF : Hid (TabX w2 b ∧ ∃ P', Sim.Sys P' (N + 6) w2 s r.2 ∧ Kp (fun y => P y ∨ y = b) w w2 ∧ (∀ y, P' y → P y ∨ w.heap.size ≤ y) ∧ IxAt w2 x s b v0 ∧ ¬ P' x) := by
      obtain ⟨_, ht, P', h1, h2, h3⟩ := HD.out
      have hk := HK1.out.drew
      have hkk : Kp (fun y => P y ∨ y = b) w w2 := hk.ofNo.trans h2 (fun y hy => .inl hy)
      refine ⟨ht, P', h1, hkk, fun y hy => ?_, HX.out.kp hkk (fun e => ?_), fun e => ?_⟩
      · rcases h3 y hy with e | e
        · exact .inl e
        · right; have := hk.size; omega
      · rcases e with e | e
        · exact hxP e
        · exact hxb e
      · rcases h3 x e with e | e
        · exact hxP e
        · have := hk.size; omega
    have HSD := hid HD.out.1
    clear HD HSV HK1 c0 c1
    by_cases hz : r.1 = 0
    · have HZ := hid hz
      rw [hz]
      have hx2 : w2.cell? ⟨x, 2, none⟩ = some v0 := HF.out.2.choose_spec.2.2.2.1.cell 2
      have hf2 : w2.frozen? ⟨x, 2, none⟩ = false := HF.out.2.choose_spec.2.2.2.1.frozen 2
      clear hz
      go_wp2_with fail
      go_ret
      obtain ⟨ht, P', h1, h2, h3, h4, h5⟩ := HF.out
      have hs : Kp (fun y => y = x) w2 (w2.setCell ⟨x, 2, none⟩ (.slice av d.length cv)) := Kp.setCell (p := ⟨x, 2, none⟩) (Kp.refl (fun y => y = x) w2) (.inl rfl) _
      refine ⟨r, HSD.out, by rw [HZ.out]; rfl, ?_, ht.kp hs (fun e => hxb e.symm), P', h1.kp hs (fun y hy => by rw [hy]; exact h5), (h2.mono (fun y hy => .inl (by rcases hy with e | e; exact .inl e; exact .inr (.inl e)))).trans hs (fun y hy => .inl (.inr (.inr hy))), h3⟩
      rw [if_pos HZ.out]
      exact Blk.setCell h4 2 _
    · have HZ := hid hz
      obtain ⟨F, hF⟩ : ∃ F, r.1 = F := ⟨_, rfl⟩
      have HFF := hid hF
      rw [hF] at hz ⊢
      have hz' : ¬ ((F : Int) = 0) := by omega
      clear hF
      go_wp2_with fail
      go_ret
      obtain ⟨ht, P', h1, h2, h3, h4, h5⟩ := HF.out
      refine ⟨r, HSD.out, by rw [HFF.out]; rfl, ?_, ht, P', h1, h2.mono (fun y hy => .inl (by rcases hy with e | e; exact .inl e; exact .inr (.inl e))), h3⟩
      rw [if_neg HZ.out]
      exact h4

set_option maxHeartbeats 1000000 in
theorem add_any {P Q Q0 : Nat → Prop} {N : Nat} (w : World) (s b x : Nat) (p : PS) (v v0 : Value) (d d0 : List Sg.Ent) (h : Sim.Sys P N w s p) (hN : N + 6 ≤ 1000) (hT : TabX w b) (hb : ¬ P b) (hX : IxAt w x s b v0) (hxP : ¬ P x) (hxb : x ≠ b)
    (h0 : Sg.EV Q0 w v0 d0) (hv : Sg.EV Q w v d) (hl : d0.length + d.length ≤ 900) (hR : ∀ X, Stab Sg.ky (d0 ++ d) X → Srt Sg.ky Sg.lexB X → Sg.RightP (Sg.cmpct X) ∧ (nats (Sg.sealE (Sg.cmpct X))).length ≤ 12000 ∧ ∀ x ∈ nats (Sg.sealE (Sg.cmpct X)), x < 256) :
    Calls Tryz.prog 45 #[.pointer (some ⟨x, 0, none⟩), v] w fun e w' => ∃ X r w1, Stab Sg.ky (d0 ++ d) X ∧ Srt Sg.ky Sg.lexB X ∧ Kp No w w1 ∧ Sg.EV (fun g => w.heap.size ≤ g) w1 r (Sg.cmpct X) ∧ BecP (nats (Sg.sealE (Sg.cmpct X))) P (N + 6) b x w1 s p r v0 e w' := by
  have HJ := hid (Sg.join_any w v0 v d0 d Q0 Q h0 hv (by omega))
  have HN := hid (none_any w x s b v0 hX)
  have c2 : w.cell? ⟨x, 2, none⟩ = some v0 := hX.cell 2
  have HB := hid (fun w1 (hk : Kp No w w1) r X (hs : Stab Sg.ky (d0 ++ d) X) (hr : Srt Sg.ky Sg.lexB X) (hv : Sg.EV (fun g => w.heap.size ≤ g) w1 r (Sg.cmpct X)) => become_any w1 s b x p r v0 (Sg.cmpct X) (h.kept hk) hN (hT.kp hk (fun h => h)) hb (hX.kp hk (fun h => h)) hxP hxb hv (hR X hs hr).1 (hR X hs hr).2.1 (hR X hs hr).2.2)
  obtain ⟨av, cv, rfl, _⟩ := id hv
  obtain ⟨a0, c0, rfl, _⟩ := id h0
  clear h hT hX h0 hv hR
  go_enter Tryz.func45, Tryz.ntmps45
  go_wp2_with fail
  refine HN.out.mono ?_
  rintro e w0 ⟨rfl, rfl⟩
  go_wp2_with fail
  refine HJ.out.mono ?_
  rintro e w1 ⟨r, X, rfl, hs, hr, hk, hv⟩
  obtain ⟨ar, cr, rfl, _⟩ := id hv
  have HC := hid (HB.out w1 hk _ X hs hr hv)
  have HG := hid (And.intro hs (And.intro hr (And.intro hk hv)))
  clear hs hr hk hv HB HJ
  generalize (Sg.cmpct X).length = n at *
  go_wp2_with fail
  refine HC.out.mono ?_
  rintro e w2 hbp
  obtain ⟨rr, hsv, rfl, hrest⟩ := id hbp
  have HBP := hid hbp
  clear hbp hsv hrest
  generalize rr.1 = F at *
  go_wp2_with fail
  go_ret
  exact ⟨X, _, w1, HG.out.1, HG.out.2.1, HG.out.2.2.1, HG.out.2.2.2, HBP.out⟩

end Go.Proofs.YthmimipoooemjaaGreatDoor.Ix
end

section
/-
  A pack is loaded.
-/
namespace Go.Proofs.YthmimipoooemjaaGreatDoor
open Go.RowKit Go.Shelf
open Tlv (BySlS)
open Sim (hid Kp No PS Done Blk nm finds pBytes OwnB)

theorem own_of {w : World} {v : Value} {xs : List Nat} (h : OwnB w v xs) (hx : ∀ x ∈ xs, x < 256) (hl : xs.length ≤ 140737488355328) (B : Nat) (hB : ∀ x, v.ownBlock = some x → B ≤ x) : BySlS (fun g => B ≤ g ∧ g < w.heap.size) w v (ints xs) := by
  have h1 : w.ownsRow B 5 1 v (ints xs).length ((ints xs).map (Value.int .u8)) := by
    have e1 : (ints xs).map (Value.int .u8) = Sim.cl xs := by simp [ints, Sim.cl, Function.comp_def]
    rw [e1, ints_length]
    refine ⟨h.1, ?_⟩
    rcases h.2 with h2 | ⟨g, cap, cur, hv, _, r⟩
    · exact .inl h2
    · exact .inr ⟨g, cap, cur, hv, hB g (by rw [hv]; rfl), r⟩
  exact Tlv.BySl.toS (Tlv.BySl.own h1 (by rw [ints_length]; exact hl) (ints_bd _ hx))

set_option maxHeartbeats 1000000 in
theorem pread_any {P : Nat → Prop} {N : Nat} (w : World) (s b : Nat) (p : PS) (i : Nat) (h1 : 1 ≤ i) (h2 : i < 100) (h : Sim.Sys P N w s p) :
    Calls Tryz.prog 99 #[.pointer (some ⟨s, 0, none⟩), .pointer (some ⟨b, 0, none⟩), .int .i64 (i : Int)] w fun e w' => ∃ ad cap, e = .returned (.tuple #[.slice ad (pBytes (nm (nameP i)) p).length cap, .int .i64 (finds p (nm (nameP i)) : Nat)]) ∧
      OwnB w' (.slice ad (pBytes (nm (nameP i)) p).length cap) (pBytes (nm (nameP i)) p) ∧ (∀ x, (Value.slice ad (pBytes (nm (nameP i)) p).length cap).ownBlock = some x → w.heap.size ≤ x) ∧ Kp No w w' := by
  have HID : Hid (∀ V, Calls Tryz.prog 93 #[.int .i64 (i : Int)] V fun e w' => e = .returned (.bool true) ∧ w' = V) := fun V => by
    have h := isID_any (i : Int) V
    rwa [show idB (i : Int) = true from by simp [idB]; omega] at h
  have HNM := hid (fun V => pname_small i h1 h2 V)
  have HRD := hid (Sim.read_any w s p (nameP i) (name_le _ (by decide) i h2) h)
  obtain ⟨F, hF⟩ : ∃ F, finds p (nm (nameP i)) = F := ⟨_, rfl⟩
  obtain ⟨Y, hY⟩ : ∃ Y, pBytes (nm (nameP i)) p = Y := ⟨_, rfl⟩
  rw [hF, hY] at HRD ⊢
  clear hF hY
  go_enter Tryz.func99, Tryz.ntmps99
  go_wp2_with (first
    | (go_at_call 93; refine (HID.out _).mono ?_; rintro e w1 ⟨rfl, h⟩; subst w1)
    | (go_at_call 17; refine (HNM.out _).mono ?_; rintro e w1 ⟨rfl, h⟩; subst w1)
    | (go_at_call 76; refine HRD.out.mono ?_; rintro e w2 ⟨ad, cap, rfl, ho, hlt, hk⟩; have HK := hid (And.intro ho (And.intro hlt hk)); clear ho hlt hk))
  go_ret2
  exact ⟨ad, cap, rfl, HK.out⟩

end Go.Proofs.YthmimipoooemjaaGreatDoor
end

section
/-
  What a seal takes: the two closures.
-/
namespace Go.Proofs.YthmimipoooemjaaGreatDoor
open Go.RowKit Go.Shelf
open Sim (hid Kp No PS Done Blk nm finds pFsync pRename pSyncDir)
end Go.Proofs.YthmimipoooemjaaGreatDoor
end

section
/-
  What a seal takes, laid in an array; Seal.
-/
namespace Go.Proofs.YthmimipoooemjaaGreatDoor
open Go.RowKit Go.Shelf
open Sim (hid Kp No PS Done Blk nm finds pFsync pRename pSyncDir)
end Go.Proofs.YthmimipoooemjaaGreatDoor
end

section
/-
  Seal.
-/
namespace Go.Proofs.YthmimipoooemjaaGreatDoor
open Go.RowKit Go.Shelf
open Sim (hid Kp No PS Done Blk nm finds pFsync pRename pSyncDir)
/-- What is told apart: blocks of the files, of the writer, of the table, of the variables. -/
structure Apart (P : Nat → Prop) (w w1 : World) (g b c1 c3 c4 : Nat) : Prop where
  lt : ∀ x, P x → x < w.heap.size
  le : w.heap.size ≤ w1.heap.size
  g : g < w.heap.size ∧ ¬ P g
  b : b < w.heap.size ∧ ¬ P b
  c1 : w.heap.size ≤ c1 ∧ c1 < w1.heap.size
  c3 : w.heap.size ≤ c3 ∧ c3 < w1.heap.size
  c4 : w.heap.size ≤ c4 ∧ c4 < w1.heap.size

theorem Apart.not {P P' : Nat → Prop} {w w1 : World} {g b c1 c3 c4 : Nat} (h : Apart P w w1 g b c1 c3 c4) (hP : ∀ x, P' x → P x ∨ w1.heap.size ≤ x) : ¬ P' g ∧ ¬ P' b ∧ ¬ P' c1 ∧ ¬ P' c3 ∧ ¬ P' c4 := by
  have hl := h.le
  have hg := h.g
  have hb := h.b
  have h1 := h.c1
  have h3 := h.c3
  have h4 := h.c4
  refine ⟨fun e => ?_, fun e => ?_, fun e => ?_, fun e => ?_, fun e => ?_⟩
  · rcases hP _ e with e | e
    · exact hg.2 e
    · omega
  · rcases hP _ e with e | e
    · exact hb.2 e
    · omega
  · rcases hP _ e with e | e
    · have := h.lt _ e; omega
    · omega
  · rcases hP _ e with e | e
    · have := h.lt _ e; omega
    · omega
  · rcases hP _ e with e | e
    · have := h.lt _ e; omega
    · omega

end Go.Proofs.YthmimipoooemjaaGreatDoor
end

section
/-
  Plain mathematics of a pack: one file made, written, synced, moved.
-/
namespace Go.Proofs.YthmimipoooemjaaGreatDoor.Sim

def startPS (room : Nat) : PS := ⟨room, false, [], [], [], false, false, 0, 0, fun _ => none⟩

section
variable {t n : Nm} {r b : Nat} {ys : List Nat}

theorem start_finds (hn : nameB n = true) : finds (startPS r) n = 5 := by simp [finds, wrongs, startPS, hn, dfind]

def q1 (t : Nm) (r b : Nat) : PS := chgd ⟨0, t, [], b⟩ (setF b ⟨[], 0⟩ (tick (startPS r)))
def q2 (t : Nm) (r b : Nat) (ys : List Nat) : PS := setF b ⟨ys, 0⟩ (tick (q1 t r b))
def q3 (t : Nm) (r b : Nat) (ys : List Nat) : PS := setF b ⟨ys, ys.length⟩ (tick (q2 t r b ys))
def q4 (t n : Nm) (r b : Nat) (ys : List Nat) : PS := chgd ⟨2, t, n, 0⟩ (tick (q3 t r b ys))
def q5 (t n : Nm) (r b : Nat) (ys : List Nat) : PS := settle (q4 t n r b ys).chg.length (tick (q4 t n r b ys))
end
end Go.Proofs.YthmimipoooemjaaGreatDoor.Sim
end

section
/-
  Plain mathematics of a pack with many records: one file that is appended to, synced and moved, on a disk that goes down at any step; and what is there once it is up again.
-/
namespace Go.Proofs.YthmimipoooemjaaGreatDoor.Sim

/-- One file x, whatever is seen of it. -/
def one (d ar : Bool) (lf st : Nat) (sn : Dir) (cg : List PC) (sa : Dir) (r x : Nat) (f : Fl) : PS := ⟨r, true, sn, sa, cg, d, ar, lf, st, fun y => if y = x then some f else none⟩
section
variable {t n : Nm} {r x : Nat} {ar d : Bool} {ys bs : List Nat} {p : PS}

def start (r : Nat) (ar : Bool) (lf : Nat) : PS := { startPS r with armed := ar, left := lf }
/-- The pack is begun: the file is seen under its temporary name. -/
def Beg (t : Nm) (r x : Nat) (ar d : Bool) (ys : List Nat) (p : PS) : Prop := (d = true → ar = true) ∧ ∃ lf st, p = one d ar lf st [(t, x)] [⟨0, t, [], x⟩] [] r x ⟨ys, 0⟩

/-- How far a sealing came: 0: nothing of it is safe; 1: the bytes are; 2: they are moved; 3: that is safe. -/
def SealR (t n : Nm) (r x : Nat) (ys : List Nat) (k : Nat) (p : PS) : Prop :=
  ∃ d ar lf st, (k = 0 ∧ p = one d ar lf st [(t, x)] [⟨0, t, [], x⟩] [] r x ⟨ys, 0⟩) ∨ (k = 1 ∧ p = one d ar lf st [(t, x)] [⟨0, t, [], x⟩] [] r x ⟨ys, ys.length⟩) ∨
    (k = 2 ∧ p = one d ar lf st [(n, x)] [⟨0, t, [], x⟩, ⟨2, t, n, 0⟩] [] r x ⟨ys, ys.length⟩) ∨ (k = 3 ∧ p = one d ar lf st [(n, x)] [] [(n, x)] r x ⟨ys, ys.length⟩)
variable {c : Nat}
end
end Go.Proofs.YthmimipoooemjaaGreatDoor.Sim
namespace Go.Proofs.YthmimipoooemjaaGreatDoor
open Sim (Beg SealR nm nameB PS)

section
variable {i r x : Nat} {ar d : Bool} {ys : List Nat} {p : PS}
end
end Go.Proofs.YthmimipoooemjaaGreatDoor
end

section
/-
  A record of a pack is got.
-/
namespace Go.Proofs.YthmimipoooemjaaGreatDoor
open Go.RowKit Go.Shelf
open Tlv (BySlS)
open Sim (hid Kp No PS Done Blk nm finds pBytes OwnB)

theorem takeF_faults (bs : List Int) : (takeF bs).1 = 0 ∨ ((takeF bs).1 ≠ 0 ∧ (takeF bs).1 ≠ 1 ∧ takeF bs = noRec (takeF bs).1) := by
  cases hr : Tlv.rd 8 bs with
  | none => rw [takeF_none hr]; right; simp [noRec]
  | some x =>
    obtain ⟨t, m⟩ := x
    rw [takeF_some hr]
    by_cases h1 : bs.length - m < 4
    · rw [if_pos h1]; right; simp [noRec]
    · rw [if_neg h1]
      by_cases h2 : sumI (bs.take m) ≠ (bs.drop m).take 4
      · rw [if_pos h2]; right; simp [noRec]
      · rw [if_neg h2]
        cases recOf t with
        | none => right; simp [noRec]
        | some r => left; rfl

/-- What Get answers: a fault of the reading, a place that is none, or what stands there. -/
def Gotten (w w' : World) (b : Nat) (e : Ending) (f : Nat) (bs : List Int) (z : Int) : Prop :=
  ((f ≠ 0 ∧ e = .returned (.tuple #[.agg zRec.toArray, .int .i64 (f : Int)])) ∨
   (f = 0 ∧ (z < 0 ∨ (bs.length : Int) ≤ z) ∧ e = .returned (.tuple #[.agg zRec.toArray, .int .i64 1])) ∨
   (∃ k : Nat, f = 0 ∧ z = k ∧ k < bs.length ∧ (takeF (bs.drop k)).1 ≠ 0 ∧ e = .returned (.tuple #[.agg zRec.toArray, .int .i64 4])) ∨
   (∃ k : Nat, f = 0 ∧ z = k ∧ k < bs.length ∧ (takeF (bs.drop k)).1 = 0 ∧ ∃ a c, e = .returned (.tuple #[.agg (recA (takeF (bs.drop k)).2.1.1 (takeF (bs.drop k)).2.1.2.1 (.slice a (takeF (bs.drop k)).2.1.2.2.length c)).toArray, .int .i64 0]) ∧
      BySlS (fun g => w.heap.size ≤ g ∧ g < w'.heap.size) w' (.slice a (takeF (bs.drop k)).2.1.2.2.length c) (takeF (bs.drop k)).2.1.2.2 ∧ ((takeF (bs.drop k)).2.1.2.1.length = 32 ∧ ∀ y ∈ (takeF (bs.drop k)).2.1.2.1, 0 ≤ y ∧ y ≤ 255))) ∧
  Crc.Kept b w w' ∧ TabX w' b

set_option maxHeartbeats 2000000 in
set_option maxRecDepth 100000 in
theorem get_any {P : Nat → Prop} {N : Nat} (w : World) (s b : Nat) (p : PS) (i : Nat) (z : Int) (h1 : 1 ≤ i) (h2 : i < 100) (h : Sim.Sys P N w s p) (hT : TabX w b) (hb : ∀ x ∈ pBytes (nm (nameP i)) p, x < 256) (hl : (pBytes (nm (nameP i)) p).length ≤ 20000000) :
    Calls Tryz.prog 65 #[.pointer (some ⟨s, 0, none⟩), .pointer (some ⟨b, 0, none⟩), .int .i64 (i : Int), .int .i64 z] w fun e w' => Gotten w w' b e (finds p (nm (nameP i))) (ints (pBytes (nm (nameP i)) p)) z := by
  have HRD := hid (fun V (k : Below w.heap.size w V) => pread_any V s b p i h1 h2 (h.kept (Kp.below k)))
  have HT := hid hT
  have hbw := hT.lt
  obtain ⟨F, hF⟩ : ∃ F, finds p (nm (nameP i)) = F := ⟨_, rfl⟩
  obtain ⟨Y, hY⟩ : ∃ Y, pBytes (nm (nameP i)) p = Y := ⟨_, rfl⟩
  rw [hY] at hb hl
  simp only [hF, hY] at HRD ⊢
  have HY := hid (And.intro hb hl)
  have hz0 := zero35
  have hb0 := build35z
  obtain ⟨Z, hZ⟩ : ∃ Z, zRec = Z := ⟨_, rfl⟩
  have HZ := hid hZ
  have HZL : Hid (Z.length = 34) := by rw [← hZ]; exact zRec_length
  have HZs : Hid (Z.toArray.size = 34) := HZL.out
  rw [hZ] at hz0 hb0
  clear hF hY hb hT hZ
  have HI2 : Hid ((Tryz.prog.info? 56).map (·.size) = some Z.toArray.size) := by rw [← HZ.out]; exact Tryz.info35
  have H1 : Hid (Z.toArray.all (·.oneCell') = true) := by rw [← HZ.out]; exact all_oneCell_toArray zRec_one
  have hB1 : Below w.heap.size w (w.alloc (.cells Z.toArray 56)) := (Below.refl _ _).alloc (Nat.le_refl _) _
  have HT1 : Hid (World.there (w.alloc (.cells Z.toArray 56)) w.heap.size 0 34) := by have h := there_new w Z 56; rwa [HZL.out] at h
  have hs1 : (w.alloc (.cells Z.toArray 56)).heap.size = w.heap.size + 1 := by simp
  have HB1 := hid hB1
  have HRD1 := hid (HRD.out _ hB1)
  clear HRD
  go_enter Tryz.func65, Tryz.ntmps65
  go_wp2_with fail
  generalize hW1 : w.alloc (.cells Z.toArray 56) = W1 at *
  refine HRD1.out.mono ?_
  rintro e w2 ⟨ad, cap, rfl, ho, hlt, hk⟩
  have hB2 : Below W1.heap.size W1 w2 := hk.toBelow'
  have HB2 : Hid (Below w.heap.size w w2) := HB1.out.trans (hB2.mono HB1.out.size)
  have HT2 : Hid (w2.there w.heap.size 0 34) := there_below HT1.out hB2 (by omega)
  have hs2 := hB2.size
  have HO := hid (And.intro ho hlt)
  clear ho hlt hk hB2
  by_cases hF0 : F = 0
  · subst hF0
    have HTB2 := hid (HT.out.below HB2.out)
    have HBY : Hid (BySlS (fun g => W1.heap.size ≤ g ∧ g < w2.heap.size) w2 (.slice ad Y.length cap) (ints Y)) := own_of HO.out.1 HY.out.1 (by have := HY.out.2; omega) W1.heap.size HO.out.2
    by_cases hzr : z < 0 ∨ ((ints Y).length : Int) ≤ z
    · have HAT := hid (at_bad b ad Y.length cap z w2 (by rw [ints_length] at hzr; exact hzr))
      rw [HZ.out] at HAT
      go_wp2_with fail
      refine HAT.out.mono ?_
      rintro e w3 ⟨rfl, hb3⟩
      have HB3 := hid hb3
      have hs3 := hb3.size
      have HTN : Hid (World.there (w3.alloc (.cells Z.toArray 56)) w3.heap.size 0 Z.toArray.size) := there_new w3 Z 56
      have hn3 : Below w3.heap.size w3 ((w3.alloc (.cells Z.toArray 56)).setCells w3.heap.size 0 Z) := ((Below.refl _ _).alloc (Nat.le_refl _) _).trans (setCells_below (Nat.le_refl _) _ _ _)
      have HTR : Hid (World.there ((w3.alloc (.cells Z.toArray 56)).setCells w3.heap.size 0 Z) w.heap.size 0 Z.toArray.size) := by
        rw [Hid, HZs.out]
        exact there_below (there_below HT2.out hb3 (by omega)) hn3 (by omega)
      have HN3 := hid hn3
      clear hb3 hn3
      go_wp2_with (first
        | (refine wpList_store_mid (by rfl) 56 _ _ (by rfl) w3.heap.size 0 Z.toArray (by rfl) (by rfl) HTN.out HI2.out H1.out ?_)
        | (refine wpList_store_mid (by rfl) 56 _ _ (by rfl) w.heap.size 0 Z.toArray (by rfl) (by rfl) HTR.out HI2.out H1.out ?_))
      have hr : World.rangeAt (((w3.alloc (.cells Z.toArray 56)).setCells w3.heap.size 0 Z).setCells w.heap.size 0 Z) w.heap.size 0 Z := World.rangeAt_setCells_same _ _ _ _ HTR.out
      refine bodyPost_ret (v := .tuple #[.agg Z.toArray, .int .i64 1]) (results_cell_mid2 Tryz.results65 _ _ w.heap.size 0 _ _ rfl hr Tryz.underlying56 rfl HI2.out) rfl ?_
      have hall : Below w.heap.size w (((w3.alloc (.cells Z.toArray 56)).setCells w3.heap.size 0 Z).setCells w.heap.size 0 Z) := ((HB2.out.trans (HB3.out.mono HB2.out.size)).trans (HN3.out.mono (by omega))).trans (setCells_below (Nat.le_refl _) _ _ _)
      exact ⟨.inr (.inl ⟨rfl, hzr, by rw [HZ.out]⟩), Crc.Kept.below hall, HT.out.below hall⟩
    · obtain ⟨k, rfl⟩ : ∃ k : Nat, z = k := ⟨z.toNat, by omega⟩
      have hkl : k < (ints Y).length := by omega
      have HAT := hid (at_any b k (.slice ad Y.length cap) (ints Y) w2 HTB2.out (BySlS.mono HBY.out (fun g hg => ⟨by omega, hg.2⟩)) hkl)
      have HFA := hid (takeF_faults ((ints Y).drop k))
      go_wp2_with fail
      refine HAT.out.mono ?_
      rintro e w3 ⟨ar, cr, rfl, hby, hnm, hkk, htt⟩
      generalize hX : takeF ((ints Y).drop k) = X at *
      have HPL := hid (recA_length X.2.1.1 X.2.1.2.1 (.slice ar X.2.1.2.2.length cr) hnm.1)
      have HPO := hid (recA_one X.2.1.1 X.2.1.2.1 ar X.2.1.2.2.length cr)
      obtain ⟨C, hC⟩ : ∃ C, recA X.2.1.1 X.2.1.2.1 (.slice ar X.2.1.2.2.length cr) = C := ⟨_, rfl⟩
      rw [hC] at HPL HPO
      rw [hC]
      have HCs : Hid (C.toArray.size = 34) := HPL.out
      have HI : Hid ((Tryz.prog.info? 56).map (·.size) = some C.toArray.size) := by rw [Hid, HCs.out]; exact Tryz.info35
      have HOC : Hid (C.toArray.all (·.oneCell') = true) := all_oneCell_toArray HPO.out
      have hs3 := hkk.size
      have HTN : Hid (World.there (w3.alloc (.cells Z.toArray 56)) w3.heap.size 0 C.toArray.size) := by have h := there_new w3 Z 56; rw [HZL.out] at h; rw [Hid, HCs.out]; exact h
      have HRN : Hid (World.rangeAt ((w3.alloc (.cells Z.toArray 56)).setCells w3.heap.size 0 C) w3.heap.size 0 C) := World.rangeAt_setCells_same _ _ _ _ HTN.out
      have hn3 : Below w3.heap.size w3 ((w3.alloc (.cells Z.toArray 56)).setCells w3.heap.size 0 C) := ((Below.refl _ _).alloc (Nat.le_refl _) _).trans (setCells_below (Nat.le_refl _) _ _ _)
      have ht3 : ((w3.alloc (.cells Z.toArray 56)).setCells w3.heap.size 0 C).there w.heap.size 0 34 := there_below (there_kept HT2.out hkk (by omega) (by omega)) hn3 (by omega)
      have HTR : Hid (World.there ((w3.alloc (.cells Z.toArray 56)).setCells w3.heap.size 0 C) w.heap.size 0 C.toArray.size) := by rw [Hid, HCs.out]; exact ht3
      have HTZ : Hid (World.there ((w3.alloc (.cells Z.toArray 56)).setCells w3.heap.size 0 C) w.heap.size 0 Z.toArray.size) := by rw [Hid, HZs.out]; exact ht3
      have HN3 := hid hn3
      have HBY3 := hid (And.intro hby (And.intro hnm (And.intro hkk htt)))
      have HX := hid (And.intro hX hC)
      clear hby hnm hkk htt hn3 ht3 hX hC
      have HKALL : Hid (∀ D : List Value, Crc.Kept b w (((w3.alloc (.cells Z.toArray 56)).setCells w3.heap.size 0 C).setCells w.heap.size 0 D) ∧ TabX (((w3.alloc (.cells Z.toArray 56)).setCells w3.heap.size 0 C).setCells w.heap.size 0 D) b) := fun D => by
        have hV : Below w.heap.size w3 (((w3.alloc (.cells Z.toArray 56)).setCells w3.heap.size 0 C).setCells w.heap.size 0 D) := (HN3.out.mono (by omega)).trans (setCells_below (Nat.le_refl _) _ _ _)
        exact ⟨Kept.then ((Crc.Kept.below HB2.out).trans HBY3.out.2.2.1) hV, tabX_below HBY3.out.2.2.2 hV hbw⟩
      by_cases hx0 : X.1 = 0
      · have HX0 := hid hx0
        rw [hx0]
        clear hx0
        go_wp2_with (first
          | (refine wpList_store_mid (by rfl) 56 _ _ (by rfl) w3.heap.size 0 C.toArray (by rfl) (by rfl) HTN.out HI.out HOC.out ?_)
          | (refine wpList_load_mid (by rfl) 56 _ (by rfl) w3.heap.size 0 (by rfl) C _ HRN.out Tryz.underlying56 rfl HI.out ?_)
          | (refine wpList_store_mid (by rfl) 56 _ _ (by rfl) w.heap.size 0 C.toArray (by rfl) (by rfl) HTR.out HI.out HOC.out ?_))
        have hr : World.rangeAt (((w3.alloc (.cells Z.toArray 56)).setCells w3.heap.size 0 C).setCells w.heap.size 0 C) w.heap.size 0 C := World.rangeAt_setCells_same _ _ _ _ HTR.out
        refine bodyPost_ret (v := .tuple #[.agg C.toArray, .int .i64 0]) (results_cell_mid2 Tryz.results65 _ _ w.heap.size 0 _ _ rfl hr Tryz.underlying56 rfl HI.out) rfl ?_
        obtain ⟨hby, hnm, hkk, htt⟩ := HBY3.out
        obtain ⟨hX, hC⟩ := HX.out
        refine ⟨.inr (.inr (.inr ⟨k, rfl, rfl, hkl, by rw [hX]; exact HX0.out, ar, cr, by rw [hX, hC], ?_, by rw [hX]; exact hnm⟩)), HKALL.out C⟩
        rw [hX]
        have hV : Below w.heap.size w3 (((w3.alloc (.cells Z.toArray 56)).setCells w3.heap.size 0 C).setCells w.heap.size 0 C) := (HN3.out.mono (by omega)).trans (setCells_below (Nat.le_refl _) _ _ _)
        exact hby.agree (fun g hg => (setCells_block _ _ _ _ _ (by omega)).trans (HN3.out.block g hg.2)) (fun g hg => ⟨by omega, Nat.lt_of_lt_of_le hg.2 hV.size⟩)
      · have hx1 : ¬ X.1 = 1 := by
          rcases HFA.out with h | h
          · exact absurd h hx0
          · exact h.2.1
        obtain ⟨fx, hfx⟩ : ∃ fx, X.1 = fx := ⟨_, rfl⟩
        have HFX := hid hfx
        rw [hfx] at hx0 hx1 ⊢
        clear hfx
        go_wp2_with (first
          | (refine wpList_store_mid (by rfl) 56 _ _ (by rfl) w3.heap.size 0 C.toArray (by rfl) (by rfl) HTN.out HI.out HOC.out ?_)
          | (refine wpList_store_mid (by rfl) 56 _ _ (by rfl) w.heap.size 0 Z.toArray (by rfl) (by rfl) HTZ.out HI2.out H1.out ?_))
        have hr : World.rangeAt (((w3.alloc (.cells Z.toArray 56)).setCells w3.heap.size 0 C).setCells w.heap.size 0 Z) w.heap.size 0 Z := World.rangeAt_setCells_same _ _ _ _ HTZ.out
        refine bodyPost_ret (v := .tuple #[.agg Z.toArray, .int .i64 4]) (results_cell_mid2 Tryz.results65 _ _ w.heap.size 0 _ _ rfl hr Tryz.underlying56 rfl HI2.out) rfl ?_
        exact ⟨.inr (.inr (.inl ⟨k, rfl, rfl, hkl, by rw [HX.out.1, HFX.out]; exact hx0, by rw [HZ.out]⟩)), HKALL.out Z⟩
  · have hF' : ¬ ((F : Int) = 0) := by omega
    have HTZ : Hid (World.there w2 w.heap.size 0 Z.toArray.size) := by rw [Hid, HZs.out]; exact HT2.out
    go_wp2_with (refine wpList_store_mid (by rfl) 56 _ _ (by rfl) w.heap.size 0 Z.toArray (by rfl) (by rfl) HTZ.out HI2.out H1.out ?_)
    have hr : World.rangeAt (w2.setCells w.heap.size 0 Z) w.heap.size 0 Z := World.rangeAt_setCells_same _ _ _ _ HTZ.out
    refine bodyPost_ret (v := .tuple #[.agg Z.toArray, .int .i64 (F : Int)]) (results_cell_mid2 Tryz.results65 _ _ w.heap.size 0 _ _ rfl hr Tryz.underlying56 rfl HI2.out) rfl ?_
    have hall : Below w.heap.size w (w2.setCells w.heap.size 0 Z) := HB2.out.trans (setCells_below (Nat.le_refl _) _ _ _)
    exact ⟨.inl ⟨hF0, by rw [HZ.out]⟩, Crc.Kept.below hall, HT.out.below hall⟩
end Go.Proofs.YthmimipoooemjaaGreatDoor
end

section
/-
  Plain mathematics: frames laid one behind the other, and cut off anywhere, are scanned to those that are whole.
-/
namespace Go.Proofs.YthmimipoooemjaaGreatDoor

abbrev Rec : Type := Int × List Int × List Int
def frOf (r : Rec) : List Int := frameR r.1 r.2.1 r.2.2
def Rt (r : Rec) : Prop := RightR r.1 r.2.1 r.2.2
/-- How many are whole in the first c bytes. -/
def cnt : List Rec → Nat → Nat
  | [], _ => 0
  | r :: rs, c => if (frOf r).length ≤ c then cnt rs (c - (frOf r).length) + 1 else 0
end Go.Proofs.YthmimipoooemjaaGreatDoor
end

section
/-
  What the reference's Take and Get answer.
-/
namespace Go.Proofs.YthmimipoooemjaaGreatDoor.Tlv
open Go.RowKit
attribute [local go_sem ↓] Go.wp_at_zero Go.wp_at_succ

end Go.Proofs.YthmimipoooemjaaGreatDoor.Tlv
end

section
/-
  What the reference's Open does.
-/
namespace Go.Proofs.YthmimipoooemjaaGreatDoor.Crc
open Go.RowKit

end Go.Proofs.YthmimipoooemjaaGreatDoor.Crc
end

section
/-
  The document's Take.
-/
namespace Go.Proofs.YthmimipoooemjaaGreatDoor
open Go.RowKit Go.Shelf
open Tlv (Tr BySlS AgreeS Agree)
open Crc (hid Kept Tab)
end Go.Proofs.YthmimipoooemjaaGreatDoor
end

section
/-
  The document's Scan.
-/
namespace Go.Proofs.YthmimipoooemjaaGreatDoor
open Go.RowKit Go.Shelf
open Tlv (Tr BySlS AgreeS Agree)
open Crc (hid Kept Tab)

theorem wpList_val {P : Program} {ops : Array Oper} {rest : List Oper} {o : Oper} {a : Act} {Q : Exit → Act → World → Prop} {w w' : World} {v : Value} (hgd : o.guard = none) (hr : (execOp a.eval o).run P w = .ok (.value v) w') (h : wpList P ops Q rest (a.put o.dst v) w') : wpList P ops Q (o :: rest) a w :=
  wpList_plain hgd fun _ hK => by unfold Oper.wp; rw [hr]; exact hK _ _ h

end Go.Proofs.YthmimipoooemjaaGreatDoor
end

section
/-
  FrameTurned, walked: a frame of which bits within 32 are turned, behind its first three bytes, is none.
-/
namespace Go.Proofs.YthmimipoooemjaaGreatDoor
open Go.RowKit
open Tlv (Tr BySlS AgreeS Agree)
open Crc (hid Kept Tab turn)
end Go.Proofs.YthmimipoooemjaaGreatDoor
end

section
/-
  Three rows that a call builds side by side: bytes, ends, records.
-/
namespace Go.Proofs.YthmimipoooemjaaGreatDoor
open Go.RowKit Go.Shelf
open Tlv (Tr BySlS AgreeS Agree)
open Crc (hid Kept Tab)

/-- One of the list: a record, and where its body lies. -/
abbrev El : Type := Rec × Option Addr × Nat
def elV (z : El) : Value := .slice z.2.1 z.1.2.2.length z.2.2
def elC (z : El) : List Value := recA z.1.1 z.1.2.1 (elV z)
def recsC : List El → List Value
  | [] => []
  | z :: zs => elC z ++ recsC zs
def nums (l : List Nat) : List Value := l.map fun (n : Nat) => Value.int .i64 (n : Int)

theorem infoR : (Tryz.prog.info? 68).map (fun i => (i.zero, i.size, i.bytes)) = some (some (.agg zRec.toArray), 34, 64) := by kernel_rfl

/-- The three rows, in blocks from B on, each in one of its own; all else from w1 on is as it was, the table's block b left out. -/
structure R3 (B b : Nat) (w1 wr : World) (va ve vw : Value) (xa : List Int) (xe : List Nat) (zs : List El) : Prop where
  kept : Kept b w1 wr
  tab : TabX wr b
  all : wr.ownsRow B 5 1 va xa.length (u8s xa)
  ends : wr.ownsRow B 3 1 ve xe.length (nums xe)
  want : wr.ownsRow B 68 34 vw zs.length (recsC zs)
  ae : ∀ q, va.ownBlock = some q → ve.ownBlock ≠ some q
  aw : ∀ q, va.ownBlock = some q → vw.ownBlock ≠ some q
  ew : ∀ q, ve.ownBlock = some q → vw.ownBlock ≠ some q

section
variable {B b : Nat} {w1 wr W : World} {va ve vw : Value} {xa : List Int} {xe : List Nat} {zs : List El}
end
end Go.Proofs.YthmimipoooemjaaGreatDoor
end

section
/-
  lose, Up.
-/
namespace Go.Proofs.YthmimipoooemjaaGreatDoor.Sim
open Go.RowKit Go.Maps

set_option maxHeartbeats 2000000 in
theorem lose_raw (W : World) (b n cap m : Nat) (a : Option Addr) (k : Int) (hb : Blk W b 135 [.slice a n cap, .int .i64 (m : Int)]) (hn : n ≤ cap) (hm : m ≤ n) (hN : n ≤ 20000000) :
    Calls Tryz.prog 63 #[.pointer (some ⟨b, 0, none⟩), .int .i64 k] W fun e w' => e = .returned (.tuple #[]) ∧ ∃ W1, Kp No W W1 ∧
      w' = (W1.setCell ⟨b, 0, none⟩ (.slice a (m + min (max k 0).toNat (n - m)) cap)).setCell ⟨b, 1, none⟩ (.int .i64 ((m + min (max k 0).toNat (n - m) : Nat) : Int)) := by
  have c0 : W.cell? ⟨b, 0, none⟩ = some (.slice a n cap) := hb.cell 0
  have c1 : W.cell? ⟨b, 1, none⟩ = some (.int .i64 (m : Int)) := hb.cell 1
  have f0 := hb.frozen 0
  have f1 := hb.frozen 1
  clear hb
  obtain ⟨r, hr⟩ : ∃ r : Nat, min (max k 0).toNat (n - m) = r := ⟨_, rfl⟩
  have hrI : min (max k 0) ((n : Int) - (m : Int)) = (r : Int) := by rw [← hr]; omega
  have hrm : m + r ≤ n := by rw [← hr]; omega
  rw [hr]
  clear hr
  have hrc : m + r ≤ cap := by omega
  have hI0 : (0 : Int) ≤ (m : Int) + (r : Int) := by omega
  have hI1 : (m : Int) + (r : Int) ≤ (cap : Int) := by omega
  go_enter Tryz.func63, Tryz.ntmps63
  go_wp2_with fail
  go_region
  all_goals
    go_wp2_with fail
    go_region
    all_goals
      go_wp2
      go_end0
      exact ⟨rfl, W.drew.drew, (Kp.refl _ _).drew.drew, rfl⟩

/-- A row's front. -/
theorem OwnB.front {w : World} {a : Option Addr} {n0 cap : Nat} {bs : List Nat} (h : OwnB w (.slice a n0 cap) bs) (j : Nat) (hj : j ≤ bs.length) : OwnB w (.slice a j cap) (bs.take j) := by
  have hl : (bs.take j).length = j := List.length_take_of_le hj
  have hcl : cl (bs.take j) = (cl bs).take j := by simp [cl, List.map_take]
  rcases h.row.2 with ⟨e, e2⟩ | ⟨g, cap', cur, e, hb, hh, h1, h2, h3, h4⟩
  · cases e
    have : bs = [] := List.length_eq_zero_iff.1 e2
    subst this
    have : j = 0 := by simpa using hj
    subst this
    exact OwnB.nil _
  · cases e
    refine ⟨by rw [cl_length]; omega, .inr ⟨g, cap, cur, by rw [hl], hb, hh, by omega, h2, h3, ?_⟩⟩
    rw [hcl, ← h4, List.take_take, hl]
    congr 1
    omega

theorem lose_len (k : Int) (f : Fl) (h : f.safe ≤ f.b.length) : (lose k f).b = f.b.take (f.safe + min (max k 0).toNat (f.b.length - f.safe)) ∧ (lose k f).b.length = f.safe + min (max k 0).toNat (f.b.length - f.safe) ∧ (lose k f).safe = f.safe + min (max k 0).toNat (f.b.length - f.safe) ∧ f.safe + min (max k 0).toNat (f.b.length - f.safe) ≤ f.b.length := by
  have h1 : f.safe + min (max k 0).toNat (f.b.length - f.safe) ≤ f.b.length := by omega
  have h2 : (f.b.take (f.safe + min (max k 0).toNat (f.b.length - f.safe))).length = f.safe + min (max k 0).toNat (f.b.length - f.safe) := List.length_take_of_le h1
  exact ⟨rfl, h2, h2, h1⟩

/-- lose, of a file of the system. -/
theorem lose_any {P : Nat → Prop} {I J : PS → Prop} (W : World) (s b : Nat) (q : PS) (vs vf vc : Value) (u : Nat → Value) (f : Fl) (k : Int) (h : Rp P I W s q vs vf vc u) (hb : q.files b = some f) (hl : f.b.length ≤ 20000000) (hi : J (setF b (lose k f) q)) :
    Calls Tryz.prog 63 #[.pointer (some ⟨b, 0, none⟩), .int .i64 k] W fun e w' => e = .returned (.tuple #[]) ∧ ∃ u', Rp P J w' s (setF b (lose k f) q) vs vf vc u' ∧ Kp P W w' := by
  obtain ⟨hPb, hFb, hPu⟩ := h.file b f hb
  obtain ⟨a, cap, hv, hle, hcap, hnil⟩ := hFb.own.shape
  obtain ⟨l1, l2, l3, l4⟩ := lose_len k f hFb.le
  have hblk := hFb.blk
  rw [hv] at hblk
  refine (lose_raw W b f.b.length cap f.safe a k hblk hle hFb.le hl).mono ?_
  rintro e w' ⟨rfl, W1, k1, rfl⟩
  generalize hj : f.safe + min (max k 0).toNat (f.b.length - f.safe) = j at *
  have kb : Kp (· = b) W1 ((W1.setCell ⟨b, 0, none⟩ (.slice a j cap)).setCell ⟨b, 1, none⟩ (.int .i64 (j : Int))) := (Kp.set1 _ _ _ _).trans (Kp.set1 _ _ _ _) (fun x hx => .inl hx)
  have K : Kp (fun k => k = b ∨ (u b).ownBlock = some k) W ((W1.setCell ⟨b, 0, none⟩ (.slice a j cap)).setCell ⟨b, 1, none⟩ (.int .i64 (j : Int))) := (k1.mono (fun _ h => h.elim)).trans kb (fun x hx => .inl (.inl hx))
  have hown : OwnB W1 (.slice a j cap) (f.b.take j) := ((by rw [hv] at hFb; exact hFb.own.kept k1 : OwnB W1 (.slice a f.b.length cap) f.b)).front j l4
  have hbk : (Value.slice a j cap).ownBlock = (u b).ownBlock := by rw [hv]; cases a <;> rfl
  have hF : FileAt ((W1.setCell ⟨b, 0, none⟩ (.slice a j cap)).setCell ⟨b, 1, none⟩ (.int .i64 (j : Int))) b (.slice a j cap) (lose k f) := by
    refine ⟨?_, ?_, fun x hx => hFb.byt x (List.mem_of_mem_take (by rw [l1] at hx; exact hx)), by rw [l2, l3]; exact Nat.le_refl _⟩
    · have := ((hFb.blk.kp k1 (fun h => h)).setCell 0 (.slice a j cap)).setCell 1 (.int .i64 (j : Int))
      rw [l3]
      exact this
    · rw [l1]
      exact hown.row.kp kb (fun x hx e => by
        rw [hbk] at hx
        exact hFb.own.row.ne hFb.blk (by decide) (by rw [hx, e]))
  obtain ⟨r1, r2⟩ := rq_setF (P' := P) (J := J) h hb K hF (fun x hx => .inl (by rw [← hbk]; exact hx)) (fun _ h => h) (fun x hx => Nat.lt_of_lt_of_le (h.lt x hx) K.size) (fun x hx => hPu x (by rw [← hbk]; exact hx)) hi
  exact ⟨rfl, _, r1, r2⟩

/-! ### Up -/
/-- A slice of numbers that is read. -/
def IntsAt (Q : Nat → Prop) (w : World) (v : Value) (zs : List Int) : Prop :=
  ∃ a cap, v = .slice a zs.length cap ∧ zs.length ≤ cap ∧ cap ≤ maxLen ∧ zs.length ≤ 1000 ∧ (zs ≠ [] → ∃ g o, a = some ⟨g, o, none⟩ ∧ Q g ∧ g < w.heap.size ∧ ∀ i, i < zs.length → w.cell? ⟨g, o + i, none⟩ = some (.int .i64 (zs.getD i 0)))
theorem IntsAt.kp {Q L : Nat → Prop} {w w' : World} {v : Value} {zs : List Int} (h : IntsAt Q w v zs) (k : Kp L w w') (hL : ∀ x, L x → ¬ Q x) : IntsAt Q w' v zs := by
  obtain ⟨a, cap, h1, h2, h3, h4, h5⟩ := h
  refine ⟨a, cap, h1, h2, h3, h4, fun hne => ?_⟩
  obtain ⟨g, o, e, hq, hg, hc⟩ := h5 hne
  exact ⟨g, o, e, hq, Nat.lt_of_lt_of_le hg k.size, fun i hi => (k.cell (p := ⟨g, o + i, none⟩) hg (fun hl => hL g hl hq)).trans (hc i hi)⟩
theorem loses_snoc (e : Nm × Nat) (cuts : List Int) : ∀ (l : Dir) (i : Nat) (p : PS), loses (l ++ [e]) i cuts p = setF e.2 (lose (cuts.getD (i + l.length) 0) (fileAt (loses l i cuts p) e.2)) (loses l i cuts p)
  | [], i, p => by simp [loses]
  | x :: r, i, p => by
    rw [List.cons_append, loses, loses_snoc e cuts r (i + 1)]
    have : i + 1 + r.length = i + (x :: r).length := by simp; omega
    rw [this]
    rfl
theorem loses_same (cuts : List Int) : ∀ (l : Dir) (i : Nat) (p : PS), (loses l i cuts p).safe = p.safe ∧ (loses l i cuts p).seen = p.seen ∧ (loses l i cuts p).chg = p.chg ∧ (loses l i cuts p).made = p.made ∧ (loses l i cuts p).room = p.room ∧ (loses l i cuts p).steps = p.steps
  | [], _, _ => ⟨rfl, rfl, rfl, rfl, rfl, rfl⟩
  | x :: r, i, p => by
    rw [loses]
    exact loses_same cuts r (i + 1) _
theorem loses_files (cuts : List Int) (B : Nat) : ∀ (l : Dir) (i : Nat) (p : PS), (∀ b f, p.files b = some f → f.b.length ≤ B) → (∀ b f, (loses l i cuts p).files b = some f → f.b.length ≤ B) ∧ ∀ b, ((p.files b).isSome = true → ((loses l i cuts p).files b).isSome = true)
  | [], _, _, h => ⟨h, fun _ h => h⟩
  | x :: r, i, p, h => by
    rw [loses]
    obtain ⟨h1, h2⟩ := loses_files cuts B r (i + 1) (setF x.2 (lose (cuts.getD i 0) (fileAt p x.2)) p) (fun b f hf => by
      have hf' : (if b = x.2 then some (lose (cuts.getD i 0) (fileAt p x.2)) else p.files b) = some f := hf
      split at hf'
      · cases hf'
        have hlen : (lose (cuts.getD i 0) (fileAt p x.2)).b.length ≤ (fileAt p x.2).b.length := List.length_take_le' _ _
        refine Nat.le_trans hlen ?_
        unfold fileAt
        cases hx : p.files x.2 with
        | none => simp
        | some g => exact h _ g hx
      · exact h b f hf')
    refine ⟨h1, fun b hb => h2 b ?_⟩
    show (if b = x.2 then some (lose (cuts.getD i 0) (fileAt p x.2)) else p.files b).isSome = true
    split
    · rfl
    · exact hb
theorem inv_up {N : Nat} {p : PS} (h : PInv N p) (hr : Ris p.safe) (k : Int) (cuts : List Int) : PInv N (pUp k cuts p) := by
  obtain ⟨n, hn, hn2⟩ : ∃ n, min (max k 0).toNat p.chg.length = n ∧ n ≤ p.chg.length := ⟨_, rfl, by omega⟩
  have e : pUp k cuts p = { loses ((p.chg.take n).foldl pdo p.safe) 0 cuts (settle n p) with seen := (loses ((p.chg.take n).foldl pdo p.safe) 0 cuts (settle n p)).safe, down := false, armed := false, left := 0 } := by
    unfold pUp
    rw [hn]
    rfl
  rw [e]
  obtain ⟨s1, s2, s3, s4, s5, s6⟩ := loses_same cuts ((p.chg.take n).foldl pdo p.safe) 0 (settle n p)
  obtain ⟨f1, f2⟩ := loses_files cuts (12000 * N) ((p.chg.take n).foldl pdo p.safe) 0 (settle n p) h.lfile
  have s1' : (loses ((p.chg.take n).foldl pdo p.safe) 0 cuts (settle n p)).safe = (p.chg.take n).foldl pdo p.safe := s1
  have s3' : (loses ((p.chg.take n).foldl pdo p.safe) 0 cuts (settle n p)).chg = [] := s3
  have hfn := fold_names h n
  refine {
    seen_eq := by show _ = List.foldl pdo _ _; rw [s3']; rfl
    okc := by show okcs _ _; rw [s3']; trivial
    has := fun x hx => ?_
    hasC := fun c hc => ?_
    nodup := ?_
    nmS := fun x hx => ?_
    nmC := fun c hc => ?_
    nmade := fun hm => ?_
    room := by show _ ≤ _; rw [s5]; exact h.room
    left := Nat.zero_le _
    steps := by show _ ≤ _; rw [s6]; exact h.steps
    lsum := ?_
    lfile := f1
    big := h.big }
  · have hx' : x ∈ (p.chg.take n).foldl pdo p.safe := by rw [← s1']; exact hx
    exact f2 x.2 ((hfn x hx').1)
  · have hc' : c ∈ (loses ((p.chg.take n).foldl pdo p.safe) 0 cuts (settle n p)).chg := hc
    rw [s3'] at hc'
    simp at hc'
  · show (List.map _ (loses ((p.chg.take n).foldl pdo p.safe) 0 cuts (settle n p)).safe ++ List.map _ (List.filter _ (loses ((p.chg.take n).foldl pdo p.safe) 0 cuts (settle n p)).chg)).Nodup
    rw [s3', s1']
    have hd := h.nodup
    have h2 := nodup_fold (p.chg.take n) (p.chg.drop n) p.safe hr (by
      have := h.okc
      rw [← List.take_append_drop n p.chg, okcs_append] at this
      exact this.1) (by rw [List.take_append_drop]; exact hd)
    rw [List.nodup_append] at h2
    simpa [vals] using h2.1
  · have hx' : x ∈ (p.chg.take n).foldl pdo p.safe := by rw [← s1']; exact hx
    exact (hfn x hx').2
  · have hc' : c ∈ (loses ((p.chg.take n).foldl pdo p.safe) 0 cuts (settle n p)).chg := hc
    rw [s3'] at hc'
    simp at hc'
  · have hm' : (loses ((p.chg.take n).foldl pdo p.safe) 0 cuts (settle n p)).made = false := hm
    rw [s4] at hm'
    obtain ⟨h1, h2⟩ := h.nmade hm'
    refine ⟨s3', ?_⟩
    show (loses ((p.chg.take n).foldl pdo p.safe) 0 cuts (settle n p)).safe = []
    rw [s1', h1, h2]
    simp
  · show (loses ((p.chg.take n).foldl pdo p.safe) 0 cuts (settle n p)).safe.length + (loses ((p.chg.take n).foldl pdo p.safe) 0 cuts (settle n p)).chg.length ≤ N
    rw [s1', s3']
    have h1 := length_fold (p.chg.take n) p.safe
    have h2 := List.length_take_le n p.chg
    have := h.lsum
    have h3 : (p.chg.take n).length ≤ p.chg.length := by simp; omega
    simp only [List.length_nil]
    omega

end Go.Proofs.YthmimipoooemjaaGreatDoor.Sim
end
