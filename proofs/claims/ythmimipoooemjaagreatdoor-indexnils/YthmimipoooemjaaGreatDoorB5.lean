/- Of the proof: the texts SgValue, SgPut, IxSaveL, IxNil, IxBase, PkLoad, PkSeal, PkSealing, PkSealW, PkPlain, PkManyM, PkGet, FrBackM, TlvRefTake, CrcRefOpen, FrRTake, FrRScan, FrTurned, FrBackR, SimUp, SimUp2, PkRun, PkNames, PkIdM, PkId, PkPick, ShNil, ShOpen, ShWalk0, IxRebuild0, SgNil, SgAlive, SgGetM, SgEntry, SgEntries, SgGet, SgTurnM, SgSame, SgWhere, SgBack, SgBackM, IxOpen0, IxFind, IxSaveM, IxAlive, IxNils, FrOpen, SgOpen, IxOpenH, PkLaid, IxNilsFacts, one behind the other. -/
import Derived.Test.YthmimipoooemjaaGreatDoorB4
import Derived.Test.YthmimipoooemjaaGreatDoorB2
import Derived.Test.YthmimipoooemjaaGreatDoorB1
import Derived.Lib.ItoaLen
import Derived.Lib.AppendIntMem
import Derived.Lib.AtoiAll
import Derived.RangeFuncBox
import Derived.Deep.DeepCutAuto
import Derived.ProofKit
import Derived.OpenShut
import Derived.Deep.Slices
import Derived.Deep.Strs
import Derived.Lib.SmallJoins
import Derived.WideKeyArr2
import Derived.Test.YthmimipoooemjaaGreatDoorCards
import Derived.Test.YthmimipoooemjaaGreatDoorTie
import Derived.Deep.DeepHandedRow
import Derived.Lib.LaidTab
import Derived.MakeChecks
import Derived.Lib.TrailingZeros
import Derived.Test.YthmimipoooemjaaGreatDoorChecked
import Derived.WalkKit
section
/-
  The value of entries in tlv's words.
-/
namespace Go.Proofs.YthmimipoooemjaaGreatDoor.Sg
open Go.RowKit
open Tlv (Tr Agree)
open Sim (hid Kp No)

theorem run_oneV (t n : Int) (sb sk : Value) (w : World) : (Instr.buildSlice 201 1 #[(0, .agg #[.int .i64 t, .int .u64 n, sb, sk])]).run Tryz.prog w = .ok (.slice (some ⟨w.heap.size, 0, none⟩) 1 1) (w.alloc (.cells #[.int .i64 t, .int .u64 n, sb, sk] 203)) := by kernel_rfl
theorem plB_bd {e : Ent} (h : plB e = true) : (0 ≤ e.2.1 ∧ e.2.1 ≤ 1000000) ∧ (0 ≤ e.2.2.1 ∧ e.2.2.1 ≤ 1000000) ∧ (0 ≤ e.2.2.2 ∧ e.2.2.2 ≤ 1000000) := by
  simp [plB] at h
  omega

set_option maxHeartbeats 4000000 in
set_option maxRecDepth 100000 in
theorem value_any (w : World) (v : Value) (d : List Ent) (P : Nat → Prop) (hv : EV P w v d) (hp : ∀ e ∈ d, plB e = true) (hl : d.length ≤ 1000000) :
    Calls Tryz.prog 114 #[v] w fun e w' => ∃ a3 l3 p3 a4 l4 p4, e = .returned (.agg #[.int .i64 3, .int .u64 0, .slice a3 l3 p3, .slice a4 l4 p4]) ∧ Tlv.Rep w.heap.size w'.heap.size w' 3 (entsT d) (.slice a3 l3 p3) (.slice a4 l4 p4) ∧ Below w.heap.size w w' := by
  obtain ⟨a, c, rfl, h2, h3, h4, h5, h6⟩ := hv
  obtain ⟨n, hn⟩ : ∃ n, d.length = n := ⟨_, rfl⟩
  have HN := hid hn
  have HP := hid hp
  rw [hn] at hl h2 ⊢
  have H6 := hid h6
  have HM := hid many_none
  clear hn h2 h3 h4 h5 h6 hp
  go_enter Tryz.func114, Tryz.ntmps114
  go_wp2_with fail
  refine (HM.out _).mono ?_
  rintro e w1 ⟨rfl, hb1⟩
  have HB1 := hid hb1
  have HW : Hid (Below w.heap.size w w1) := ((Below.refl _ _).alloc (Nat.le_refl _) _).trans (hb1.mono (by simp))
  have hzw : w.heap.size < w1.heap.size := by have := hb1.size; simp at this; omega
  clear hb1 HM
  go_wp2_with fail
  go_loopw [9] (fun i wr => ∃ (k : Nat) (av : Option Addr) (cv : Nat), i = .int .i64 (k : Int) ∧ k ≤ n ∧ Hid (VI w1 d k (.slice av k cv) wr)) (fun i _ => n - (intOf i).toNat)
  case atStart => exact ⟨0, none, 0, rfl, Nat.zero_le _, VI.start w1 d⟩
  case round =>
    obtain ⟨k, av, cv, rfl, hkn, HS⟩ := hrel
    have hKw : Kp No w wr := Kp.below (HW.out.trans (HS.out.2.2.2.2.2.2.2.mono (by omega)))
    by_cases hlt : k < n
    · have hltI : (k : Int) < (n : Int) := by omega
      have hwk : IntKind.i64.wrap ((k : Int) + 1) = ((k + 1 : Nat) : Int) := by rw [IntKind.wrap_i64]; omega
      obtain ⟨e, he⟩ : ∃ e, d[k]? = some e := ⟨_, List.getElem?_eq_getElem (by rw [HN.out]; exact hlt)⟩
      have HE := hid he
      obtain ⟨g, o, rfl, _, hr⟩ := H6.out (by intro e; have := HN.out; rw [e] at this; simp at this; omega)
      have hrow := hr.kp hKw (fun x => x)
      have HX := hid (hrow.2 k e he)
      have HI := hid (inf HX.out.1)
      have HVAL : Hid (∀ V, Calls Tryz.prog 162 #[.agg (entC e).toArray] V fun e' w' => ∃ a3 l3 p3 a4 l4 p4, e' = .returned (.agg #[.int .i64 3, .int .u64 0, .slice a3 l3 p3, .slice a4 l4 p4]) ∧ Tlv.Rep V.heap.size w'.heap.size w' 2 (entT e) (.slice a3 l3 p3) (.slice a4 l4 p4) ∧ Below V.heap.size V w') := fun V => by
        obtain ⟨q0, q1, q2⟩ := plB_bd (HP.out e (List.mem_of_getElem? he))
        obtain ⟨nm, p, q, r⟩ := e
        exact entval_any nm p q r V HX.out.1 q0 q1 q2
      obtain ⟨cx, hcx⟩ : ∃ cx, entC e = cx := ⟨_, rfl⟩
      have HRX : Hid (wr.rangeAt g (o + k * 35) cx) := by rw [← hcx]; exact HX.out.2
      rw [hcx] at HI HVAL
      have hcl : cx.length = 35 := by rw [← hcx]; exact entC_length HX.out.1
      have HO1 : Hid (cx.toArray.all (·.oneCell') = true) := by rw [← hcx]; exact all_oneCell_toArray (entC_one e)
      have HC0 : Hid (∃ v0, cx[0]? = some v0) := ⟨_, List.getElem?_eq_getElem (by omega)⟩
      clear hcx hr hrow he hKw
      go_wp2_with (first
        | (refine wpList_load_mid (by rfl) 155 _ (by rfl) g (o + k * 35) (by rfl) cx _ HRX.out Tryz.underlying155 rfl HI.out ?_)
        | (refine wpList_store_box (fun W => ∀ V, Kp No W V → V.rangeAt wr.heap.size 0 cx ∧ Kp No wr V) (by rfl) 155 _ _ (by rfl) wr.heap.size 0 cx.toArray (by rfl) (by rfl) (thereE wr _ _ _ (by rw [List.size_toArray, hcl]; exact Nat.le_refl _)) HI.out HO1.out (boxE wr _ cx rfl hcl) ?_; intro W1 hW1; have HW1 := hid hW1; clear hW1))
      have HKW := hid (HW1.out W1 (Kp.refl _ _)).2
      have hbx : wr.heap.size < W1.heap.size := by
        obtain ⟨v0, hv0⟩ := HC0.out
        exact World.block_lt_of_cell? _ _ ((HW1.out W1 (Kp.refl _ _)).1 0 v0 hv0)
      have HLX : Hid (∀ V, Kp (fun x => x = w1.heap.size ∨ (Value.slice av k cv).ownBlock = some x) W1 V → V.rangeAt wr.heap.size 0 cx) := fun V hV j u hu => by
        refine (hV.cell (p := ⟨wr.heap.size, _, none⟩) hbx (fun hx => ?_)).trans ((HW1.out W1 (Kp.refl _ _)).1 j u hu)
        rcases hx with hx | hx
        · have h1 := HS.out.2.2.2.2.2.1
          have h2 : wr.heap.size = w1.heap.size := hx
          omega
        · have h1 := (HS.out.2.2.2.2.2.2.1.lt wr.heap.size hx).2
          omega
      have c3 : ∀ V, Kp No W1 V → V.cell? ⟨w1.heap.size, 3, none⟩ = some (.slice av k cv) := fun V hV => ((HW1.out V hV).2.cell (p := ⟨w1.heap.size, 3, none⟩) HS.out.2.2.2.2.2.1 (fun x => x)).trans HS.out.2.2.2.1
      clear hcl hbx
      refine wp_region_held_drew (S := fun V => Kp (fun x => x = w1.heap.size ∨ (Value.slice av k cv).ownBlock = some x) W1 V) (by kernel_rfl) ((Kp.refl _ _).drew) (fun hHeld => ?_)
      refine wpAnyH_take (i := 0) (oi := { dst := some 13, op := Op.fieldAddr 203 (Operand.tmp 3) 3, type := 0, pos := "sealed.go:53", after := #[], guard := none }) (v := .pointer (some ⟨w1.heap.size, 3, none⟩)) rfl (by kernel_rfl) (by kernel_rfl) (by kernel_rfl) (fun _ _ _ h => h) (Or.inl ⟨by rfl, fun w' hw' => by (clear hw'; go_simp)⟩) hHeld ?_
      simp only [Act.put, List.setIfInBounds_toArray, List.set_cons_zero, List.set_cons_succ]
      refine wpAnyH_take (i := 2) (oi := { dst := some 15, op := Op.load 155 (Operand.tmp 5), type := 155, pos := "sealed.go:53", after := #[], guard := none }) (v := .agg cx.toArray) rfl (by kernel_rfl) (by kernel_rfl) (by kernel_rfl) (fun _ _ _ h => h) (yieldsIf_load_mid (by rfl) _ _ rfl wr.heap.size 0 rfl cx _ (HLX.out) Tryz.underlying155 rfl HI.out) hHeld ?_
      simp only [Act.put, List.setIfInBounds_toArray, List.set_cons_zero, List.set_cons_succ]
      refine wpAnyH_ready (rs := [1, 3]) (by kernel_rfl) (by simp) ?_
      refine (AllReadyH.cons (o := { dst := some 14, op := Op.load 201 (Operand.tmp 13), type := 201, pos := "sealed.go:53", after := #[{ on := 0, ground := Ground.data }], guard := none }) rfl (fun K hK => ?_) (AllReadyH.cons (o := { dst := some 16, op := Op.call { callee := Callee.value (Operand.func 162), args := #[Operand.tmp 15], argTypes := #[155] }, type := 203, pos := "sealed.go:53", after := #[{ on := 2, ground := Ground.data }], guard := none }) rfl (fun K hK => ?_) AllReadyH.nil))
      · have q3 := c3 (W1.drew) ((Kp.refl No W1).drew)
        go_simp
        refine hK.out _ _ ((((Kp.refl No W1).drew).ofNo)) (fun hh => ?_)
        clear hK K hHeld
        have hHeld := hh
        clear hh
        try simp only [Act.put, List.setIfInBounds_toArray, List.set_cons_zero, List.set_cons_succ]
        refine wpAnyH_ready (rs := [3]) (by kernel_rfl) (by simp) ?_
        refine (AllReadyH.cons (o := { dst := some 16, op := Op.call { callee := Callee.value (Operand.func 162), args := #[Operand.tmp 15], argTypes := #[155] }, type := 203, pos := "sealed.go:53", after := #[{ on := 2, ground := Ground.data }], guard := none }) rfl (fun K hK => ?_) AllReadyH.nil)
        go_simp
        refine (HVAL.out _).mono ?_
        rintro e' w2 ⟨a3, l3, p3, a4, l4, p4, rfl, hr2, hb2⟩
        have hb2' : Below W1.heap.size W1 w2 := (Below.refl _ _).drew.trans hb2
        obtain ⟨g', cap, w4, hap, k3, kf, ks, hvi, hkp⟩ := HS.out.step HKW.out hb2' hr2 HE.out (by omega) 201
        have HK2 : Hid (Kp No W1 w2) := Kp.below hb2'
        have HAP := hid hap
        have HVI := hid hvi
        have HKP := hid hkp
        clear hap hvi hkp hr2 hb2 hb2'
        go_wp2_with fail
        refine hK.out _ _ (HK2.out.ofNo) (fun hh => ?_)
        clear hK K hHeld
        have hHeld := hh
        clear hh
        try simp only [Act.put, List.setIfInBounds_toArray, List.set_cons_zero, List.set_cons_succ]
        refine wpAnyH_ready (rs := [4]) (by kernel_rfl) (by simp) ?_
        refine (AllReadyH.cons (o := { dst := some 17, op := Op.buildSlice 201 1 #[(0, Operand.tmp 16)], type := 201, pos := "sealed.go:53", after := #[{ on := 3, ground := Ground.data }], guard := none }) rfl (fun K hK => ?_) AllReadyH.nil)
        rw [if_pos (by rfl)]
        refine wp_valE (exec_sliceE 201 _ rfl (.agg #[.int .i64 3, .int .u64 0, .slice a3 l3 p3, .slice a4 l4 p4]) _ rfl (run_oneV _ _ _ _ _)) ?_
        refine hK.out _ _ ((HK2.out.alloc _).ofNo) (fun hh => ?_)
        clear hK K hHeld
        have hHeld := hh
        clear hh
        try simp only [Act.put, List.setIfInBounds_toArray, List.set_cons_zero, List.set_cons_succ]
        refine wpAnyH_ready (rs := [5]) (by kernel_rfl) (by simp) ?_
        refine (AllReadyH.cons (o := { dst := some 18, op := Op.call { callee := Callee.builtin Builtin.append, args := #[Operand.tmp 14, Operand.tmp 17], argTypes := #[201, 201] }, type := 201, pos := "sealed.go:53", after := #[{ on := 1, ground := Ground.data }, { on := 4, ground := Ground.data }, { on := 3, ground := Ground.chain }], guard := none }) rfl (fun K hK => ?_) AllReadyH.nil)
        rw [if_pos (by rfl)]
        refine wp_valE (exec_appE _ _ 201 rfl (.slice av k cv) (.slice (some ⟨w2.heap.size, 0, none⟩) 1 1) _ rfl rfl HAP.out) ?_
        refine hK.out _ _ (HKP.out) (fun hh => ?_)
        clear hK K hHeld
        have hHeld := hh
        clear hh
        try simp only [Act.put, List.setIfInBounds_toArray, List.set_cons_zero, List.set_cons_succ]
        refine wpAnyH_take (i := 6) (oi := { dst := some 19, op := Op.fieldAddr 203 (Operand.tmp 3) 3, type := 0, pos := "sealed.go:53", after := #[{ on := 0, ground := Ground.phase }, { on := 1, ground := Ground.phase }, { on := 2, ground := Ground.phase }, { on := 3, ground := Ground.phase }, { on := 4, ground := Ground.phase }, { on := 5, ground := Ground.phase }], guard := none }) (v := .pointer (some ⟨w1.heap.size, 3, none⟩)) rfl (by kernel_rfl) (by kernel_rfl) (by kernel_rfl) (fun _ _ _ h => h) (Or.inl ⟨by rfl, fun w' hw' => by (clear hw'; go_simp)⟩) hHeld ?_
        simp only [Act.put, List.setIfInBounds_toArray, List.set_cons_zero, List.set_cons_succ]
        refine wpAnyH_ready (rs := [7]) (by kernel_rfl) (by simp) ?_
        refine (AllReadyH.cons (o := { dst := none, op := Op.store 201 (Operand.tmp 19) (Operand.tmp 18), type := 0, pos := "sealed.go:53", after := #[{ on := 6, ground := Ground.data }, { on := 5, ground := Ground.data }, { on := 5, ground := Ground.chain }, { on := 0, ground := Ground.phase }, { on := 1, ground := Ground.phase }, { on := 2, ground := Ground.phase }, { on := 3, ground := Ground.phase }, { on := 4, ground := Ground.phase }, { on := 5, ground := Ground.phase }], guard := none }) rfl (fun K hK => ?_) AllReadyH.nil)
        go_simp
        refine hK.out _ _ ((HKP.out.setCell (p := ⟨w1.heap.size, 3, none⟩) (.inl (.inl rfl)) _)) (fun hh => ?_)
        clear hK K hHeld
        have hHeld := hh
        clear hh
        try simp only [Act.put, List.setIfInBounds_toArray, List.set_cons_zero, List.set_cons_succ]
        refine wpAnyH_done (by kernel_rfl) ?_ _
        clear hHeld
        go_wp2_with fail
        go_round
        case rel => exact ⟨k + 1, some ⟨g', 0, none⟩, cap, by first | rfl | go_num, by omega, HVI.out⟩
        case measure => simp [intOf]; omega
      · go_simp
        refine (HVAL.out _).mono ?_
        rintro e' w2 ⟨a3, l3, p3, a4, l4, p4, rfl, hr2, hb2⟩
        have hb2' : Below W1.heap.size W1 w2 := (Below.refl _ _).drew.trans hb2
        obtain ⟨g', cap, w4, hap, k3, kf, ks, hvi, hkp⟩ := HS.out.step HKW.out hb2' hr2 HE.out (by omega) 201
        have HK2 : Hid (Kp No W1 w2) := Kp.below hb2'
        have HAP := hid hap
        have HVI := hid hvi
        have HKP := hid hkp
        clear hap hvi hkp hr2 hb2 hb2'
        go_wp2_with fail
        refine hK.out _ _ (HK2.out.ofNo) (fun hh => ?_)
        clear hK K hHeld
        have hHeld := hh
        clear hh
        try simp only [Act.put, List.setIfInBounds_toArray, List.set_cons_zero, List.set_cons_succ]
        refine wpAnyH_ready (rs := [1, 4]) (by kernel_rfl) (by simp) ?_
        refine (AllReadyH.cons (o := { dst := some 14, op := Op.load 201 (Operand.tmp 13), type := 201, pos := "sealed.go:53", after := #[{ on := 0, ground := Ground.data }], guard := none }) rfl (fun K hK => ?_) (AllReadyH.cons (o := { dst := some 17, op := Op.buildSlice 201 1 #[(0, Operand.tmp 16)], type := 201, pos := "sealed.go:53", after := #[{ on := 3, ground := Ground.data }], guard := none }) rfl (fun K hK => ?_) AllReadyH.nil))
        · have q3 := c3 (w2) HK2.out
          go_simp
          refine hK.out _ _ ((HK2.out.ofNo)) (fun hh => ?_)
          clear hK K hHeld
          have hHeld := hh
          clear hh
          try simp only [Act.put, List.setIfInBounds_toArray, List.set_cons_zero, List.set_cons_succ]
          refine wpAnyH_ready (rs := [4]) (by kernel_rfl) (by simp) ?_
          refine (AllReadyH.cons (o := { dst := some 17, op := Op.buildSlice 201 1 #[(0, Operand.tmp 16)], type := 201, pos := "sealed.go:53", after := #[{ on := 3, ground := Ground.data }], guard := none }) rfl (fun K hK => ?_) AllReadyH.nil)
          rw [if_pos (by rfl)]
          refine wp_valE (exec_sliceE 201 _ rfl (.agg #[.int .i64 3, .int .u64 0, .slice a3 l3 p3, .slice a4 l4 p4]) _ rfl (run_oneV _ _ _ _ _)) ?_
          refine hK.out _ _ ((HK2.out.alloc _).ofNo) (fun hh => ?_)
          clear hK K hHeld
          have hHeld := hh
          clear hh
          try simp only [Act.put, List.setIfInBounds_toArray, List.set_cons_zero, List.set_cons_succ]
          refine wpAnyH_ready (rs := [5]) (by kernel_rfl) (by simp) ?_
          refine (AllReadyH.cons (o := { dst := some 18, op := Op.call { callee := Callee.builtin Builtin.append, args := #[Operand.tmp 14, Operand.tmp 17], argTypes := #[201, 201] }, type := 201, pos := "sealed.go:53", after := #[{ on := 1, ground := Ground.data }, { on := 4, ground := Ground.data }, { on := 3, ground := Ground.chain }], guard := none }) rfl (fun K hK => ?_) AllReadyH.nil)
          rw [if_pos (by rfl)]
          refine wp_valE (exec_appE _ _ 201 rfl (.slice av k cv) (.slice (some ⟨w2.heap.size, 0, none⟩) 1 1) _ rfl rfl HAP.out) ?_
          refine hK.out _ _ (HKP.out) (fun hh => ?_)
          clear hK K hHeld
          have hHeld := hh
          clear hh
          try simp only [Act.put, List.setIfInBounds_toArray, List.set_cons_zero, List.set_cons_succ]
          refine wpAnyH_take (i := 6) (oi := { dst := some 19, op := Op.fieldAddr 203 (Operand.tmp 3) 3, type := 0, pos := "sealed.go:53", after := #[{ on := 0, ground := Ground.phase }, { on := 1, ground := Ground.phase }, { on := 2, ground := Ground.phase }, { on := 3, ground := Ground.phase }, { on := 4, ground := Ground.phase }, { on := 5, ground := Ground.phase }], guard := none }) (v := .pointer (some ⟨w1.heap.size, 3, none⟩)) rfl (by kernel_rfl) (by kernel_rfl) (by kernel_rfl) (fun _ _ _ h => h) (Or.inl ⟨by rfl, fun w' hw' => by (clear hw'; go_simp)⟩) hHeld ?_
          simp only [Act.put, List.setIfInBounds_toArray, List.set_cons_zero, List.set_cons_succ]
          refine wpAnyH_ready (rs := [7]) (by kernel_rfl) (by simp) ?_
          refine (AllReadyH.cons (o := { dst := none, op := Op.store 201 (Operand.tmp 19) (Operand.tmp 18), type := 0, pos := "sealed.go:53", after := #[{ on := 6, ground := Ground.data }, { on := 5, ground := Ground.data }, { on := 5, ground := Ground.chain }, { on := 0, ground := Ground.phase }, { on := 1, ground := Ground.phase }, { on := 2, ground := Ground.phase }, { on := 3, ground := Ground.phase }, { on := 4, ground := Ground.phase }, { on := 5, ground := Ground.phase }], guard := none }) rfl (fun K hK => ?_) AllReadyH.nil)
          go_simp
          refine hK.out _ _ ((HKP.out.setCell (p := ⟨w1.heap.size, 3, none⟩) (.inl (.inl rfl)) _)) (fun hh => ?_)
          clear hK K hHeld
          have hHeld := hh
          clear hh
          try simp only [Act.put, List.setIfInBounds_toArray, List.set_cons_zero, List.set_cons_succ]
          refine wpAnyH_done (by kernel_rfl) ?_ _
          clear hHeld
          go_wp2_with fail
          go_round
          case rel => exact ⟨k + 1, some ⟨g', 0, none⟩, cap, by first | rfl | go_num, by omega, HVI.out⟩
          case measure => simp [intOf]; omega
        · rw [if_pos (by rfl)]
          refine wp_valE (exec_sliceE 201 _ rfl (.agg #[.int .i64 3, .int .u64 0, .slice a3 l3 p3, .slice a4 l4 p4]) _ rfl (run_oneV _ _ _ _ _)) ?_
          refine hK.out _ _ ((HK2.out.alloc _).ofNo) (fun hh => ?_)
          clear hK K hHeld
          have hHeld := hh
          clear hh
          try simp only [Act.put, List.setIfInBounds_toArray, List.set_cons_zero, List.set_cons_succ]
          refine wpAnyH_ready (rs := [1]) (by kernel_rfl) (by simp) ?_
          refine (AllReadyH.cons (o := { dst := some 14, op := Op.load 201 (Operand.tmp 13), type := 201, pos := "sealed.go:53", after := #[{ on := 0, ground := Ground.data }], guard := none }) rfl (fun K hK => ?_) AllReadyH.nil)
          have q3 := c3 (w2.alloc (.cells #[.int .i64 3, .int .u64 0, .slice a3 l3 p3, .slice a4 l4 p4] 203)) (HK2.out.alloc _)
          go_simp
          refine hK.out _ _ (((HK2.out.alloc _).ofNo)) (fun hh => ?_)
          clear hK K hHeld
          have hHeld := hh
          clear hh
          try simp only [Act.put, List.setIfInBounds_toArray, List.set_cons_zero, List.set_cons_succ]
          refine wpAnyH_ready (rs := [5]) (by kernel_rfl) (by simp) ?_
          refine (AllReadyH.cons (o := { dst := some 18, op := Op.call { callee := Callee.builtin Builtin.append, args := #[Operand.tmp 14, Operand.tmp 17], argTypes := #[201, 201] }, type := 201, pos := "sealed.go:53", after := #[{ on := 1, ground := Ground.data }, { on := 4, ground := Ground.data }, { on := 3, ground := Ground.chain }], guard := none }) rfl (fun K hK => ?_) AllReadyH.nil)
          rw [if_pos (by rfl)]
          refine wp_valE (exec_appE _ _ 201 rfl (.slice av k cv) (.slice (some ⟨w2.heap.size, 0, none⟩) 1 1) _ rfl rfl HAP.out) ?_
          refine hK.out _ _ (HKP.out) (fun hh => ?_)
          clear hK K hHeld
          have hHeld := hh
          clear hh
          try simp only [Act.put, List.setIfInBounds_toArray, List.set_cons_zero, List.set_cons_succ]
          refine wpAnyH_take (i := 6) (oi := { dst := some 19, op := Op.fieldAddr 203 (Operand.tmp 3) 3, type := 0, pos := "sealed.go:53", after := #[{ on := 0, ground := Ground.phase }, { on := 1, ground := Ground.phase }, { on := 2, ground := Ground.phase }, { on := 3, ground := Ground.phase }, { on := 4, ground := Ground.phase }, { on := 5, ground := Ground.phase }], guard := none }) (v := .pointer (some ⟨w1.heap.size, 3, none⟩)) rfl (by kernel_rfl) (by kernel_rfl) (by kernel_rfl) (fun _ _ _ h => h) (Or.inl ⟨by rfl, fun w' hw' => by (clear hw'; go_simp)⟩) hHeld ?_
          simp only [Act.put, List.setIfInBounds_toArray, List.set_cons_zero, List.set_cons_succ]
          refine wpAnyH_ready (rs := [7]) (by kernel_rfl) (by simp) ?_
          refine (AllReadyH.cons (o := { dst := none, op := Op.store 201 (Operand.tmp 19) (Operand.tmp 18), type := 0, pos := "sealed.go:53", after := #[{ on := 6, ground := Ground.data }, { on := 5, ground := Ground.data }, { on := 5, ground := Ground.chain }, { on := 0, ground := Ground.phase }, { on := 1, ground := Ground.phase }, { on := 2, ground := Ground.phase }, { on := 3, ground := Ground.phase }, { on := 4, ground := Ground.phase }, { on := 5, ground := Ground.phase }], guard := none }) rfl (fun K hK => ?_) AllReadyH.nil)
          go_simp
          refine hK.out _ _ ((HKP.out.setCell (p := ⟨w1.heap.size, 3, none⟩) (.inl (.inl rfl)) _)) (fun hh => ?_)
          clear hK K hHeld
          have hHeld := hh
          clear hh
          try simp only [Act.put, List.setIfInBounds_toArray, List.set_cons_zero, List.set_cons_succ]
          refine wpAnyH_done (by kernel_rfl) ?_ _
          clear hHeld
          go_wp2_with fail
          go_round
          case rel => exact ⟨k + 1, some ⟨g', 0, none⟩, cap, by first | rfl | go_num, by omega, HVI.out⟩
          case measure => simp [intOf]; omega
    · have hltI : ¬ (k : Int) < (n : Int) := by omega
      have hkn' : k = n := by omega
      have hS := HS.out
      obtain ⟨f0, f1, f2, f3, hf, hs, hc, hw⟩ := hS
      have hc' := hc.done (by rw [List.length_take, List.length_map, HN.out]; omega)
      rw [List.take_of_length_le (by rw [List.length_map, HN.out]; omega)] at hc'
      have HC := hid hc'
      have HBW := hid hw
      have xr : ∀ o, wr.cell? ⟨w.heap.size, o, none⟩ = (#[.int .i64 0, .int .u64 0, .slice none 0 0, .slice none 0 0] : Array Value)[o]? := fun o => by
        rw [hw.cell (p := ⟨w.heap.size, o, none⟩) (by simp; omega), HB1.out.cell (p := ⟨w.heap.size, o, none⟩) (by simp), World.cell?_alloc_at _ _ _ _ rfl]
      have xf : ∀ o, wr.frozen? ⟨w.heap.size, o, none⟩ = false := fun o => by
        rw [hw.frozen (p := ⟨w.heap.size, o, none⟩) (by simp; omega), HB1.out.frozen (p := ⟨w.heap.size, o, none⟩) (by simp), World.frozen?_alloc_at _ _ _ _ rfl]
      have r0 : wr.cell? ⟨w.heap.size, 0, none⟩ = some (.int .i64 0) := xr 0
      have r1 : wr.cell? ⟨w.heap.size, 1, none⟩ = some (.int .u64 0) := xr 1
      have r2 : wr.cell? ⟨w.heap.size, 2, none⟩ = some (.slice none 0 0) := xr 2
      have r3 : wr.cell? ⟨w.heap.size, 3, none⟩ = some (.slice none 0 0) := xr 3
      clear xr hc hc' hw hKw HS hkn'
      go_wp2_with fail
      obtain ⟨q0, q1, q2, q3⟩ := Tlv.set4_read (u0 := .int .i64 3) (u1 := .int .u64 0) (u2 := .slice none 0 0) (u3 := .slice av k cv) r0 r1 r2 r3
      refine bodyPost_ret (v := .agg #[.int .i64 3, .int .u64 0, .slice none 0 0, .slice av k cv]) (by simp [results, Tryz.results114, go_sem, q0, q1, q2, q3]) rfl ⟨_, _, _, _, _, _, rfl, ⟨by simp [entsT, Tr.mk, Tlv.Tr.hd], by simp [entsT, Tr.mk, Tlv.Tr.hd], Tlv.BySl.none _ _ _, ?_⟩, ?_⟩
      · have A4 := Agree.set4 (L := w1.heap.size + 1) (B := wr.heap.size) wr (b := w.heap.size) (o0 := 0) (o1 := 1) (o2 := 2) (o3 := 3) (.inl (by omega)) (.int .i64 3) (.int .u64 0) (.slice none 0 0) (.slice av k cv)
        exact HC.out.agree (L' := w.heap.size) (fun _ _ _ r => Tlv.Rep.agree (L' := w.heap.size) A4 (by omega) (by simp) r) A4 (by omega) (by simp)
      · exact (HW.out.trans (HBW.out.mono (by omega))).trans (Tlv.bset4 (Nat.le_refl _) _ _ _ _)
end Go.Proofs.YthmimipoooemjaaGreatDoor.Sg
end

section
/-
  The form of entries, and segment.Put.
-/
namespace Go.Proofs.YthmimipoooemjaaGreatDoor.Sg
open Go.RowKit
open Tlv (Tr Agree)
open Crc (Kept)
open Sim (hid Kp No)

theorem ent_bsz {e : Ent} (hn : e.1.length = 32) {room deep : Int} (hr : 68 ≤ room) (hd : 0 < deep) : (Tlv.bsz 2 (entT e) room deep).2 = true ∧ 0 ≤ (Tlv.bsz 2 (entT e) room deep).1 ∧ (Tlv.bsz 2 (entT e) room deep).1 ≤ 68 := by
  have b1 := Tlv.nsz_bd e.2.1
  have b2 := Tlv.nsz_bd e.2.2.1
  have b3 := Tlv.nsz_bd e.2.2.2
  rw [entT, Tlv.bsz_3 _ _ _ (by omega), Tlv.lsz_go hd]
  simp only [Tlv.lszGo]
  rw [Tlv.bsz_2 _ _ _ (by omega), hn, Tlv.bsz_1 _ _ _ (by simp; omega)]
  have d1 : decide (((32 : Nat) : Int) ≤ room - 0 - 3) = true := by simp; omega
  simp only [d1, if_true]
  have d2 : decide (Tlv.nsz e.2.1 ≤ room - (0 + (3 + ((32 : Nat) : Int))) - 3) = true := by simp; omega
  simp only [d2, if_true]
  rw [Tlv.bsz_1 _ _ _ (by simp; omega)]
  have d3 : decide (Tlv.nsz e.2.2.1 ≤ room - (0 + (3 + ((32 : Nat) : Int)) + (3 + Tlv.nsz e.2.1)) - 3) = true := by simp; omega
  simp only [d3, if_true]
  rw [Tlv.bsz_1 _ _ _ (by simp; omega)]
  have d4 : decide (Tlv.nsz e.2.2.2 ≤ room - (0 + (3 + ((32 : Nat) : Int)) + (3 + Tlv.nsz e.2.1) + (3 + Tlv.nsz e.2.2.1)) - 3) = true := by simp; omega
  simp only [d4, if_true]
  refine ⟨trivial, ?_, ?_⟩ <;> simp <;> omega

theorem ents_bsz : ∀ (d : List Ent), (∀ e ∈ d, e.1.length = 32) → ∀ (room acc : Int), 0 ≤ acc → acc + 71 * (d.length : Int) ≤ room → (Tlv.lszGo (Tlv.bsz 2) room 8 acc (d.map entT)).2 = true
  | [], _, _, _, _, _ => rfl
  | e :: d, h, room, acc, h0, h1 => by
    rw [List.map_cons, Tlv.lszGo]
    simp only [List.length_cons] at h1
    obtain ⟨b1, b2, b3⟩ := ent_bsz (h e (by simp)) (room := room - acc - 3) (deep := 8 - 1) (by omega) (by omega)
    rw [if_pos b1]
    exact ents_bsz d (fun x hx => h x (by simp [hx])) room _ (by omega) (by omega)

theorem entsT_right {d : List Ent} (h : ∀ e ∈ d, e.1.length = 32) (hl : d.length ≤ 900) : (Tlv.bsz 3 (entsT d) 65535 8).2 = true := by
  rw [entsT, Tlv.bsz_3 _ _ _ (by omega), Tlv.lsz_go (by omega)]
  exact ents_bsz d h _ _ (by omega) (by omega)

/-- The form of entries, and what it is sealed. -/
def formE (d : List Ent) : List Int := Tlv.formOf 3 (entsT d)
def sealE (d : List Ent) : List Int := sealI (formE d)

theorem szT_ents {d : List Ent} (h : ∀ e ∈ d, e.1.length = 32) (hl : d.length ≤ 900) : Tlv.szT 3 (entsT d) ≠ 0 := by
  have h1 := entsT_right h hl
  have h2 := Tlv.bsz_fits 3 _ _ _ h1
  rw [Tlv.szT, if_pos h1]
  omega
theorem formE_length {d : List Ent} (h : ∀ e ∈ d, e.1.length = 32) (hl : d.length ≤ 900) : (formE d).length ≤ 65538 := by
  have h1 := entsT_right h hl
  have h2 := Tlv.bsz_fits 3 _ _ _ h1
  have h3 := Tlv.bsz_len 3 _ _ _ h1
  have h4 : (formE d).length = 3 + (Tlv.bodyOf 3 (entsT d)).length := by rw [formE]; simp [Tlv.formOf]; omega
  omega

theorem RightP.places {d : List Ent} (h : RightP d) : ∀ e ∈ d, plB e = true := fun e he => by
  obtain ⟨i, hi⟩ := List.mem_iff_getElem?.1 he
  exact (h.2 i e (List.getElem?_eq_some_iff.1 hi).1 hi).1

set_option maxHeartbeats 1000000 in
set_option maxRecDepth 100000 in
theorem put_no (ad : Addr) (w : World) (v : Value) (d : List Ent) (P : Nat → Prop) (hv : EV P w v d) (hl : d.length ≤ 1000000) (hR : ¬ RightP d) :
    Calls Tryz.prog 74 #[.pointer (some ad), v] w fun e w' => e = .returned (.tuple #[.slice none 0 0, .int .i64 1]) ∧ Kp No w w' := by
  have HR := hid (right_any w v d P hv hl)
  have HN := hid hR
  obtain ⟨a, c, rfl, _⟩ := hv
  clear hR hl
  go_enter Tryz.func74, Tryz.ntmps74
  go_wp2_with fail
  refine HR.out.mono ?_
  rintro e w1 ⟨⟨b, rfl, hb⟩, hk⟩
  have hbf : b = false := by
    cases b with
    | false => rfl
    | true => exact absurd (hb.1 rfl) HN.out
  subst hbf
  have HK := hid hk
  clear hb hk
  go_wp2_with fail
  go_ret2
  exact ⟨rfl, HK.out⟩

set_option maxHeartbeats 2000000 in
set_option maxRecDepth 100000 in
theorem put_yes (b : Nat) (w : World) (v : Value) (d : List Ent) (P : Nat → Prop) (hT : TabX w b) (hv : EV P w v d) (hR : RightP d) :
    Calls Tryz.prog 74 #[.pointer (some ⟨b, 0, none⟩), v] w fun e w' => ∃ v', e = .returned (.tuple #[v', .int .i64 0]) ∧ Crc.Own w' w.heap.size v' (nats (sealE d)) ∧ Kept b w w' ∧ TabX w' b := by
  have hok := hv.ok
  have HOK : Hid (∀ e ∈ d, e.1.length = 32) := fun e he => (hok e he).1
  have HR := hid (right_any w v d P hv (by have := hR.1; omega))
  have HRR := hid hR
  have HV := hid hv
  have HT := hid hT
  have hbw := hT.lt
  obtain ⟨a, c, rfl, _⟩ := hv
  clear hR hT hok
  go_enter Tryz.func74, Tryz.ntmps74
  go_wp2_with fail
  refine HR.out.mono ?_
  rintro e w1 ⟨⟨bb, rfl, hb⟩, hk⟩
  have hbt : bb = true := hb.2 HRR.out
  subst hbt
  have HB1 : Hid (Below w.heap.size w w1) := ⟨hk.os, hk.tape, hk.output, hk.size, fun j hj => hk.block j hj (fun x => x)⟩
  have HV1 := hid (HV.out.kept hk)
  clear hb hk
  go_wp2_with fail
  refine (value_any w1 _ d P HV1.out HRR.out.places (by have := HRR.out.1; omega)).mono ?_
  rintro e w2 ⟨a3, l3, p3, a4, l4, p4, rfl, hr2, hb2⟩
  have HR2 := hid hr2
  have HB2 : Hid (Below w.heap.size w w2) := HB1.out.trans (hb2.mono HB1.out.size)
  clear hr2 hb2
  go_wp2_with fail
  refine (Tlv.Put_yes (entsT d) _ _ _ (HR2.out.agree (Agree.refl _ _ _) (Nat.zero_le _) (Nat.le_refl _)) (szT_ents HOK.out HRR.out.1)).mono ?_
  rintro e w3 ⟨vf, rfl, hf3, hb3⟩
  obtain ⟨af, cf, rfl, hrf⟩ := id hf3
  clear hrf
  have HF3 := hid hf3
  have HB3 : Hid (Below w.heap.size w w3) := HB2.out.trans (hb3.mono HB2.out.size)
  have hz2 : w.heap.size ≤ w2.heap.size := HB2.out.size
  clear hf3 hb3
  go_wp2_with fail
  obtain ⟨f, n, hf, ht⟩ := (HT.out.below HB3.out)
  have hcf : Crc.BySl b w3 (.slice af (Tlv.formOf 3 (entsT d)).length cf) (nats (formE d)) := toCrc HF3.out.toS (fun g hg => ⟨by omega, hg.2⟩)
  refine (Crc.seal_any b f n _ (nats (formE d)) _ hf ht hcf (by rw [nats_length]; have := formE_length HOK.out HRR.out.1; omega)).mono ?_
  rintro e w4 ⟨v', rfl, ho, hk4, ht4⟩
  have HO := hid ho
  have HK4 := hid hk4
  have HT4 := hid ht4
  clear ho hk4 ht4 ht hcf hf
  go_wp2_with fail
  go_ret2
  refine ⟨v', rfl, ?_, (Kept.below HB3.out).trans HK4.out, TabX.of HT4.out⟩
  rw [sealE, sealI_nats]
  exact HO.out.mono HB3.out.size
end Go.Proofs.YthmimipoooemjaaGreatDoor.Sg
end

section
/-
  Save: the list's bytes, and the six steps in their order.
-/
namespace Go.Proofs.YthmimipoooemjaaGreatDoor.Ix
open Go.RowKit Go.Shelf
open Sim (hid Kp No PS Done Blk nm ByP)

/-- In the midst of a save. -/
def SaveSt (P : Nat → Prop) (N : Nat) (w w1 wr : World) (s b c1 c2 : Nat) (vb : Value) (bs : List Nat) (q : PS) : Prop :=
  ∃ P', Sim.Sys P' N wr s q ∧ (∀ x, P' x → P x ∨ w1.heap.size ≤ x) ∧ Kp (fun x => P x ∨ x = b) w wr ∧ w1.heap.size ≤ wr.heap.size ∧ TabX wr b ∧
    wr.cell? ⟨c1, 0, none⟩ = some (.pointer (some ⟨s, 0, none⟩)) ∧ wr.cell? ⟨c2, 0, none⟩ = some vb ∧ ByP (fun x => w.heap.size ≤ x ∧ x < w1.heap.size) wr vb bs

structure Apart (P : Nat → Prop) (w w1 : World) (b c1 c2 : Nat) : Prop where
  lt : ∀ x, P x → x < w.heap.size
  le : w.heap.size ≤ w1.heap.size
  b : b < w.heap.size ∧ ¬ P b
  c1 : w.heap.size ≤ c1 ∧ c1 < w1.heap.size
  c2 : w.heap.size ≤ c2 ∧ c2 < w1.heap.size

theorem Apart.not {P P' : Nat → Prop} {w w1 : World} {b c1 c2 : Nat} (h : Apart P w w1 b c1 c2) (hP : ∀ x, P' x → P x ∨ w1.heap.size ≤ x) : ¬ P' b ∧ (∀ x, w.heap.size ≤ x → x < w1.heap.size → ¬ P' x) := by
  refine ⟨fun e => ?_, fun x h1 h2 e => ?_⟩
  · have := h.b
    have := h.le
    rcases hP _ e with e | e
    · exact h.b.2 e
    · omega
  · rcases hP _ e with e | e
    · have := h.lt _ e; omega
    · omega

theorem SaveSt.step {P P' : Nat → Prop} {N : Nat} {w w1 wr w2 : World} {s b c1 c2 : Nat} {vb : Value} {bs : List Nat} {q : PS} (hA : Apart P w w1 b c1 c2) (hP : ∀ x, P' x → P x ∨ w1.heap.size ≤ x) (hK : Kp (fun x => P x ∨ x = b) w wr) (hs : w1.heap.size ≤ wr.heap.size)
    (hT : TabX wr b) (k1 : wr.cell? ⟨c1, 0, none⟩ = some (.pointer (some ⟨s, 0, none⟩))) (k2 : wr.cell? ⟨c2, 0, none⟩ = some vb) (hv : ByP (fun x => w.heap.size ≤ x ∧ x < w1.heap.size) wr vb bs) (hD : Done P' N wr w2 s q) :
    SaveSt P N w w1 w2 s b c1 c2 vb bs q := by
  obtain ⟨P2, hS, hk, h2⟩ := hD
  obtain ⟨n1, n2⟩ := hA.not hP
  have hl := hA.le
  refine ⟨P2, hS, fun x hx => ?_, hK.trans hk (fun x hx => ?_), Nat.le_trans hs hk.size, hT.kp hk n1, (hk.cell (p := ⟨c1, 0, none⟩) (World.block_lt_of_cell? wr _ k1) (n2 _ hA.c1.1 hA.c1.2)).trans k1, (hk.cell (p := ⟨c2, 0, none⟩) (World.block_lt_of_cell? wr _ k2) (n2 _ hA.c2.1 hA.c2.2)).trans k2, hv.kp hk (fun x hx _ hw => n2 x hw.1 hw.2 hx)⟩
  · rcases h2 x hx with e | e
    · exact hP x e
    · right; omega
  · rcases hP x hx with e | e
    · exact .inl (.inl e)
    · right; omega

/-- Files, and a table beside them: what a call leaves. -/
def DoneT (P : Nat → Prop) (N b : Nat) (w w' : World) (s : Nat) (q : PS) : Prop :=
  TabX w' b ∧ ∃ P', Sim.Sys P' N w' s q ∧ Kp (fun x => P x ∨ x = b) w w' ∧ ∀ x, P' x → P x ∨ w.heap.size ≤ x

theorem SaveSt.done {P : Nat → Prop} {N M : Nat} {w w1 wr : World} {s b c1 c2 : Nat} {vb : Value} {bs : List Nat} {q : PS} (hA : Apart P w w1 b c1 c2) (h : SaveSt P M w w1 wr s b c1 c2 vb bs q) (hM : M ≤ N) (hN : N ≤ 1000) : DoneT P N b w wr s q := by
  obtain ⟨P', h1, h2, h3, _, h5, _⟩ := h
  refine ⟨h5, P', h1.more hM hN, h3, fun x hx => ?_⟩
  rcases h2 x hx with e | e
  · exact .inl e
  · right; have := hA.le; omega

/-- What a save answers, and leaves. -/
def SaveP (bs : List Nat) (P : Nat → Prop) (N b : Nat) (w : World) (s : Nat) (p : PS) (e : Ending) (w' : World) : Prop :=
  ∃ r, Saved bs p r ∧ e = .returned (.int .i64 (r.1 : Nat)) ∧ DoneT P N b w w' s r.2

set_option maxHeartbeats 4000000 in
set_option maxRecDepth 100000 in
theorem save_any {P Q : Nat → Prop} {N : Nat} (w : World) (s b : Nat) (p : PS) (v : Value) (d : List Sg.Ent) (h : Sim.Sys P N w s p) (hN : N + 6 ≤ 1000) (hT : TabX w b) (hb : ¬ P b) (hv : Sg.EV Q w v d) (hR : Sg.RightP d) (hl : (nats (Sg.sealE d)).length ≤ 12000) (hx : ∀ x ∈ nats (Sg.sealE d), x < 256) :
    Calls Tryz.prog 34 #[.pointer (some ⟨s, 0, none⟩), .pointer (some ⟨b, 0, none⟩), v] w fun e w' => SaveP (nats (Sg.sealE d)) P (N + 6) b w s p e w' := by
  obtain ⟨av, cv, rfl, _⟩ := id hv
  have hbl := hT.lt
  have HPL := hid h.lt
  have HS := hid h
  have HPUT := hid (Sg.put_yes b w _ d Q hT hv hR)
  generalize nats (Sg.sealE d) = bs at *
  clear hv hR hT h
  go_enter Tryz.func34, Tryz.ntmps34
  go_wp2_with fail
  refine HPUT.out.mono ?_
  rintro e w0 ⟨vb, rfl, ho, hk, ht⟩
  have hoB : Sim.OwnB w0 vb bs := ⟨ho.1, by
    rcases ho.2 with ⟨h1, h2⟩ | ⟨g, cap, cur, h1, h2, h3⟩
    · exact .inl ⟨h1, h2⟩
    · exact .inr ⟨g, cap, cur, h1, Nat.zero_le _, h3⟩⟩
  have HBY : Hid (ByP (fun x => w.heap.size ≤ x ∧ x < w0.heap.size) w0 vb bs) := (hoB.byP (P := fun x => w.heap.size ≤ x ∧ x < w0.heap.size) (fun x e => ⟨ho.ge x e, hoB.row.lt x e⟩) (by omega) hx)
  obtain ⟨ab, cb, rfl, _⟩ := hoB.shape
  have HS0 := hid (sys_kept HS.out hk hb)
  have HT0 := hid ht
  have HK0 := hid (kp_kept hk)
  clear ho hoB ht hk HPUT
  go_wp2_with fail
  refine (saving_any w0 s bs.length cb ab).mono ?_
  rintro e w1 ⟨c1, c2, rfl, k1, k2, l1, l2, hB1⟩
  have hw0 : w.heap.size ≤ w0.heap.size := HK0.out.size
  have HA : Hid (Apart P w w1 b c1 c2) := ⟨HPL.out, Nat.le_trans hw0 hB1.size, ⟨hbl, hb⟩, ⟨Nat.le_trans hw0 l1, World.block_lt_of_cell? w1 _ k1⟩, ⟨Nat.le_trans hw0 l2, World.block_lt_of_cell? w1 _ k2⟩⟩
  have hKB : Kp No w0 w1 := Kp.below hB1
  have HST : Hid (SaveSt P N w w1 w1 s b c1 c2 (.slice ab bs.length cb) bs p) := ⟨P, HS0.out.kept hKB, fun x hx => .inl hx, (HK0.out.mono (fun x hx => .inl (.inr hx))).andNone hKB, Nat.le_refl _, HT0.out.below hB1, k1, k2, (HBY.out.kept hKB).mono (fun x _ hx => ⟨hx.1, Nat.lt_of_lt_of_le hx.2 hB1.size⟩)⟩
  clear k1 k2 l1 l2 hB1 hKB hw0 HBY HS0 HT0 HK0 HS
  have ix0 : ∀ V, (Instr.index 163 (.agg (fnA c1 c2 s)) (.int .i64 0)).run Tryz.prog V = .ok (.func (.func 116) #[] #[.pointer (some ⟨c1, 0, none⟩)]) V := fun V => by kernel_rfl
  have ix1 : ∀ V, (Instr.index 163 (.agg (fnA c1 c2 s)) (.int .i64 1)).run Tryz.prog V = .ok (.func (.func 118) #[] #[.pointer (some ⟨c1, 0, none⟩)]) V := fun V => by kernel_rfl
  have ix2 : ∀ V, (Instr.index 163 (.agg (fnA c1 c2 s)) (.int .i64 2)).run Tryz.prog V = .ok (.func (.func 120) #[] #[.pointer (some ⟨c1, 0, none⟩), .pointer (some ⟨c2, 0, none⟩)]) V := fun V => by kernel_rfl
  have ix3 : ∀ V, (Instr.index 163 (.agg (fnA c1 c2 s)) (.int .i64 3)).run Tryz.prog V = .ok (.func (.func 122) #[] #[.pointer (some ⟨c1, 0, none⟩)]) V := fun V => by kernel_rfl
  have ix4 : ∀ V, (Instr.index 163 (.agg (fnA c1 c2 s)) (.int .i64 4)).run Tryz.prog V = .ok (.func (.func 124) #[] #[.pointer (some ⟨c1, 0, none⟩)]) V := fun V => by kernel_rfl
  have ix5 : ∀ V, (Instr.index 163 (.agg (fnA c1 c2 s)) (.int .i64 5)).run Tryz.prog V = .ok (.func (.func 86) #[.pointer (some ⟨s, 0, none⟩)] #[]) V := fun V => by kernel_rfl
  obtain ⟨FA, hFA⟩ : ∃ FA, fnA c1 c2 s = FA := ⟨_, rfl⟩
  rw [hFA] at ix0 ix1 ix2 ix3 ix4 ix5
  rw [hFA]
  clear hFA
  go_wp2_with fail
  go_loopw [26] (fun iv wr => ∃ j : Nat, j ≤ 6 ∧ iv = .int .i64 (j : Int) ∧ Hid (∃ q, SaveSt P (N + j) w w1 wr s b c1 c2 (.slice ab bs.length cb) bs q ∧ Reach bs p j q)) (fun iv _ => 6 - (intOf iv).toNat)
  case atStart => exact ⟨0, by omega, rfl, p, HST.out, rfl⟩
  case round =>
    obtain ⟨j, hj, rfl, HS⟩ := hrel
    clear HST
    have hjj : j = 0 ∨ j = 1 ∨ j = 2 ∨ j = 3 ∨ j = 4 ∨ j = 5 ∨ j = 6 := by omega
    rcases hjj with rfl | rfl | rfl | rfl | rfl | rfl | rfl
    · obtain ⟨q, ⟨P', hS, hP, hK, hs, hT, k1, k2, hv⟩, hR⟩ := HS.out
      obtain ⟨n1, n2⟩ := HA.out.not hP
      have HCALL := hid (save1_any bs wr s c1 q hS (by omega) k1)
      have HPK := hid (fun w2 q2 (hD : Done P' (N + 0 + 1) wr w2 s q2) => SaveSt.step HA.out hP hK hs hT k1 k2 hv hD)
      have HR := hid hR
      clear HS hS hP hK hs hT k1 k2 hv n1 n2 hR
      go_wp2_with fail
      refine HCALL.out.mono ?_
      rintro e w2 ⟨r, hr, rfl, hD⟩
      have HST := hid (HPK.out w2 r.2 hD)
      have HRR := hid hr
      clear hD hr HCALL HPK
      by_cases hz : r.1 = 0
      · have HZ := hid hz
        rw [hz]
        clear hz
        go_wp2_with fail
        go_round
        case rel => exact ⟨1, by omega, by go_num, r.2, HST.out, q, HR.out, by have h := HRR.out; rw [show r = (0, r.2) from Prod.ext HZ.out rfl] at h; exact h⟩
        case measure => simp [intOf]
      · have HZ := hid hz
        obtain ⟨F, hF⟩ : ∃ F, r.1 = F := ⟨_, rfl⟩
        have HF := hid hF
        rw [hF] at hz ⊢
        have hz' : ¬ ((F : Int) = 0) := by omega
        clear hF
        go_wp2_with fail
        go_ret
        exact ⟨r, .inr ⟨HZ.out, 0, by omega, q, HR.out, HRR.out⟩, by rw [HF.out]; rfl, HST.out.done HA.out (by omega) hN⟩
    · obtain ⟨q, ⟨P', hS, hP, hK, hs, hT, k1, k2, hv⟩, hR⟩ := HS.out
      obtain ⟨n1, n2⟩ := HA.out.not hP
      have HCALL := hid (save2_any bs wr s c1 q hS (by omega) k1)
      have HPK := hid (fun w2 q2 (hD : Done P' (N + 1 + 1) wr w2 s q2) => SaveSt.step HA.out hP hK hs hT k1 k2 hv hD)
      have HR := hid hR
      clear HS hS hP hK hs hT k1 k2 hv n1 n2 hR
      go_wp2_with fail
      refine HCALL.out.mono ?_
      rintro e w2 ⟨r, hr, rfl, hD⟩
      have HST := hid (HPK.out w2 r.2 hD)
      have HRR := hid hr
      clear hD hr HCALL HPK
      by_cases hz : r.1 = 0
      · have HZ := hid hz
        rw [hz]
        clear hz
        go_wp2_with fail
        go_round
        case rel => exact ⟨2, by omega, by go_num, r.2, HST.out, q, HR.out, by have h := HRR.out; rw [show r = (0, r.2) from Prod.ext HZ.out rfl] at h; exact h⟩
        case measure => simp [intOf]
      · have HZ := hid hz
        obtain ⟨F, hF⟩ : ∃ F, r.1 = F := ⟨_, rfl⟩
        have HF := hid hF
        rw [hF] at hz ⊢
        have hz' : ¬ ((F : Int) = 0) := by omega
        clear hF
        go_wp2_with fail
        go_ret
        exact ⟨r, .inr ⟨HZ.out, 1, by omega, q, HR.out, HRR.out⟩, by rw [HF.out]; rfl, HST.out.done HA.out (by omega) hN⟩
    · obtain ⟨q, ⟨P', hS, hP, hK, hs, hT, k1, k2, hv⟩, hR⟩ := HS.out
      obtain ⟨n1, n2⟩ := HA.out.not hP
      have HCALL := hid (save3_any bs wr s c1 c2 q _ hS (by omega) k1 k2 hv (fun x hx => n2 x hx.1 hx.2) hl)
      have HPK := hid (fun w2 q2 (hD : Done P' (N + 2 + 1) wr w2 s q2) => SaveSt.step HA.out hP hK hs hT k1 k2 hv hD)
      have HR := hid hR
      clear HS hS hP hK hs hT k1 k2 hv n1 n2 hR
      go_wp2_with fail
      refine HCALL.out.mono ?_
      rintro e w2 ⟨r, hr, rfl, hD⟩
      have HST := hid (HPK.out w2 r.2 hD)
      have HRR := hid hr
      clear hD hr HCALL HPK
      by_cases hz : r.1 = 0
      · have HZ := hid hz
        rw [hz]
        clear hz
        go_wp2_with fail
        go_round
        case rel => exact ⟨3, by omega, by go_num, r.2, HST.out, q, HR.out, by have h := HRR.out; rw [show r = (0, r.2) from Prod.ext HZ.out rfl] at h; exact h⟩
        case measure => simp [intOf]
      · have HZ := hid hz
        obtain ⟨F, hF⟩ : ∃ F, r.1 = F := ⟨_, rfl⟩
        have HF := hid hF
        rw [hF] at hz ⊢
        have hz' : ¬ ((F : Int) = 0) := by omega
        clear hF
        go_wp2_with fail
        go_ret
        exact ⟨r, .inr ⟨HZ.out, 2, by omega, q, HR.out, HRR.out⟩, by rw [HF.out]; rfl, HST.out.done HA.out (by omega) hN⟩
    · obtain ⟨q, ⟨P', hS, hP, hK, hs, hT, k1, k2, hv⟩, hR⟩ := HS.out
      obtain ⟨n1, n2⟩ := HA.out.not hP
      have HCALL := hid (save4_any bs wr s c1 q hS (by omega) k1)
      have HPK := hid (fun w2 q2 (hD : Done P' (N + 3 + 1) wr w2 s q2) => SaveSt.step HA.out hP hK hs hT k1 k2 hv hD)
      have HR := hid hR
      clear HS hS hP hK hs hT k1 k2 hv n1 n2 hR
      go_wp2_with fail
      refine HCALL.out.mono ?_
      rintro e w2 ⟨r, hr, rfl, hD⟩
      have HST := hid (HPK.out w2 r.2 hD)
      have HRR := hid hr
      clear hD hr HCALL HPK
      by_cases hz : r.1 = 0
      · have HZ := hid hz
        rw [hz]
        clear hz
        go_wp2_with fail
        go_round
        case rel => exact ⟨4, by omega, by go_num, r.2, HST.out, q, HR.out, by have h := HRR.out; rw [show r = (0, r.2) from Prod.ext HZ.out rfl] at h; exact h⟩
        case measure => simp [intOf]
      · have HZ := hid hz
        obtain ⟨F, hF⟩ : ∃ F, r.1 = F := ⟨_, rfl⟩
        have HF := hid hF
        rw [hF] at hz ⊢
        have hz' : ¬ ((F : Int) = 0) := by omega
        clear hF
        go_wp2_with fail
        go_ret
        exact ⟨r, .inr ⟨HZ.out, 3, by omega, q, HR.out, HRR.out⟩, by rw [HF.out]; rfl, HST.out.done HA.out (by omega) hN⟩
    · obtain ⟨q, ⟨P', hS, hP, hK, hs, hT, k1, k2, hv⟩, hR⟩ := HS.out
      obtain ⟨n1, n2⟩ := HA.out.not hP
      have HCALL := hid (save5_any bs wr s c1 q hS (by omega) k1)
      have HPK := hid (fun w2 q2 (hD : Done P' (N + 4 + 1) wr w2 s q2) => SaveSt.step HA.out hP hK hs hT k1 k2 hv hD)
      have HR := hid hR
      clear HS hS hP hK hs hT k1 k2 hv n1 n2 hR
      go_wp2_with fail
      refine HCALL.out.mono ?_
      rintro e w2 ⟨r, hr, rfl, hD⟩
      have HST := hid (HPK.out w2 r.2 hD)
      have HRR := hid hr
      clear hD hr HCALL HPK
      by_cases hz : r.1 = 0
      · have HZ := hid hz
        rw [hz]
        clear hz
        go_wp2_with fail
        go_round
        case rel => exact ⟨5, by omega, by go_num, r.2, HST.out, q, HR.out, by have h := HRR.out; rw [show r = (0, r.2) from Prod.ext HZ.out rfl] at h; exact h⟩
        case measure => simp [intOf]
      · have HZ := hid hz
        obtain ⟨F, hF⟩ : ∃ F, r.1 = F := ⟨_, rfl⟩
        have HF := hid hF
        rw [hF] at hz ⊢
        have hz' : ¬ ((F : Int) = 0) := by omega
        clear hF
        go_wp2_with fail
        go_ret
        exact ⟨r, .inr ⟨HZ.out, 4, by omega, q, HR.out, HRR.out⟩, by rw [HF.out]; rfl, HST.out.done HA.out (by omega) hN⟩
    · obtain ⟨q, ⟨P', hS, hP, hK, hs, hT, k1, k2, hv⟩, hR⟩ := HS.out
      obtain ⟨n1, n2⟩ := HA.out.not hP
      have HCALL := hid (save6_any bs wr s q hS (by omega))
      have HPK := hid (fun w2 q2 (hD : Done P' (N + 5 + 1) wr w2 s q2) => SaveSt.step HA.out hP hK hs hT k1 k2 hv hD)
      have HR := hid hR
      clear HS hS hP hK hs hT k1 k2 hv n1 n2 hR
      go_wp2_with fail
      refine HCALL.out.mono ?_
      rintro e w2 ⟨r, hr, rfl, hD⟩
      have HST := hid (HPK.out w2 r.2 hD)
      have HRR := hid hr
      clear hD hr HCALL HPK
      by_cases hz : r.1 = 0
      · have HZ := hid hz
        rw [hz]
        clear hz
        go_wp2_with fail
        go_round
        case rel => exact ⟨6, by omega, by go_num, r.2, HST.out, q, HR.out, by have h := HRR.out; rw [show r = (0, r.2) from Prod.ext HZ.out rfl] at h; exact h⟩
        case measure => simp [intOf]
      · have HZ := hid hz
        obtain ⟨F, hF⟩ : ∃ F, r.1 = F := ⟨_, rfl⟩
        have HF := hid hF
        rw [hF] at hz ⊢
        have hz' : ¬ ((F : Int) = 0) := by omega
        clear hF
        go_wp2_with fail
        go_ret
        exact ⟨r, .inr ⟨HZ.out, 5, by omega, q, HR.out, HRR.out⟩, by rw [HF.out]; rfl, HST.out.done HA.out (by omega) hN⟩
    · have HS' := HS
      clear HS
      go_wp2_with fail
      go_ret
      obtain ⟨q, hst, hR⟩ := HS'.out
      exact ⟨(0, q), .inl ⟨rfl, hR⟩, rfl, hst.done HA.out (by omega) hN⟩

end Go.Proofs.YthmimipoooemjaaGreatDoor.Ix
end

section
/-
  The index: what is said of what is not there.
-/
namespace Go.Proofs.YthmimipoooemjaaGreatDoor.Ix
open Go.RowKit
open Sim (hid Kp No)

theorem none_nil (w : World) : Calls Tryz.prog 81 #[.pointer none] w fun e w' => e = .returned (.bool true) ∧ w' = w := by
  go_enter Tryz.func81, Tryz.ntmps81
  go_wp2_with fail
  go_ret
  exact ⟨rfl, rfl⟩
theorem len_nil (w : World) : Calls Tryz.prog 42 #[.pointer none] w fun e w' => e = .returned (.int .i64 0) ∧ w' = w := by
  go_enter Tryz.func42, Tryz.ntmps42
  go_wp2_with fail
  refine (none_nil _).mono ?_
  rintro e w1 ⟨rfl, rfl⟩
  go_wp2_with fail
  go_ret
  exact ⟨rfl, rfl⟩
theorem all_nil (w : World) : Calls Tryz.prog 40 #[.pointer none] w fun e w' => e = .returned (.slice none 0 0) ∧ w' = w := by
  go_enter Tryz.func40, Tryz.ntmps40
  go_wp2_with fail
  refine (none_nil _).mono ?_
  rintro e w1 ⟨rfl, rfl⟩
  go_wp2_with fail
  go_ret
  exact ⟨rfl, rfl⟩
theorem add_nil (w : World) (v : Value) : Calls Tryz.prog 45 #[.pointer none, v] w fun e w' => e = .returned (.int .i64 18) ∧ w' = w := by
  go_enter Tryz.func45, Tryz.ntmps45
  go_wp2_with fail
  refine (none_nil _).mono ?_
  rintro e w1 ⟨rfl, rfl⟩
  go_wp2_with fail
  go_ret
  exact ⟨rfl, rfl⟩
theorem set_nil (w : World) (v : Value) : Calls Tryz.prog 46 #[.pointer none, v] w fun e w' => e = .returned (.int .i64 18) ∧ w' = w := by
  go_enter Tryz.func46, Tryz.ntmps46
  go_wp2_with fail
  refine (none_nil _).mono ?_
  rintro e w1 ⟨rfl, rfl⟩
  go_wp2_with fail
  go_ret
  exact ⟨rfl, rfl⟩
theorem open_nil (w : World) (t h : Option Addr) : Calls Tryz.prog 39 #[.pointer none, .pointer t, .pointer h] w fun e w' => e = .returned (.tuple #[.pointer none, .bool false, .int .i64 18]) ∧ w' = w := by
  go_enter Tryz.func39, Tryz.ntmps39
  go_wp2_with fail
  refine bodyPost_ret (v := .tuple #[.pointer none, .bool false, .int .i64 18]) (by simp [results, Tryz.results39, go_sem]) rfl ⟨rfl, rfl⟩
theorem open_nilH (w : World) (s t : Addr) : Calls Tryz.prog 39 #[.pointer (some s), .pointer (some t), .pointer none] w fun e w' => e = .returned (.tuple #[.pointer none, .bool false, .int .i64 18]) ∧ w' = w := by
  go_enter Tryz.func39, Tryz.ntmps39
  go_wp2_with fail
  refine bodyPost_ret (v := .tuple #[.pointer none, .bool false, .int .i64 18]) (by simp [results, Tryz.results39, go_sem]) rfl ⟨rfl, rfl⟩
theorem load_nil (w : World) (t : Option Addr) : Calls Tryz.prog 36 #[.pointer none, .pointer t] w fun e w' => e = .returned (.tuple #[.slice none 0 0, .int .i64 18]) ∧ w' = w := by
  go_enter Tryz.func36, Tryz.ntmps36
  go_wp2_with fail
  refine bodyPost_ret (v := .tuple #[.slice none 0 0, .int .i64 18]) (by simp [results, Tryz.results36, go_sem]) rfl ⟨rfl, rfl⟩
theorem load_nilT (w : World) (s : Addr) : Calls Tryz.prog 36 #[.pointer (some s), .pointer none] w fun e w' => e = .returned (.tuple #[.slice none 0 0, .int .i64 18]) ∧ w' = w := by
  go_enter Tryz.func36, Tryz.ntmps36
  go_wp2_with fail
  refine bodyPost_ret (v := .tuple #[.slice none 0 0, .int .i64 18]) (by simp [results, Tryz.results36, go_sem]) rfl ⟨rfl, rfl⟩
theorem save_nil (w : World) (t : Option Addr) (v : Value) : Calls Tryz.prog 34 #[.pointer none, .pointer t, v] w fun e w' => e = .returned (.int .i64 18) ∧ w' = w := by
  go_enter Tryz.func34, Tryz.ntmps34
  go_wp2_with fail
  go_ret
  exact ⟨rfl, rfl⟩

set_option maxHeartbeats 1000000 in
theorem find_nil (w : World) (bh : List Value) : Calls Tryz.prog 43 #[.pointer none, .agg bh.toArray] w fun e w' => e = .returned (.tuple #[.agg #[.int .i64 0, .int .i64 0, .int .i64 0], .bool false]) ∧ Kp No w w' := by
  go_enter Tryz.func43, Tryz.ntmps43
  go_wp2_with fail
  refine (none_nil _).mono ?_
  rintro e w1 ⟨rfl, rfl⟩
  go_wp2_with fail
  have hs : (w.alloc (.cells bh.toArray 53)).heap.size = w.heap.size + 1 := by simp
  have hc : ∀ i : Nat, i < 3 → ((w.alloc (.cells bh.toArray 53)).alloc (.cells #[.int .i64 0, .int .i64 0, .int .i64 0] 51)).cell? ⟨w.heap.size + 1, i, none⟩ = some (.int .i64 0) := fun i hi => by
    rw [← hs, World.cell?_alloc_at _ _ _ _ rfl]
    match i, hi with
    | 0, _ => rfl
    | 1, _ => rfl
    | 2, _ => rfl
  have s0 := hc 0 (by omega)
  have s1 := hc 1 (by omega)
  have s2 := hc 2 (by omega)
  refine bodyPost_ret (v := .tuple #[.agg #[.int .i64 0, .int .i64 0, .int .i64 0], .bool false]) (by simp [results, Tryz.results43, go_sem, s0, s1, s2]) rfl ⟨rfl, ((Kp.refl No w).alloc _).alloc _⟩

theorem put_nil (w : World) (a : Option Addr) (n c : Nat) : Calls Tryz.prog 74 #[.pointer none, .slice a n c] w fun e w' => e = .returned (.tuple #[.slice none 0 0, .int .i64 18]) ∧ w' = w := by
  go_enter Tryz.func74, Tryz.ntmps74
  go_wp2_with fail
  refine bodyPost_ret (v := .tuple #[.slice none 0 0, .int .i64 18]) (by simp [results, Tryz.results74, go_sem]) rfl ⟨rfl, rfl⟩
theorem save_nilT (w : World) (s : Addr) (a : Option Addr) (n c : Nat) : Calls Tryz.prog 34 #[.pointer (some s), .pointer none, .slice a n c] w fun e w' => e = .returned (.int .i64 18) ∧ w' = w := by
  go_enter Tryz.func34, Tryz.ntmps34
  go_wp2_with fail
  refine (put_nil _ _ _ _).mono ?_
  rintro e w1 ⟨rfl, rfl⟩
  go_wp2_with fail
  go_ret
  exact ⟨rfl, rfl⟩

end Go.Proofs.YthmimipoooemjaaGreatDoor.Ix
end

section
/-
  An index in memory: Len, Find, become, Add.
-/
namespace Go.Proofs.YthmimipoooemjaaGreatDoor.Ix
open Go.RowKit Go.Shelf
open Sim (hid Kp No PS Done Blk nm ByP)
open Stb (Stab Srt)

def ixC (s b : Nat) (v : Value) : List Value := [.pointer (some ⟨s, 0, none⟩), .pointer (some ⟨b, 0, none⟩), v]
/-- An index at x: of the files at s, with the table at b; its list is v. -/
def IxAt (w : World) (x s b : Nat) (v : Value) : Prop := Blk w x 169 (ixC s b v)

theorem none_any (w : World) (x s b : Nat) (v : Value) (hX : IxAt w x s b v) : Calls Tryz.prog 81 #[.pointer (some ⟨x, 0, none⟩)] w fun e w' => e = .returned (.bool false) ∧ w' = w := by
  have c0 : w.cell? ⟨x, 0, none⟩ = some (.pointer (some ⟨s, 0, none⟩)) := hX.cell 0
  go_enter Tryz.func81, Tryz.ntmps81
  go_wp2_with fail
  go_ret
  exact ⟨rfl, rfl⟩

theorem len_any (w : World) (x s b n c : Nat) (a : Option Addr) (hX : IxAt w x s b (.slice a n c)) : Calls Tryz.prog 42 #[.pointer (some ⟨x, 0, none⟩)] w fun e w' => e = .returned (.int .i64 (n : Int)) ∧ w' = w := by
  have c2 : w.cell? ⟨x, 2, none⟩ = some (.slice a n c) := hX.cell 2
  have HN := hid (none_any w x s b _ hX)
  clear hX
  go_enter Tryz.func42, Tryz.ntmps42
  go_wp2_with fail
  refine HN.out.mono ?_
  rintro e w1 ⟨rfl, rfl⟩
  go_wp2_with fail
  go_ret
  exact ⟨rfl, rfl⟩

/-- What become answers, and leaves. -/
def BecP (bs : List Nat) (P : Nat → Prop) (N b x : Nat) (w : World) (s : Nat) (p : PS) (v v0 : Value) (e : Ending) (w' : World) : Prop :=
  ∃ r, Saved bs p r ∧ e = .returned (.int .i64 (r.1 : Nat)) ∧ IxAt w' x s b (if r.1 = 0 then v else v0) ∧ TabX w' b ∧
    ∃ P', Sim.Sys P' N w' s r.2 ∧ Kp (fun y => P y ∨ y = b ∨ y = x) w w' ∧ ∀ y, P' y → P y ∨ w.heap.size ≤ y

set_option maxHeartbeats 1000000 in
theorem become_any {P Q : Nat → Prop} {N : Nat} (w : World) (s b x : Nat) (p : PS) (v v0 : Value) (d : List Sg.Ent) (h : Sim.Sys P N w s p) (hN : N + 6 ≤ 1000) (hT : TabX w b) (hb : ¬ P b) (hX : IxAt w x s b v0) (hxP : ¬ P x) (hxb : x ≠ b)
    (hv : Sg.EV Q w v d) (hR : Sg.RightP d) (hl : (nats (Sg.sealE d)).length ≤ 12000) (hx : ∀ x ∈ nats (Sg.sealE d), x < 256) :
    Calls Tryz.prog 80 #[.pointer (some ⟨x, 0, none⟩), v] w fun e w' => BecP (nats (Sg.sealE d)) P (N + 6) b x w s p v v0 e w' := by
  have hld : d.length ≤ 1000000 := by have := hR.1; omega
  have HRT := hid (Sg.right_any w v d Q hv hld)
  have HRP := hid hR
  have HSV := hid (fun V (hk : Kp No w V) => save_any V s b p v d (h.kept hk) hN (hT.kp hk (fun h => h)) hb (hv.kept hk) hR hl hx)
  have HX := hid hX
  have hxl := hX.lt
  have HPL := hid h.lt
  obtain ⟨av, cv, rfl, _⟩ := id hv
  generalize nats (Sg.sealE d) = bs at *
  clear hv h hT hX hR
  go_enter Tryz.func80, Tryz.ntmps80
  go_wp2_with fail
  refine HRT.out.mono ?_
  rintro e w1 ⟨⟨rb, rfl, hrb⟩, hk1⟩
  obtain rfl : rb = true := hrb.2 HRP.out
  have HK1 := hid hk1
  have c0 : w1.cell? ⟨x, 0, none⟩ = some (.pointer (some ⟨s, 0, none⟩)) := (HX.out.kp hk1 (fun h => h)).cell 0
  have c1 : w1.cell? ⟨x, 1, none⟩ = some (.pointer (some ⟨b, 0, none⟩)) := (HX.out.kp hk1 (fun h => h)).cell 1
  clear hk1 hrb HRT
  go_wp2_with fail
  go_region_with (go_at_call 34; refine (HSV.out _ (HK1.out.drew)).mono ?_; rintro e w2 ⟨r, hr, rfl, hD⟩; have HD := hid (And.intro hr hD); clear hr hD)
  all_goals
    have HF : Hid (TabX w2 b ∧ ∃ P', Sim.Sys P' (N + 6) w2 s r.2 ∧ Kp (fun y => P y ∨ y = b) w w2 ∧ (∀ y, P' y → P y ∨ w.heap.size ≤ y) ∧ IxAt w2 x s b v0 ∧ ¬ P' x) := by
      obtain ⟨_, ht, P', h1, h2, h3⟩ := HD.out
      have hk := HK1.out.drew
      have hkk : Kp (fun y => P y ∨ y = b) w w2 := hk.ofNo.trans h2 (fun y hy => .inl hy)
      refine ⟨ht, P', h1, hkk, fun y hy => ?_, HX.out.kp hkk (fun e => ?_), fun e => ?_⟩
      · rcases h3 y hy with e | e
        · exact .inl e
        · right; have := hk.size; omega
      · rcases e with e | e
        · exact hxP e
        · exact hxb e
      · rcases h3 x e with e | e
        · exact hxP e
        · have := hk.size; omega
    have HSD := hid HD.out.1
    clear HD HSV HK1 c0 c1
    by_cases hz : r.1 = 0
    · have HZ := hid hz
      rw [hz]
      have hx2 : w2.cell? ⟨x, 2, none⟩ = some v0 := HF.out.2.choose_spec.2.2.2.1.cell 2
      have hf2 : w2.frozen? ⟨x, 2, none⟩ = false := HF.out.2.choose_spec.2.2.2.1.frozen 2
      clear hz
      go_wp2_with fail
      go_ret
      obtain ⟨ht, P', h1, h2, h3, h4, h5⟩ := HF.out
      have hs : Kp (fun y => y = x) w2 (w2.setCell ⟨x, 2, none⟩ (.slice av d.length cv)) := Kp.setCell (p := ⟨x, 2, none⟩) (Kp.refl (fun y => y = x) w2) (.inl rfl) _
      refine ⟨r, HSD.out, by rw [HZ.out]; rfl, ?_, ht.kp hs (fun e => hxb e.symm), P', h1.kp hs (fun y hy => by rw [hy]; exact h5), (h2.mono (fun y hy => .inl (by rcases hy with e | e; exact .inl e; exact .inr (.inl e)))).trans hs (fun y hy => .inl (.inr (.inr hy))), h3⟩
      rw [if_pos HZ.out]
      exact Blk.setCell h4 2 _
    · have HZ := hid hz
      obtain ⟨F, hF⟩ : ∃ F, r.1 = F := ⟨_, rfl⟩
      have HFF := hid hF
      rw [hF] at hz ⊢
      have hz' : ¬ ((F : Int) = 0) := by omega
      clear hF
      go_wp2_with fail
      go_ret
      obtain ⟨ht, P', h1, h2, h3, h4, h5⟩ := HF.out
      refine ⟨r, HSD.out, by rw [HFF.out]; rfl, ?_, ht, P', h1, h2.mono (fun y hy => .inl (by rcases hy with e | e; exact .inl e; exact .inr (.inl e))), h3⟩
      rw [if_neg HZ.out]
      exact h4

set_option maxHeartbeats 1000000 in
theorem add_any {P Q Q0 : Nat → Prop} {N : Nat} (w : World) (s b x : Nat) (p : PS) (v v0 : Value) (d d0 : List Sg.Ent) (h : Sim.Sys P N w s p) (hN : N + 6 ≤ 1000) (hT : TabX w b) (hb : ¬ P b) (hX : IxAt w x s b v0) (hxP : ¬ P x) (hxb : x ≠ b)
    (h0 : Sg.EV Q0 w v0 d0) (hv : Sg.EV Q w v d) (hl : d0.length + d.length ≤ 900) (hR : ∀ X, Stab Sg.ky (d0 ++ d) X → Srt Sg.ky Sg.lexB X → Sg.RightP (Sg.cmpct X) ∧ (nats (Sg.sealE (Sg.cmpct X))).length ≤ 12000 ∧ ∀ x ∈ nats (Sg.sealE (Sg.cmpct X)), x < 256) :
    Calls Tryz.prog 45 #[.pointer (some ⟨x, 0, none⟩), v] w fun e w' => ∃ X r w1, Stab Sg.ky (d0 ++ d) X ∧ Srt Sg.ky Sg.lexB X ∧ Kp No w w1 ∧ Sg.EV (fun g => w.heap.size ≤ g) w1 r (Sg.cmpct X) ∧ BecP (nats (Sg.sealE (Sg.cmpct X))) P (N + 6) b x w1 s p r v0 e w' := by
  have HJ := hid (Sg.join_any w v0 v d0 d Q0 Q h0 hv (by omega))
  have HN := hid (none_any w x s b v0 hX)
  have c2 : w.cell? ⟨x, 2, none⟩ = some v0 := hX.cell 2
  have HB := hid (fun w1 (hk : Kp No w w1) r X (hs : Stab Sg.ky (d0 ++ d) X) (hr : Srt Sg.ky Sg.lexB X) (hv : Sg.EV (fun g => w.heap.size ≤ g) w1 r (Sg.cmpct X)) => become_any w1 s b x p r v0 (Sg.cmpct X) (h.kept hk) hN (hT.kp hk (fun h => h)) hb (hX.kp hk (fun h => h)) hxP hxb hv (hR X hs hr).1 (hR X hs hr).2.1 (hR X hs hr).2.2)
  obtain ⟨av, cv, rfl, _⟩ := id hv
  obtain ⟨a0, c0, rfl, _⟩ := id h0
  clear h hT hX h0 hv hR
  go_enter Tryz.func45, Tryz.ntmps45
  go_wp2_with fail
  refine HN.out.mono ?_
  rintro e w0 ⟨rfl, rfl⟩
  go_wp2_with fail
  refine HJ.out.mono ?_
  rintro e w1 ⟨r, X, rfl, hs, hr, hk, hv⟩
  obtain ⟨ar, cr, rfl, _⟩ := id hv
  have HC := hid (HB.out w1 hk _ X hs hr hv)
  have HG := hid (And.intro hs (And.intro hr (And.intro hk hv)))
  clear hs hr hk hv HB HJ
  generalize (Sg.cmpct X).length = n at *
  go_wp2_with fail
  refine HC.out.mono ?_
  rintro e w2 hbp
  obtain ⟨rr, hsv, rfl, hrest⟩ := id hbp
  have HBP := hid hbp
  clear hbp hsv hrest
  generalize rr.1 = F at *
  go_wp2_with fail
  go_ret
  exact ⟨X, _, w1, HG.out.1, HG.out.2.1, HG.out.2.2.1, HG.out.2.2.2, HBP.out⟩

end Go.Proofs.YthmimipoooemjaaGreatDoor.Ix
end

section
/-
  A pack is loaded.
-/
namespace Go.Proofs.YthmimipoooemjaaGreatDoor
open Go.RowKit Go.Shelf
open Tlv (BySlS)
open Sim (hid Kp No PS Done Blk nm finds pBytes OwnB)
end Go.Proofs.YthmimipoooemjaaGreatDoor
end

section
/-
  What a seal takes: the two closures.
-/
namespace Go.Proofs.YthmimipoooemjaaGreatDoor
open Go.RowKit Go.Shelf
open Sim (hid Kp No PS Done Blk nm finds pFsync pRename pSyncDir)
end Go.Proofs.YthmimipoooemjaaGreatDoor
end

section
/-
  What a seal takes, laid in an array; Seal.
-/
namespace Go.Proofs.YthmimipoooemjaaGreatDoor
open Go.RowKit Go.Shelf
open Sim (hid Kp No PS Done Blk nm finds pFsync pRename pSyncDir)
end Go.Proofs.YthmimipoooemjaaGreatDoor
end

section
/-
  Seal.
-/
namespace Go.Proofs.YthmimipoooemjaaGreatDoor
open Go.RowKit Go.Shelf
open Sim (hid Kp No PS Done Blk nm finds pFsync pRename pSyncDir)
/-- In the midst of a seal. -/
def SealSt (P : Nat → Prop) (N : Nat) (w w1 wr : World) (g s b i : Nat) (sz ct : Int) (c1 c3 c4 : Nat) (q : PS) : Prop :=
  ∃ P', Sim.Sys P' N wr s q ∧ (∀ x, P' x → P x ∨ w1.heap.size ≤ x) ∧ Kp (fun x => P x ∨ x = g) w wr ∧ w1.heap.size ≤ wr.heap.size ∧ WrAt wr g s b i sz ct true ∧ TabX wr b ∧
    wr.cell? ⟨c1, 0, none⟩ = some (.pointer (some ⟨g, 0, none⟩)) ∧ wr.cell? ⟨c3, 0, none⟩ = some (.string (nameT i)) ∧ wr.cell? ⟨c4, 0, none⟩ = some (.string (nameP i))

/-- What is told apart: blocks of the files, of the writer, of the table, of the variables. -/
structure Apart (P : Nat → Prop) (w w1 : World) (g b c1 c3 c4 : Nat) : Prop where
  lt : ∀ x, P x → x < w.heap.size
  le : w.heap.size ≤ w1.heap.size
  g : g < w.heap.size ∧ ¬ P g
  b : b < w.heap.size ∧ ¬ P b
  c1 : w.heap.size ≤ c1 ∧ c1 < w1.heap.size
  c3 : w.heap.size ≤ c3 ∧ c3 < w1.heap.size
  c4 : w.heap.size ≤ c4 ∧ c4 < w1.heap.size

theorem Apart.not {P P' : Nat → Prop} {w w1 : World} {g b c1 c3 c4 : Nat} (h : Apart P w w1 g b c1 c3 c4) (hP : ∀ x, P' x → P x ∨ w1.heap.size ≤ x) : ¬ P' g ∧ ¬ P' b ∧ ¬ P' c1 ∧ ¬ P' c3 ∧ ¬ P' c4 := by
  have hl := h.le
  have hg := h.g
  have hb := h.b
  have h1 := h.c1
  have h3 := h.c3
  have h4 := h.c4
  refine ⟨fun e => ?_, fun e => ?_, fun e => ?_, fun e => ?_, fun e => ?_⟩
  · rcases hP _ e with e | e
    · exact hg.2 e
    · omega
  · rcases hP _ e with e | e
    · exact hb.2 e
    · omega
  · rcases hP _ e with e | e
    · have := h.lt _ e; omega
    · omega
  · rcases hP _ e with e | e
    · have := h.lt _ e; omega
    · omega
  · rcases hP _ e with e | e
    · have := h.lt _ e; omega
    · omega

theorem SealSt.step {P P' : Nat → Prop} {N : Nat} {w w1 wr w2 : World} {g s b i : Nat} {sz ct : Int} {c1 c3 c4 : Nat} {q : PS} (hA : Apart P w w1 g b c1 c3 c4) (hP : ∀ x, P' x → P x ∨ w1.heap.size ≤ x) (hK : Kp (fun x => P x ∨ x = g) w wr) (hs : w1.heap.size ≤ wr.heap.size)
    (hW : WrAt wr g s b i sz ct true) (hT : TabX wr b) (k1 : wr.cell? ⟨c1, 0, none⟩ = some (.pointer (some ⟨g, 0, none⟩))) (k3 : wr.cell? ⟨c3, 0, none⟩ = some (.string (nameT i))) (k4 : wr.cell? ⟨c4, 0, none⟩ = some (.string (nameP i))) (hD : Done P' N wr w2 s q) :
    SealSt P N w w1 w2 g s b i sz ct c1 c3 c4 q := by
  obtain ⟨P2, hS, hk, h2⟩ := hD
  obtain ⟨n1, n2, n3, n4, n5⟩ := hA.not hP
  have hl := hA.le
  refine ⟨P2, hS, fun x hx => ?_, hK.trans hk (fun x hx => ?_), Nat.le_trans hs hk.size, hW.kp hk n1, hT.kp hk n2, (hk.cell (p := ⟨c1, 0, none⟩) (World.block_lt_of_cell? wr _ k1) n3).trans k1, (hk.cell (p := ⟨c3, 0, none⟩) (World.block_lt_of_cell? wr _ k3) n4).trans k3, (hk.cell (p := ⟨c4, 0, none⟩) (World.block_lt_of_cell? wr _ k4) n5).trans k4⟩
  · rcases h2 x hx with e | e
    · exact hP x e
    · right; omega
  · rcases hP x hx with e | e
    · exact .inl (.inl e)
    · right; omega

def Sealed (P : Nat → Prop) (N : Nat) (w w' : World) (g s b i : Nat) (sz ct : Int) (q : PS) : Prop :=
  WrAt w' g s b i sz ct true ∧ TabX w' b ∧ ∃ P', Sim.Sys P' (N + 3) w' s q ∧ Kp (fun x => P x ∨ x = g) w w' ∧ ∀ x, P' x → P x ∨ w.heap.size ≤ x
theorem SealSt.end {P : Nat → Prop} {N M : Nat} {w w1 wr : World} {g s b i : Nat} {sz ct : Int} {c1 c3 c4 : Nat} {q : PS} (hA : Apart P w w1 g b c1 c3 c4) (h : SealSt P M w w1 wr g s b i sz ct c1 c3 c4 q) (hM : M ≤ N + 3) (hN : N + 3 ≤ 1000) : Sealed P N w wr g s b i sz ct q := by
  obtain ⟨P', h1, h2, h3, _, h5, h6, _⟩ := h
  refine ⟨h5, h6, P', h1.more hM hN, h3, fun x hx => ?_⟩
  rcases h2 x hx with e | e
  · exact .inl e
  · right; have := hA.le; omega

end Go.Proofs.YthmimipoooemjaaGreatDoor
end

section
/-
  Plain mathematics of a pack: one file made, written, synced, moved.
-/
namespace Go.Proofs.YthmimipoooemjaaGreatDoor.Sim

def startPS (room : Nat) : PS := ⟨room, false, [], [], [], false, false, 0, 0, fun _ => none⟩

section
variable {t n : Nm} {r b : Nat} {ys : List Nat}

theorem start_finds (hn : nameB n = true) : finds (startPS r) n = 5 := by simp [finds, wrongs, startPS, hn, dfind]

def q1 (t : Nm) (r b : Nat) : PS := chgd ⟨0, t, [], b⟩ (setF b ⟨[], 0⟩ (tick (startPS r)))
def q2 (t : Nm) (r b : Nat) (ys : List Nat) : PS := setF b ⟨ys, 0⟩ (tick (q1 t r b))
def q3 (t : Nm) (r b : Nat) (ys : List Nat) : PS := setF b ⟨ys, ys.length⟩ (tick (q2 t r b ys))
def q4 (t n : Nm) (r b : Nat) (ys : List Nat) : PS := chgd ⟨2, t, n, 0⟩ (tick (q3 t r b ys))
def q5 (t n : Nm) (r b : Nat) (ys : List Nat) : PS := settle (q4 t n r b ys).chg.length (tick (q4 t n r b ys))
end
end Go.Proofs.YthmimipoooemjaaGreatDoor.Sim
end

section
/-
  Plain mathematics of a pack with many records: one file that is appended to, synced and moved, on a disk that goes down at any step; and what is there once it is up again.
-/
namespace Go.Proofs.YthmimipoooemjaaGreatDoor.Sim

/-- One file x, whatever is seen of it. -/
def one (d ar : Bool) (lf st : Nat) (sn : Dir) (cg : List PC) (sa : Dir) (r x : Nat) (f : Fl) : PS := ⟨r, true, sn, sa, cg, d, ar, lf, st, fun y => if y = x then some f else none⟩
theorem one_setF (d ar : Bool) (lf st : Nat) (sn : Dir) (cg : List PC) (sa : Dir) (r x : Nat) (f g : Fl) : setF x g (one d ar lf st sn cg sa r x f) = one d ar lf st sn cg sa r x g := by
  simp only [setF, one, PS.mk.injEq, true_and]
  funext y
  by_cases h : y = x <;> simp [h]
theorem one_fileAt (d ar : Bool) (lf st : Nat) (sn : Dir) (cg : List PC) (sa : Dir) (r x : Nat) (f : Fl) : fileAt (one d ar lf st sn cg sa r x f) x = f := by simp [fileAt, one]
theorem one_tick (d ar : Bool) (lf st : Nat) (sn : Dir) (cg : List PC) (sa : Dir) (r x : Nat) (f : Fl) : tick (one d ar lf st sn cg sa r x f) = one d ar (if ar then lf - 1 else lf) (st + 1) sn cg sa r x f := rfl
theorem one_fall (d ar : Bool) (lf st : Nat) (sn : Dir) (cg : List PC) (sa : Dir) (r x : Nat) (f : Fl) : fall (one d ar lf st sn cg sa r x f) = one true ar lf st sn cg sa r x f := rfl
theorem one_dead (d ar : Bool) (lf st : Nat) (sn : Dir) (cg : List PC) (sa : Dir) (r x : Nat) (f : Fl) : dead (one d ar lf st sn cg sa r x f) = (ar && lf == 0) := rfl

section
variable {t n : Nm} {r x : Nat} {ar d : Bool} {ys bs : List Nat} {p : PS}

def start (r : Nat) (ar : Bool) (lf : Nat) : PS := { startPS r with armed := ar, left := lf }
/-- The pack is begun: the file is seen under its temporary name. -/
def Beg (t : Nm) (r x : Nat) (ar d : Bool) (ys : List Nat) (p : PS) : Prop := (d = true → ar = true) ∧ ∃ lf st, p = one d ar lf st [(t, x)] [⟨0, t, [], x⟩] [] r x ⟨ys, 0⟩

theorem Beg.down (h : Beg t r x ar d ys p) : p.down = d := by obtain ⟨_, _, _, rfl⟩ := h; rfl
theorem Beg.finds (h : Beg t r x ar d ys p) (ht : nameB t = true) : finds p t = if d then 12 else 0 := by
  obtain ⟨_, lf, st, rfl⟩ := h
  cases d <;> simp [Sim.finds, wrongs, one, ht, dfind]
theorem Beg.block (h : Beg t r x ar d ys p) : blockOf p t = x := by obtain ⟨_, lf, st, rfl⟩ := h; simp [blockOf, one, dfind]
theorem Beg.file (h : Beg t r x ar d ys p) : fileAt p x = ⟨ys, 0⟩ := by obtain ⟨_, lf, st, rfl⟩ := h; exact one_fileAt ..
theorem Beg.used (h : Beg t r x ar d ys p) : used p = ys.length := by
  have hf := h.file
  obtain ⟨_, lf, st, rfl⟩ := h
  show (([(t, x)] : Dir).map fun e => (fileAt (one d ar lf st [(t, x)] [⟨0, t, [], x⟩] [] r x ⟨ys, 0⟩) e.2).b.length).sum = _
  simp [hf]
theorem Beg.room (h : Beg t r x ar d ys p) : p.room = r := by obtain ⟨_, lf, st, rfl⟩ := h; rfl
theorem Beg.append (h : Beg t r x ar d ys p) (ht : nameB t = true) (hl : ys.length + bs.length ≤ r) :
    ((pAppend t bs p).1 = 12 ∧ ar = true ∧ Beg t r x ar true ys (pAppend t bs p).2) ∨ ((pAppend t bs p).1 = 0 ∧ d = false ∧ Beg t r x ar false (ys ++ bs) (pAppend t bs p).2) := by
  cases d with
  | true =>
    have e : pAppend t bs p = (12, p) := by rw [pAppend, h.finds ht]; simp
    rw [e]
    exact .inl ⟨rfl, h.1 rfl, h⟩
  | false =>
    have e : pAppend t bs p = stp p (setF x ⟨ys ++ bs, 0⟩) := by
      rw [pAppend, h.finds ht, if_neg (by simp), h.used, h.room, if_neg (by omega), h.block, h.file]
    rw [e, stp]
    obtain ⟨_, lf, st, rfl⟩ := h
    rw [one_dead, one_fall, one_tick, one_setF]
    cases hd : (ar && lf == 0) with
    | true =>
      rw [if_pos rfl]
      have ha : ar = true := by simp at hd; exact hd.1
      exact .inl ⟨rfl, ha, fun _ => ha, lf, st, rfl⟩
    | false =>
      rw [if_neg (by simp)]
      exact .inr ⟨rfl, rfl, by simp, _, _, rfl⟩

/-- How far a sealing came: 0: nothing of it is safe; 1: the bytes are; 2: they are moved; 3: that is safe. -/
def SealR (t n : Nm) (r x : Nat) (ys : List Nat) (k : Nat) (p : PS) : Prop :=
  ∃ d ar lf st, (k = 0 ∧ p = one d ar lf st [(t, x)] [⟨0, t, [], x⟩] [] r x ⟨ys, 0⟩) ∨ (k = 1 ∧ p = one d ar lf st [(t, x)] [⟨0, t, [], x⟩] [] r x ⟨ys, ys.length⟩) ∨
    (k = 2 ∧ p = one d ar lf st [(n, x)] [⟨0, t, [], x⟩, ⟨2, t, n, 0⟩] [] r x ⟨ys, ys.length⟩) ∨ (k = 3 ∧ p = one d ar lf st [(n, x)] [] [(n, x)] r x ⟨ys, ys.length⟩)
/-- What there is once it is up again: 0: nothing; 1: the temporary name; 2: the pack, whole. -/
def UpR (t n : Nm) (x : Nat) (ys : List Nat) (c : Nat) (p : PS) : Prop :=
  p.down = false ∧ p.armed = false ∧ p.chg = [] ∧ ((c = 0 ∧ p.seen = []) ∨ (c = 1 ∧ p.seen = [(t, x)]) ∨ (c = 2 ∧ p.seen = [(n, x)] ∧ (fileAt p x).b = ys))
theorem lose_whole (k : Int) : (lose k ⟨ys, ys.length⟩).b = ys := by simp [lose]
theorem loses_chg (cuts : List Int) : ∀ (l : Dir) (i : Nat) (q : PS), (loses l i cuts q).chg = q.chg
  | [], _, _ => rfl
  | _ :: l, i, q => by rw [loses, loses_chg cuts l]; rfl
theorem SealR.up {k : Nat} (h : SealR t n r x ys k p) (z : Int) (cuts : List Int) : ∃ c, UpR t n x ys c (pUp z cuts p) ∧ (k = 3 → c = 2) ∧ (k < 2 → c < 2) := by
  obtain ⟨d, ar, lf, st, h⟩ := h
  rcases h with ⟨rfl, rfl⟩ | ⟨rfl, rfl⟩ | ⟨rfl, rfl⟩ | ⟨rfl, rfl⟩
  · obtain ⟨m, hm, hm1⟩ : ∃ m, min (max z 0).toNat 1 = m ∧ m ≤ 1 := ⟨_, rfl, by omega⟩
    have e : pUp z cuts (one d ar lf st [(t, x)] [⟨0, t, [], x⟩] [] r x ⟨ys, 0⟩) = (let q := settle m (one d ar lf st [(t, x)] [⟨0, t, [], x⟩] [] r x ⟨ys, 0⟩); let r := loses q.safe 0 cuts q; { r with seen := r.safe, down := false, armed := false, left := 0 }) := by rw [← hm]; rfl
    rw [e]
    have : m = 0 ∨ m = 1 := by omega
    rcases this with rfl | rfl
    · exact ⟨0, ⟨rfl, rfl, loses_chg _ _ _ _, .inl ⟨rfl, rfl⟩⟩, by omega, by omega⟩
    · refine ⟨1, ⟨rfl, rfl, loses_chg _ _ _ _, .inr (.inl ⟨rfl, ?_⟩)⟩, by omega, by omega⟩
      simp [settle, one, pdo, dput, ddel, dins, loses, setF]
  · obtain ⟨m, hm, hm1⟩ : ∃ m, min (max z 0).toNat 1 = m ∧ m ≤ 1 := ⟨_, rfl, by omega⟩
    have e : pUp z cuts (one d ar lf st [(t, x)] [⟨0, t, [], x⟩] [] r x ⟨ys, ys.length⟩) = (let q := settle m (one d ar lf st [(t, x)] [⟨0, t, [], x⟩] [] r x ⟨ys, ys.length⟩); let r := loses q.safe 0 cuts q; { r with seen := r.safe, down := false, armed := false, left := 0 }) := by rw [← hm]; rfl
    rw [e]
    have : m = 0 ∨ m = 1 := by omega
    rcases this with rfl | rfl
    · exact ⟨0, ⟨rfl, rfl, loses_chg _ _ _ _, .inl ⟨rfl, rfl⟩⟩, by omega, by omega⟩
    · refine ⟨1, ⟨rfl, rfl, loses_chg _ _ _ _, .inr (.inl ⟨rfl, ?_⟩)⟩, by omega, by omega⟩
      simp [settle, one, pdo, dput, ddel, dins, loses, setF]
  · obtain ⟨m, hm, hm1⟩ : ∃ m, min (max z 0).toNat 2 = m ∧ m ≤ 2 := ⟨_, rfl, by omega⟩
    have e : pUp z cuts (one d ar lf st [(n, x)] [⟨0, t, [], x⟩, ⟨2, t, n, 0⟩] [] r x ⟨ys, ys.length⟩) = (let q := settle m (one d ar lf st [(n, x)] [⟨0, t, [], x⟩, ⟨2, t, n, 0⟩] [] r x ⟨ys, ys.length⟩); let r := loses q.safe 0 cuts q; { r with seen := r.safe, down := false, armed := false, left := 0 }) := by rw [← hm]; rfl
    rw [e]
    have : m = 0 ∨ m = 1 ∨ m = 2 := by omega
    rcases this with rfl | rfl | rfl
    · exact ⟨0, ⟨rfl, rfl, loses_chg _ _ _ _, .inl ⟨rfl, rfl⟩⟩, by omega, by omega⟩
    · refine ⟨1, ⟨rfl, rfl, loses_chg _ _ _ _, .inr (.inl ⟨rfl, ?_⟩)⟩, by omega, by omega⟩
      simp [settle, one, pdo, dput, ddel, dins, loses, setF]
    · refine ⟨2, ⟨rfl, rfl, loses_chg _ _ _ _, .inr (.inr ⟨rfl, ?_, ?_⟩)⟩, by omega, by omega⟩
      · simp [settle, one, pdo, dput, ddel, dins, dfind, loses, setF]
      · simp [settle, one, pdo, dput, ddel, dins, dfind, loses, setF, fileAt, lose_whole]
  · have e : pUp z cuts (one d ar lf st [(n, x)] [] [(n, x)] r x ⟨ys, ys.length⟩) = (let q := settle 0 (one d ar lf st [(n, x)] [] [(n, x)] r x ⟨ys, ys.length⟩); let r := loses q.safe 0 cuts q; { r with seen := r.safe, down := false, armed := false, left := 0 }) := by
      have h0 : min (max z 0).toNat (one d ar lf st [(n, x)] [] [(n, x)] r x ⟨ys, ys.length⟩).chg.length = 0 := Nat.min_zero _
      rw [pUp, h0]
    rw [e]
    refine ⟨2, ⟨rfl, rfl, loses_chg _ _ _ _, .inr (.inr ⟨rfl, ?_, ?_⟩)⟩, by omega, by omega⟩
    · simp [settle, one, loses, setF]
    · simp [settle, one, loses, setF, fileAt, lose_whole]

variable {c : Nat}
end
end Go.Proofs.YthmimipoooemjaaGreatDoor.Sim
namespace Go.Proofs.YthmimipoooemjaaGreatDoor
open Sim (Beg SealR nm nameB PS)

section
variable {i r x : Nat} {ar d : Bool} {ys : List Nat} {p : PS}
/-- A record more, or a fault. -/
theorem beg_add (h : Beg (nm (nameT i)) r x ar d ys p) (ht : nameB (nm (nameT i)) = true) (sz ct : Nat) (X : List Int) (R : Bool) (hl : ys.length = sz) (hr : 12000 ≤ r) :
    (∃ (f : Int) (d' : Bool) (q : PS), f ≠ 0 ∧ addF i sz ct X R p = (0, f, q, sz, ct) ∧ Beg (nm (nameT i)) r x ar d' ys q) ∨
    (R = true ∧ sz + X.length ≤ 12000 ∧ ∃ q, addF i sz ct X R p = ((sz : Int), 0, q, sz + X.length, ct + 1) ∧ Beg (nm (nameT i)) r x ar false (ys ++ nats X) q) := by
  cases R with
  | false => exact .inl ⟨1, d, p, by omega, by simp [addF], h⟩
  | true =>
    by_cases h12 : 12000 < sz + X.length
    · exact .inl ⟨2, d, p, by omega, by simp [addF, h12], h⟩
    · rcases h.append (bs := nats X) ht (by rw [nats_length]; omega) with ⟨h1, _, h2⟩ | ⟨h1, _, h2⟩
      · refine .inl ⟨12, true, _, by omega, ?_, h2⟩
        rw [addF, if_neg (by simp), if_neg h12, h1, if_neg (by omega)]
        rfl
      · refine .inr ⟨rfl, by omega, _, ?_, h2⟩
        rw [addF, if_neg (by simp), if_neg h12, h1, if_pos rfl]
end
end Go.Proofs.YthmimipoooemjaaGreatDoor
end

section
/-
  A record of a pack is got.
-/
namespace Go.Proofs.YthmimipoooemjaaGreatDoor
open Go.RowKit Go.Shelf
open Tlv (BySlS)
open Sim (hid Kp No PS Done Blk nm finds pBytes OwnB)
end Go.Proofs.YthmimipoooemjaaGreatDoor
end

section
/-
  Plain mathematics: frames laid one behind the other, and cut off anywhere, are scanned to those that are whole.
-/
namespace Go.Proofs.YthmimipoooemjaaGreatDoor

abbrev Rec : Type := Int × List Int × List Int
def frOf (r : Rec) : List Int := frameR r.1 r.2.1 r.2.2
def Rt (r : Rec) : Prop := RightR r.1 r.2.1 r.2.2
/-- Frames, one behind the other. -/
def cat : List Rec → List Int
  | [] => []
  | r :: rs => frOf r ++ cat rs
theorem cat_snoc (r : Rec) : ∀ rs : List Rec, cat (rs ++ [r]) = cat rs ++ frOf r
  | [] => by simp [cat]
  | x :: rs => by rw [List.cons_append, cat, cat, cat_snoc r rs, List.append_assoc]
/-- How many are whole in the first c bytes. -/
def cnt : List Rec → Nat → Nat
  | [], _ => 0
  | r :: rs, c => if (frOf r).length ≤ c then cnt rs (c - (frOf r).length) + 1 else 0
end Go.Proofs.YthmimipoooemjaaGreatDoor
end

section
/-
  What the reference's Take and Get answer.
-/
namespace Go.Proofs.YthmimipoooemjaaGreatDoor.Tlv
open Go.RowKit
attribute [local go_sem ↓] Go.wp_at_zero Go.wp_at_succ

theorem AgreeS.of {S : Nat → Prop} {L B : Nat} {w w' : World} (h : Agree L B w w') (hS : ∀ b, S b → L ≤ b ∧ b < B) : AgreeS S w w' := fun b hb => h b (hS b hb).1 (hS b hb).2

end Go.Proofs.YthmimipoooemjaaGreatDoor.Tlv
end

section
/-
  What the reference's Open does.
-/
namespace Go.Proofs.YthmimipoooemjaaGreatDoor.Crc
open Go.RowKit

end Go.Proofs.YthmimipoooemjaaGreatDoor.Crc
end

section
/-
  The document's Take.
-/
namespace Go.Proofs.YthmimipoooemjaaGreatDoor
open Go.RowKit Go.Shelf
open Tlv (Tr BySlS AgreeS Agree)
open Crc (hid Kept Tab)
theorem recA_set (k : Int) (nm : List Int) (v : Value) (j : Nat) (y : Int) (hj : j < nm.length) : recA k (nm.set j y) v = (recA k nm v).set (1 + j) (.int .u8 y) := by
  rw [recA, recA, Nat.add_comm 1 j, List.set_cons_succ, List.set_append_left _ _ (by rw [u8s_length]; exact hj)]
  simp [u8s, List.map_set]

theorem Half.put {w W : World} {k : Int} {nm : List Int} {v : Value} {g : Nat} (h : Half w W k nm v g) (hn : nm.length = 32) (j : Nat) (hj : j < 32) (y : Int) : Half w (W.setCell ⟨g, 1 + j, none⟩ (.int .u8 y)) k (nm.set j y) v g := by
  obtain ⟨h1, h2, h3, h4, h5⟩ := h
  have e : W.setCells g (1 + j) [.int .u8 y] = W.setCell ⟨g, 1 + j, none⟩ (.int .u8 y) := rfl
  refine ⟨h1.setCell (p := ⟨g, 1 + j, none⟩) h2 _, h2, by simpa using h3, fun i u hi => ?_, by rw [← e]; exact World.there_setCells h5 _ _ _⟩
  rw [recA_set _ _ _ _ _ (by omega), List.getElem?_set] at hi
  rw [Nat.zero_add]
  by_cases hq : 1 + j = i
  · subst hq
    rw [if_pos rfl, if_pos (by rw [recA_length _ _ _ hn]; omega)] at hi
    obtain ⟨u', hs⟩ := Option.isSome_iff_exists.1 (h5 (1 + j) (by omega)).1
    rw [Nat.zero_add] at hs
    rw [World.cell?_setCell_same _ _ _ hs]
    exact hi
  · rw [if_neg hq] at hi
    rw [World.cell?_setCell_other _ _ _ _ (by simp only [ne_eq, Addr.mk.injEq, and_true, true_and]; omega)]
    have := h4 i u hi
    rwa [Nat.zero_add] at this

end Go.Proofs.YthmimipoooemjaaGreatDoor
end

section
/-
  The document's Scan.
-/
namespace Go.Proofs.YthmimipoooemjaaGreatDoor
open Go.RowKit Go.Shelf
open Tlv (Tr BySlS AgreeS Agree)
open Crc (hid Kept Tab)

theorem wpList_val {P : Program} {ops : Array Oper} {rest : List Oper} {o : Oper} {a : Act} {Q : Exit → Act → World → Prop} {w w' : World} {v : Value} (hgd : o.guard = none) (hr : (execOp a.eval o).run P w = .ok (.value v) w') (h : wpList P ops Q rest (a.put o.dst v) w') : wpList P ops Q (o :: rest) a w :=
  wpList_plain hgd fun _ hK => by unfold Oper.wp; rw [hr]; exact hK _ _ h

end Go.Proofs.YthmimipoooemjaaGreatDoor
end

section
/-
  FrameTurned, walked: a frame of which bits within 32 are turned, behind its first three bytes, is none.
-/
namespace Go.Proofs.YthmimipoooemjaaGreatDoor
open Go.RowKit
open Tlv (Tr BySlS AgreeS Agree)
open Crc (hid Kept Tab turn)
/-- The row at g holds xs in wr; all else is as it was. -/
def Held (g : Nat) (W wr : World) (xs : List Nat) : Prop :=
  Kept g W wr ∧ wr.heap.size = W.heap.size ∧ (∀ j, j < xs.length → wr.cell? ⟨g, j, none⟩ = some (.int .u8 (xs.getD j 0 : Nat))) ∧ ∀ j, wr.frozen? ⟨g, j, none⟩ = false

theorem Held.set {g : Nat} {W wr : World} {xs : List Nat} (h : Held g W wr xs) (j x : Nat) (hj : j < xs.length) : Held g W (wr.setCell ⟨g, j, none⟩ (.int .u8 (x : Nat))) (xs.set j x) := by
  obtain ⟨h1, h2, h3, h4⟩ := h
  refine ⟨h1.setCell rfl _, by simpa using h2, fun i hi => ?_, fun i => by simpa using h4 i⟩
  simp only [List.length_set] at hi
  by_cases e : j = i
  · subst e
    rw [World.cell?_setCell_same _ _ _ (h3 j hj)]
    simp [hj]
  · rw [World.cell?_setCell_other _ _ _ _ (by simp only [ne_eq, Addr.mk.injEq, true_and, and_true]; omega), h3 i hi]
    simp [e]

end Go.Proofs.YthmimipoooemjaaGreatDoor
end

section
/-
  Three rows that a call builds side by side: bytes, ends, records.
-/
namespace Go.Proofs.YthmimipoooemjaaGreatDoor
open Go.RowKit Go.Shelf
open Tlv (Tr BySlS AgreeS Agree)
open Crc (hid Kept Tab)

/-- One of the list: a record, and where its body lies. -/
abbrev El : Type := Rec × Option Addr × Nat
def elV (z : El) : Value := .slice z.2.1 z.1.2.2.length z.2.2
def elC (z : El) : List Value := recA z.1.1 z.1.2.1 (elV z)
def elOk (z : El) : Prop := z.1.2.1.length = 32 ∧ ∀ y ∈ z.1.2.1, 0 ≤ y ∧ y ≤ 255
def recsC : List El → List Value
  | [] => []
  | z :: zs => elC z ++ recsC zs
def nums (l : List Nat) : List Value := l.map fun (n : Nat) => Value.int .i64 (n : Int)

/-- The three rows, in blocks from B on, each in one of its own; all else from w1 on is as it was, the table's block b left out. -/
structure R3 (B b : Nat) (w1 wr : World) (va ve vw : Value) (xa : List Int) (xe : List Nat) (zs : List El) : Prop where
  kept : Kept b w1 wr
  tab : TabX wr b
  all : wr.ownsRow B 5 1 va xa.length (u8s xa)
  ends : wr.ownsRow B 3 1 ve xe.length (nums xe)
  want : wr.ownsRow B 68 34 vw zs.length (recsC zs)
  ae : ∀ q, va.ownBlock = some q → ve.ownBlock ≠ some q
  aw : ∀ q, va.ownBlock = some q → vw.ownBlock ≠ some q
  ew : ∀ q, ve.ownBlock = some q → vw.ownBlock ≠ some q

theorem R3.start {b : Nat} {w1 : World} (h : TabX w1 b) : R3 w1.heap.size b w1 w1 (.slice none 0 0) (.slice none 0 0) (.slice none 0 0) [] [] [] :=
  ⟨Kept.refl _ _, h, World.ownsRow_nil _ _ _ _, World.ownsRow_nil _ _ _ _, World.ownsRow_nil _ _ _ _, fun _ h => (by cases h), fun _ h => (by cases h), fun _ h => (by cases h)⟩

theorem ownsRow_of_kept {ty : TypeId} {base b n k : Nat} {w w' : World} {v : Value} {cs : List Value} (h : w.ownsRow base ty k v n cs) (hk : Kept b w w') (hb : b < base) : w'.ownsRow base ty k v n cs := by
  refine ⟨h.1, ?_⟩
  rcases h.2 with h2 | ⟨g, cap, cur, hv, hg, hh, r⟩
  · exact Or.inl h2
  · exact Or.inr ⟨g, cap, cur, hv, hg, (hk.block g (Array.getElem?_eq_some_iff.1 hh).1 (by omega)).trans hh, r⟩

section
variable {B b : Nat} {w1 wr W : World} {va ve vw : Value} {xa : List Int} {xe : List Nat} {zs : List El}

theorem R3.on (h : R3 B b w1 wr va ve vw xa xe zs) (hk : Kept b wr W) (ht : TabX W b) (hb : b < B) : R3 B b w1 W va ve vw xa xe zs :=
  ⟨h.kept.trans hk, ht, ownsRow_of_kept h.all hk hb, ownsRow_of_kept h.ends hk hb, ownsRow_of_kept h.want hk hb, h.ae, h.aw, h.ew⟩
theorem R3.below (h : R3 B b w1 wr va ve vw xa xe zs) (hk : Below wr.heap.size wr W) (hb : b < B) : R3 B b w1 W va ve vw xa xe zs := h.on (Kept.below hk) (h.tab.below hk) hb

end
end Go.Proofs.YthmimipoooemjaaGreatDoor
end

section
/-
  lose, Up.
-/
namespace Go.Proofs.YthmimipoooemjaaGreatDoor.Sim
open Go.RowKit Go.Maps
/-- A row's front. -/
theorem OwnB.front {w : World} {a : Option Addr} {n0 cap : Nat} {bs : List Nat} (h : OwnB w (.slice a n0 cap) bs) (j : Nat) (hj : j ≤ bs.length) : OwnB w (.slice a j cap) (bs.take j) := by
  have hl : (bs.take j).length = j := List.length_take_of_le hj
  have hcl : cl (bs.take j) = (cl bs).take j := by simp [cl, List.map_take]
  rcases h.row.2 with ⟨e, e2⟩ | ⟨g, cap', cur, e, hb, hh, h1, h2, h3, h4⟩
  · cases e
    have : bs = [] := List.length_eq_zero_iff.1 e2
    subst this
    have : j = 0 := by simpa using hj
    subst this
    exact OwnB.nil _
  · cases e
    refine ⟨by rw [cl_length]; omega, .inr ⟨g, cap, cur, by rw [hl], hb, hh, by omega, h2, h3, ?_⟩⟩
    rw [hcl, ← h4, List.take_take, hl]
    congr 1
    omega

/-! ### Up -/
/-- A slice of numbers that is read. -/
def IntsAt (Q : Nat → Prop) (w : World) (v : Value) (zs : List Int) : Prop :=
  ∃ a cap, v = .slice a zs.length cap ∧ zs.length ≤ cap ∧ cap ≤ maxLen ∧ zs.length ≤ 1000 ∧ (zs ≠ [] → ∃ g o, a = some ⟨g, o, none⟩ ∧ Q g ∧ g < w.heap.size ∧ ∀ i, i < zs.length → w.cell? ⟨g, o + i, none⟩ = some (.int .i64 (zs.getD i 0)))
theorem IntsAt.kp {Q L : Nat → Prop} {w w' : World} {v : Value} {zs : List Int} (h : IntsAt Q w v zs) (k : Kp L w w') (hL : ∀ x, L x → ¬ Q x) : IntsAt Q w' v zs := by
  obtain ⟨a, cap, h1, h2, h3, h4, h5⟩ := h
  refine ⟨a, cap, h1, h2, h3, h4, fun hne => ?_⟩
  obtain ⟨g, o, e, hq, hg, hc⟩ := h5 hne
  exact ⟨g, o, e, hq, Nat.lt_of_lt_of_le hg k.size, fun i hi => (k.cell (p := ⟨g, o + i, none⟩) hg (fun hl => hL g hl hq)).trans (hc i hi)⟩
theorem IntsAt.nil (Q : Nat → Prop) (w : World) : IntsAt Q w (.slice none 0 0) [] := ⟨none, 0, rfl, Nat.le_refl _, Nat.zero_le _, Nat.zero_le _, fun h => absurd rfl h⟩

end Go.Proofs.YthmimipoooemjaaGreatDoor.Sim
end

section
/-
  Up.
-/
namespace Go.Proofs.YthmimipoooemjaaGreatDoor.Sim
open Go.RowKit Go.Maps
end Go.Proofs.YthmimipoooemjaaGreatDoor.Sim
end

section
/-
  A pack that is written, record by record, on a disk that may go down; the writer's other calls.
-/
namespace Go.Proofs.YthmimipoooemjaaGreatDoor
open Go.RowKit Go.Shelf
open Tlv (BySlS Agree)
open Sim (hid Kp No PS Done Blk nm finds pBytes pRemove OwnB Beg)
def goodB (y : El) : Bool := rightB y.1.1 y.1.2.2.length
theorem good_right {y : El} (h : goodB y = true) (ho : elOk y) (hb : ∀ x ∈ y.1.2.2, 0 ≤ x ∧ x ≤ 255) : Rt y.1 := by
  simp [goodB, rightB] at h
  exact ⟨by omega, by omega, by omega, ho.1, ho.2, hb⟩
theorem n3T : Sim.nameB (nm (nameT 3)) = true := by
  have e : nameT 3 = ⟨#[116, 109, 112, 46, 51]⟩ := by decide +kernel
  rw [e]; decide
/-- A pack that is being written: its records, on a disk that may be down; blocks of K are none of its. -/
structure PR (s b g x : Nat) (ar : Bool) (N : Nat) (K : Nat → Prop) (w wr : World) (rs : List Rec) : Prop where
  rt : ∀ r ∈ rs, Rt r
  size : (cat rs).length ≤ 12000
  wrt : WrAt wr g s b 3 ((cat rs).length : Nat) (rs.length : Nat) false
  tab : TabX wr b
  sys : ∃ P p d, Sim.Sys P N wr s p ∧ Beg (nm (nameT 3)) 99000 x ar d (nats (cat rs)) p ∧ ¬ P b ∧ ¬ P g ∧ (∀ y, P y → w.heap.size ≤ y) ∧ ∀ q, K q → ¬ P q
  keep : ∀ q, K q → q ≠ b ∧ q ≠ g ∧ q < wr.heap.size
  below : Below w.heap.size w wr
  gb : g ≠ b
  gB : w.heap.size ≤ g
  bB : w.heap.size ≤ b

section
variable {s b g x N : Nat} {ar : Bool} {K K' : Nat → Prop} {w wr V : World} {rs : List Rec}
theorem PR.kp {L : Nat → Prop} (h : PR s b g x ar N K w wr rs) (k : Kp L wr V) (hL : ∀ y, L y → K y ∧ w.heap.size ≤ y) : PR s b g x ar N K w V rs := by
  obtain ⟨P, p, d, h1, h2, h3, h4, h5, h6⟩ := h.sys
  have ng : ¬ L g := fun e => (h.keep g (hL g e).1).2.1 rfl
  have nb : ¬ L b := fun e => (h.keep b (hL b e).1).1 rfl
  exact ⟨h.rt, h.size, h.wrt.kp k ng, h.tab.kp k nb, ⟨P, p, d, h1.kp k (fun y hy => h6 y (hL y hy).1), h2, h3, h4, h5, h6⟩, fun q hq => ⟨(h.keep q hq).1, (h.keep q hq).2.1, Nat.lt_of_lt_of_le (h.keep q hq).2.2 k.size⟩,
    Kp.under h.below k (fun y hy => (hL y hy).2) h.below.size, h.gb, h.gB, h.bB⟩
theorem PR.on (h : PR s b g x ar N K w wr rs) (k : Below wr.heap.size wr V) : PR s b g x ar N K w V rs := h.kp (L := No) (Kp.below k) (fun _ hy => hy.elim)
/-- A row of the caller's grows: its block stays, or is new. -/
theorem PR.grown {v v' : Value} (h : PR s b g x ar N (fun q => v.ownBlock = some q) w wr rs) (hg : wr.grownBy V v.ownBlock) (hv : v'.ownBlock = v.ownBlock ∨ v'.ownBlock = some wr.heap.size) (hs : ∀ q, v'.ownBlock = some q → q < V.heap.size) (hB : ∀ q, v.ownBlock = some q → w.heap.size ≤ q) :
    PR s b g x ar N (fun q => v'.ownBlock = some q) w V rs := by
  have hk : Kp (fun q => v.ownBlock = some q) wr V := Kp.ofGrown hg
  obtain ⟨P, p, d, h1, h2, h3, h4, h5, h6⟩ := h.sys
  have hw := h.wrt.lt
  have ht := h.tab.lt
  have h' := h.kp hk (fun y hy => ⟨hy, hB y hy⟩)
  refine ⟨h'.rt, h'.size, h'.wrt, h'.tab, ⟨P, p, d, h1.kp hk (fun y hy => h6 y hy), h2, h3, h4, h5, fun q hq => ?_⟩, fun q hq => ?_, h'.below, h.gb, h.gB, h.bB⟩
  · rcases hv with e | e
    · exact h6 q (by rw [← e]; exact hq)
    · intro hp
      have := h1.lt q hp
      have hq' : v'.ownBlock = some q := hq
      rw [e] at hq'
      have := Option.some.inj hq'
      omega
  · rcases hv with e | e
    · exact h'.keep q (by show v.ownBlock = some q; rw [← e]; exact hq)
    · have hq' : v'.ownBlock = some q := hq
      have hq2 := hq'
      rw [e] at hq2
      have e2 := Option.some.inj hq2
      exact ⟨by omega, by omega, hs q hq'⟩

theorem PR.add (h : PR s b g x ar N K w wr rs) (hN : N + 1 ≤ 1000) (hn : rs.length ≤ 1000) (y : El) (hy : elOk y) (hb : Tlv.BySl 0 w.heap.size w (elV y) y.1.2.2) (hV : Below wr.heap.size wr V) :
    Calls Tryz.prog 139 #[.pointer (some ⟨g, 0, none⟩), .agg (elC y).toArray] V fun e w' =>
      ((∃ f : Int, f ≠ 0 ∧ e = .returned (.tuple #[.int .i64 0, .int .i64 f]) ∧ PR s b g x ar (N + 1) K w w' rs) ∨
       (goodB y = true ∧ e = .returned (.tuple #[.int .i64 ((cat rs).length : Nat), .int .i64 0]) ∧ PR s b g x ar (N + 1) K w w' (rs ++ [y.1]))) ∧ Kp (fun q => ¬ K q) wr w' := by
  have h' := h.on hV
  obtain ⟨P, p, d, h1, h2, h3, h4, h5, h6⟩ := h'.sys
  have hbb : ∀ z ∈ y.1.2.2, 0 ≤ z ∧ z ≤ 255 := by obtain ⟨_, _, _, _, _, _, _, h, _⟩ := hb; exact h
  have hpx : (putX y.1.1 y.1.2.1 y.1.2.2).length ≤ 12000 := by
    unfold putX
    cases hr : rightB y.1.1 y.1.2.2.length with
    | false => simp
    | true =>
      have hR := good_right (y := y) hr hy hbb
      have e := frameR_length hR
      have := hR.2.2.1
      simp only [if_true]
      omega
  have hadd := addW_any (P := P) (N := N) V g s b 3 (cat rs).length rs.length p y.1.1 y.1.2.1 y.1.2.2 (elV y) (by omega) (by omega) h'.wrt h1 hN h'.tab h3 h4 h.gb
    (hb.agree (Agree.below h'.below) (Nat.le_refl _) h'.below.size) hy.1 hy.2 hpx h.size (by omega)
  refine hadd.mono ?_
  rintro e w' ⟨rfl, hW, hT, P', hS, hK, hP'⟩
  have hKV : Kp (fun q => ¬ K q) wr w' := (Kp.below hV).trans hK (fun z hz => by
    left
    intro hk
    rcases hz with hz | hz | hz
    · exact h6 z hk hz
    · exact (h.keep z hk).1 hz
    · exact (h.keep z hk).2.1 hz)
  have hbel : Below w.heap.size w w' := Kp.under h'.below hK (fun z hz => by
    rcases hz with hz | hz | hz
    · exact h5 z hz
    · rw [hz]; exact h.bB
    · rw [hz]; exact h.gB) h'.below.size
  have hng : ¬ P' g := fun e => by
    rcases hP' g e with e | e
    · exact h4 e
    · have := h'.wrt.lt; omega
  have hnb : ¬ P' b := fun e => by
    rcases hP' b e with e | e
    · exact h3 e
    · have := h'.tab.lt; omega
  have hlow : ∀ z, P' z → w.heap.size ≤ z := fun z hz => by
    rcases hP' z hz with e | e
    · exact h5 z e
    · have := h'.below.size; omega
  have hkk : ∀ q, K q → ¬ P' q := fun q hq e => by
    rcases hP' q e with e | e
    · exact h6 q hq e
    · have := (h'.keep q hq).2.2; omega
  have hkp : ∀ q, K q → q ≠ b ∧ q ≠ g ∧ q < w'.heap.size := fun q hq => ⟨(h.keep q hq).1, (h.keep q hq).2.1, Nat.lt_of_lt_of_le (h'.keep q hq).2.2 hK.size⟩
  rcases beg_add h2 n3T (cat rs).length rs.length (putX y.1.1 y.1.2.1 y.1.2.2) (rightB y.1.1 y.1.2.2.length) (nats_length _) (by omega) with ⟨f, d', q, hf, he, hq⟩ | ⟨hR, hl, q, he, hq⟩
  · rw [he] at hW hS ⊢
    exact ⟨.inl ⟨f, hf, rfl, h.rt, h.size, hW, hT, ⟨P', q, d', hS, hq, hnb, hng, hlow, hkk⟩, hkp, hbel, h.gb, h.gB, h.bB⟩, hKV⟩
  · rw [he] at hW hS ⊢
    have hRt := good_right (y := y) hR hy hbb
    have hpe : putX y.1.1 y.1.2.1 y.1.2.2 = frOf y.1 := by rw [putX, hR]; rfl
    rw [hpe] at hl hW hq
    refine ⟨.inr ⟨hR, rfl, fun r hr => ?_, ?_, ?_, hT, ⟨P', q, false, hS, ?_, hnb, hng, hlow, hkk⟩, hkp, hbel, h.gb, h.gB, h.bB⟩, hKV⟩
    · rcases List.mem_append.1 hr with hr | hr
      · exact h.rt r hr
      · rw [List.mem_singleton.1 hr]; exact hRt
    · rw [cat_snoc, List.length_append]; exact hl
    · rw [cat_snoc, List.length_append, List.length_append]; exact hW
    · rw [cat_snoc, nats_append]; exact hq
end
end Go.Proofs.YthmimipoooemjaaGreatDoor
end

section
/-
  The names of any id.
-/
namespace Go.Proofs.YthmimipoooemjaaGreatDoor
open Go.RowKit Go.Shelf
open Sim (hid)
end Go.Proofs.YthmimipoooemjaaGreatDoor
end

section
/-
  Digits, and what they tell.
-/
namespace Go.Proofs.YthmimipoooemjaaGreatDoor
open Go.RowKit Go.Shelf
open Sim (hid)
end Go.Proofs.YthmimipoooemjaaGreatDoor
end

section
/-
  The id of any name.
-/
namespace Go.Proofs.YthmimipoooemjaaGreatDoor
open Go.RowKit Go.Shelf
open Sim (hid)

/-- The variables of strconv that are read: a table, two errors. -/
structure Vars (w : World) : Prop where
  tab : Lib.TabIs Tryz.prog w "internal/strconv.uint64pow10" .u64 Lib.pow10Tab
  syn : ∃ tp p, w.var? Tryz.prog "strconv.ErrSyntax" = some #[.iface tp p]
  rng : ∃ tp p, w.var? Tryz.prog "strconv.ErrRange" = some #[.iface tp p]
theorem var_below {w w' : World} {n : String} {cs : Array Value} (k : Below w.heap.size w w') (h : w.var? Tryz.prog n = some cs) : w'.var? Tryz.prog n = some cs := by
  unfold World.var? at h ⊢
  cases hg : Tryz.prog.globalNamed n with
  | none => rw [hg] at h; cases h
  | some g =>
    rw [hg] at h
    simp only [Option.bind_some] at h ⊢
    have hlt : g < w.heap.size := by
      rcases Nat.lt_or_ge g w.heap.size with h' | h'
      · exact h'
      · rw [Array.getElem?_eq_none h'] at h; cases h
    rw [k.block g hlt]
    exact h
theorem Vars.below {w w' : World} (h : Vars w) (k : Below w.heap.size w w') : Vars w' := by
  obtain ⟨h1, ⟨t2, p2, h2⟩, ⟨t3, p3, h3⟩⟩ := h
  exact ⟨var_below k h1, ⟨t2, p2, var_below k h2⟩, ⟨t3, p3, var_below k h3⟩⟩

end Go.Proofs.YthmimipoooemjaaGreatDoor
end

section
/-
  What is picked of the names that are seen: temporary ones; and their cleaning.
-/
namespace Go.Proofs.YthmimipoooemjaaGreatDoor
open Go.RowKit Go.Shelf
open Sim (hid Kp No PS Done Blk nm finds pBytes pRemove pSyncDir pList Nm OwnN Row)

def tmpL : List UInt8 := [116, 109, 112, 46]
/-- Is it a temporary name? -/
def isTmp (n : Nm) : Bool := Lib.hasPrefix n tmpL

theorem own_any (n : Nm) (w : World) : Calls Tryz.prog 69 #[.string ⟨#[116, 109, 112, 46]⟩, .string ⟨n.toArray⟩] w fun e w' => ∃ t, e = .returned (.tuple #[.string t, .bool (isTmp n)]) ∧ (isTmp n = true → t = ⟨n.toArray⟩) ∧ w' = w := by
  have HP := hid (Any.strings_HasPrefix Sim.Tryz.hasP ⟨n.toArray⟩ ⟨#[116, 109, 112, 46]⟩ w)
  have e : Lib.hasPrefix (⟨n.toArray⟩ : ByteArray).data.toList (⟨#[116, 109, 112, 46]⟩ : ByteArray).data.toList = isTmp n := rfl
  rw [e] at HP
  clear e
  cases hb : isTmp n with
  | true =>
    rw [hb] at HP
    clear hb
    go_enter Tryz.func69, Tryz.ntmps69
    go_wp2_with (go_at_call 111; refine HP.out.mono ?_; rintro e w1 ⟨rfl, h⟩; subst w1)
    go_ret2
    exact ⟨_, rfl, fun _ => rfl, rfl⟩
  | false =>
    rw [hb] at HP
    clear hb
    go_enter Tryz.func69, Tryz.ntmps69
    go_wp2_with (go_at_call 111; refine HP.out.mono ?_; rintro e w1 ⟨rfl, h⟩; subst w1)
    go_ret2
    exact ⟨_, rfl, fun h => (by cases h), rfl⟩

theorem infoS : (Tryz.prog.info? 9).map (fun i => (i.zero, i.size, i.bytes)) = some (some (.string ⟨#[]⟩), 1, 16) := by kernel_rfl
theorem run_onestr (s : ByteArray) (w : World) : (Instr.buildSlice 70 1 #[(0, .string s)]).run Tryz.prog w = .ok (.slice (some ⟨w.heap.size, 0, none⟩) 1 1) (w.alloc (.cells #[.string s] 9)) := by kernel_rfl
theorem OwnN.cell {w : World} {g n cap : Nat} {ns : List Nm} (h : OwnN w (.slice (some ⟨g, 0, none⟩) n cap) ns) (hn : n = ns.length) (k : Nat) {x : Nm} (hk : ns[k]? = some x) : w.cell? ⟨g, k, none⟩ = some (.string ⟨x.toArray⟩) := by
  subst hn
  have hl := (List.getElem?_eq_some_iff.1 hk).1
  have h' : Row w 9 1 (.slice (some ⟨g, 0, none⟩) ns.length cap) ns.length (ns.map encStr) := h
  rw [h'.cellAt k (by omega), List.getElem?_map, hk]
  rfl
theorem OwnN.form {w : World} {v : Value} {ns : List Nm} (h : OwnN w v ns) : ∃ a c, v = .slice a ns.length c ∧ (ns ≠ [] → ∃ g, a = some ⟨g, 0, none⟩) := by
  have h' : Row w 9 1 v ns.length (ns.map encStr) := h
  obtain ⟨a, c, h1, _, _, h2, h3⟩ := h'.shape
  refine ⟨a, c, h1, fun hne => ?_⟩
  cases a with
  | none => exact absurd (List.length_eq_zero_iff.1 (h2 rfl).1) hne
  | some q =>
    obtain ⟨gq, oq, sq⟩ := q
    obtain ⟨h4, h5⟩ := h3 _ rfl
    simp only at h4 h5
    subst h4 h5
    exact ⟨gq, rfl⟩

set_option maxHeartbeats 2000000 in
set_option maxRecDepth 100000 in
theorem pickS_any {P : Nat → Prop} {N : Nat} (w : World) (s : Nat) (p : PS) (h : Sim.Sys P N w s p) :
    Calls Tryz.prog 68 #[.pointer (some ⟨s, 0, none⟩), .func (.func 69) #[.string ⟨#[116, 109, 112, 46]⟩] #[]] w fun e w' => ∃ u, e = .returned u ∧ OwnN w' u ((pList p).filter isTmp) ∧ (∀ x, u.ownBlock = some x → w.heap.size ≤ x) ∧ Kp No w w' := by
  have HL := hid (Sim.list_any w s p h)
  have hlen : (pList p).length ≤ 1000 := by
    have h1 := h.inv.lseen
    have h2 := h.inv.big
    unfold pList
    split
    · simp
    · rw [List.length_map]; omega
  obtain ⟨L, hL⟩ : ∃ L, pList p = L := ⟨_, rfl⟩
  rw [hL] at HL hlen ⊢
  clear hL h
  go_enter Tryz.func68, Tryz.ntmps68
  go_wp2_with fail
  refine HL.out.mono ?_
  rintro e w1 ⟨u, rfl, hu, hub, hk⟩
  obtain ⟨ua, uc, rfl, hform⟩ := OwnN.form hu
  have HU := hid (And.intro hu (And.intro hub (And.intro hk hform)))
  have HK1 := hid hk
  clear hu hub hk hform
  go_wp2_with fail
  go_loopw [5, 13] (fun v i wr => ∃ (k : Nat) (a : Option Addr) (m c : Nat), k ≤ L.length ∧ i = .int .i64 (k : Int) ∧ v = .slice a m c ∧ m ≤ k ∧ Hid (m = ((L.take k).filter isTmp).length ∧ OwnN wr (.slice a m c) ((L.take k).filter isTmp) ∧ (∀ x, (Value.slice a m c).ownBlock = some x → w1.heap.size ≤ x) ∧ Kp No w1 wr)) (fun _ i _ => L.length - (intOf i).toNat)
  case atStart => exact ⟨0, none, 0, 0, Nat.zero_le _, rfl, rfl, Nat.le_refl _, by simp, Row.nil _ _ _, (by intro x hx; cases hx), Kp.refl _ _⟩
  case round =>
    obtain ⟨k, a, m, c, hk, rfl, rfl, hmk, HS⟩ := hrel
    by_cases hlt : k < L.length
    · have hltI : (k : Int) < (L.length : Int) := by omega
      obtain ⟨n, hn⟩ : ∃ n, L[k]? = some n := ⟨_, List.getElem?_eq_getElem hlt⟩
      obtain ⟨hu, hub, hk1, hform⟩ := HU.out
      obtain ⟨gu, rfl⟩ := hform (by intro e; rw [e] at hlt; simp at hlt)
      obtain ⟨hm, hrow, hblk, hkr⟩ := HS.out
      have cu : wr.cell? ⟨gu, k, none⟩ = some (.string ⟨n.toArray⟩) := OwnN.cell (Row.kept hu hkr) rfl k hn
      have HOWN := hid (own_any n wr)
      have HN := hid hn
      have HX := hid (And.intro hm (And.intro hrow (And.intro hblk hkr)))
      clear hu hub hk1 hform hm hrow hblk hkr hn HS
      cases hb : isTmp n with
      | false =>
        rw [hb] at HOWN
        go_wp2_with fail
        refine HOWN.out.mono ?_
        rintro e w2 ⟨t, rfl, ht, hw2⟩
        rw [hw2]
        clear hw2 w2 ht HOWN
        have HF : Hid (m = ((L.take (k + 1)).filter isTmp).length ∧ OwnN wr (.slice a m c) ((L.take (k + 1)).filter isTmp) ∧ (∀ x, (Value.slice a m c).ownBlock = some x → w1.heap.size ≤ x) ∧ Kp No w1 wr) := by
          have e : (L.take (k + 1)).filter isTmp = (L.take k).filter isTmp := by rw [List.take_add_one, HN.out, List.filter_append]; simp [hb]
          rw [Hid, e]
          exact HX.out
        clear hb
        go_wp2_with fail
        go_round
        case rel => exact ⟨k + 1, a, m, c, by omega, by go_num, rfl, by omega, HF⟩
        case measure => simp [intOf]; omega
      | true =>
        rw [hb] at HOWN
        go_wp2_with fail
        refine HOWN.out.mono ?_
        rintro e w2 ⟨t, rfl, ht, hw2⟩
        rw [hw2, ht (by first | rfl | trivial)]
        clear hw2 w2 ht HOWN
        have hal : Kp No wr (wr.alloc (.cells #[.string ⟨n.toArray⟩] 9)) := (Kp.refl _ _).alloc _
        have HR5 : Hid (Row (wr.alloc (.cells #[.string ⟨n.toArray⟩] 9)) 9 1 (.slice a m c) m (((L.take k).filter isTmp).map encStr)) := by
          have h : Row wr 9 1 (.slice a m c) ((L.take k).filter isTmp).length (((L.take k).filter isTmp).map encStr) := HX.out.2.1
          rw [← HX.out.1] at h
          exact h.kept hal
        have HSRC : Hid (Sim.Src (wr.alloc (.cells #[.string ⟨n.toArray⟩] 9)) (.slice (some ⟨wr.heap.size, 0, none⟩) 1 1) 1 1 [.string ⟨n.toArray⟩]) := Sim.Src.one wr [.string ⟨n.toArray⟩] 1 9 rfl (by intro u hu; rw [List.mem_singleton.1 hu]; rfl)
        have HN1 := hid (fun V => run_onestr ⟨n.toArray⟩ V)
        have HAL := hid hal
        have HB := hid hb
        clear hal hb
        go_wp2_with (first
          | (refine wpList_val (by rfl) (exec_slice1 70 _ (by rfl) (.string ⟨n.toArray⟩) _ (by rfl) (HN1.out _)) ?_)
          | (refine Sim.app_row _ (by rfl) _ _ 70 9 (.string ⟨#[]⟩) 1 16 (by rfl) Tryz.underlying70 infoS rfl (by omega) (.slice a m c) (.slice (some ⟨wr.heap.size, 0, none⟩) 1 1) m 1 (((L.take k).filter isTmp).map encStr) [.string ⟨n.toArray⟩] (by rfl) (by rfl) HR5.out HSRC.out (by omega) (by omega) ?_; intro ad2 cap2 w6 hrow6 hgr6 hown6))
        have HF : Hid (m + 1 = ((L.take (k + 1)).filter isTmp).length ∧ OwnN w6 (.slice ad2 (m + 1) cap2) ((L.take (k + 1)).filter isTmp) ∧ (∀ x, (Value.slice ad2 (m + 1) cap2).ownBlock = some x → w1.heap.size ≤ x) ∧ Kp No w1 w6) := by
          obtain ⟨hm, hrow, hblk, hkr⟩ := HX.out
          have e : (L.take (k + 1)).filter isTmp = (L.take k).filter isTmp ++ [n] := by rw [List.take_add_one, HN.out, List.filter_append]; simp [HB.out]
          have hs := hkr.size
          rw [Hid, e, List.length_append, ← hm]
          refine ⟨rfl, ?_, fun x hx => ?_, ?_⟩
          · unfold OwnN
            rw [List.length_append, ← hm, List.map_append]
            exact hrow6
          · rcases hown6 with h | h
            · exact hblk x (by rw [← h]; exact hx)
            · rw [h] at hx
              have := Option.some.inj hx
              simp at this
              omega
          · exact (hkr.andNone HAL.out).grown hgr6 (fun x hx => .inr (hblk x hx))
        clear hrow6 hgr6 hown6 HX
        go_wp2_with fail
        go_round
        case rel => exact ⟨k + 1, _, m + 1, _, by omega, by go_num, rfl, by omega, HF⟩
        case measure => simp [intOf]; omega
    · have hltI : ¬ (k : Int) < (L.length : Int) := by omega
      have hkn : k = L.length := by omega
      subst hkn
      go_wp2_with fail
      go_ret
      obtain ⟨hm, hrow, hblk, hkr⟩ := HS.out
      rw [List.take_length] at hrow
      exact ⟨_, rfl, hrow, fun x hx => Nat.le_trans HK1.out.size (hblk x hx), HK1.out.andNone hkr⟩

theorem temps_any {P : Nat → Prop} {N : Nat} (w : World) (s : Nat) (p : PS) (h : Sim.Sys P N w s p) :
    Calls Tryz.prog 27 #[.pointer (some ⟨s, 0, none⟩)] w fun e w' => ∃ u, e = .returned u ∧ OwnN w' u ((pList p).filter isTmp) ∧ (∀ x, u.ownBlock = some x → w.heap.size ≤ x) ∧ Kp No w w' := by
  have HP := hid (pickS_any w s p h)
  clear h
  go_enter Tryz.func27, Tryz.ntmps27
  go_wp2_with (go_at_call 68; refine HP.out.mono ?_; rintro e w1 ⟨u, rfl, h1, h2, h3⟩; have H1 := hid (And.intro h1 (And.intro h2 h3)); clear h1 h2 h3)
  go_ret
  exact ⟨u, rfl, H1.out⟩

/-- What Clean does, name by name: how many are gone, the fault, the files. -/
def cleanF : List Nm → Nat → PS → Nat × Nat × PS
  | [], k, p => if k = 0 then (0, 0, p) else (k, (pSyncDir p).1, (pSyncDir p).2)
  | n :: r, k, p => if (pRemove n p).1 ≠ 0 then (k, (pRemove n p).1, (pRemove n p).2) else cleanF r (k + 1) (pRemove n p).2

set_option maxHeartbeats 2000000 in
set_option maxRecDepth 100000 in
theorem clean_any {P : Nat → Prop} {N : Nat} (w : World) (s : Nat) (p : PS) (h : Sim.Sys P N w s p) (hN : N + (pList p).length + 1 ≤ 1000) (hnl : ∀ n ∈ pList p, n.length ≤ 20000000) :
    Calls Tryz.prog 47 #[.pointer (some ⟨s, 0, none⟩)] w fun e w' => e = .returned (.tuple #[.int .i64 ((cleanF ((pList p).filter isTmp) 0 p).1 : Nat), .int .i64 ((cleanF ((pList p).filter isTmp) 0 p).2.1 : Nat)]) ∧ Done P (N + (pList p).length + 1) w w' s (cleanF ((pList p).filter isTmp) 0 p).2.2 := by
  have HT := hid (temps_any w s p h)
  obtain ⟨L, hL⟩ : ∃ L, (pList p).filter isTmp = L := ⟨_, rfl⟩
  have hLl : L.length ≤ (pList p).length := by rw [← hL]; exact List.length_filter_le _ _
  have hLn : ∀ n ∈ L, n.length ≤ 20000000 := fun n hn => hnl n (by rw [← hL] at hn; exact (List.mem_filter.1 hn).1)
  obtain ⟨M, hM⟩ : ∃ M, (pList p).length = M := ⟨_, rfl⟩
  rw [hL] at HT ⊢
  rw [hM] at hLl hN ⊢
  have HS := hid h
  have HLN := hid hLn
  clear hL hM h hnl hLn
  obtain ⟨R, hR⟩ : ∃ R, cleanF L 0 p = R := ⟨_, rfl⟩
  have HR := hid hR
  rw [hR]
  clear hR
  go_enter Tryz.func47, Tryz.ntmps47
  go_wp2_with fail
  refine HT.out.mono ?_
  rintro e w1 ⟨u, rfl, hu, hub, hk⟩
  obtain ⟨ua, uc, rfl, hform⟩ := OwnN.form hu
  have hlt := HS.out.lt
  have HU := hid (And.intro hu (And.intro hub hform))
  have HST : Hid (∃ P', Sim.Sys P' (N + 0) w1 s p ∧ Kp P w w1 ∧ (∀ x, P' x → P x ∨ w.heap.size ≤ x) ∧ OwnN w1 (.slice ua L.length uc) L ∧ ∀ x, (Value.slice ua L.length uc).ownBlock = some x → ¬ P' x ∧ w.heap.size ≤ x) :=
    ⟨P, HS.out.kept hk, hk.ofNo, fun x hx => .inl hx, hu, fun x hx => ⟨fun hp => by have := hlt x hp; have := hub x hx; omega, hub x hx⟩⟩
  clear hu hub hk hform hlt HT
  go_wp2_with fail
  go_loopw [4, 13] (fun v i wr => ∃ (k : Nat), k ≤ L.length ∧ i = .int .i64 (k : Int) ∧ v = .int .i64 (k : Int) ∧ Hid (∃ q P', R = cleanF (L.drop k) k q ∧ Sim.Sys P' (N + k) wr s q ∧ Kp P w wr ∧ (∀ x, P' x → P x ∨ w.heap.size ≤ x) ∧ OwnN wr (.slice ua L.length uc) L ∧ ∀ x, (Value.slice ua L.length uc).ownBlock = some x → ¬ P' x ∧ w.heap.size ≤ x)) (fun _ i _ => L.length - (intOf i).toNat)
  case atStart =>
    obtain ⟨P', h1, h2⟩ := HST.out
    exact ⟨0, Nat.zero_le _, rfl, rfl, p, P', HR.out.symm, h1, h2⟩
  case round =>
    obtain ⟨k, hk, rfl, rfl, HQ⟩ := hrel
    by_cases hlt : k < L.length
    · have hltI : (k : Int) < (L.length : Int) := by omega
      obtain ⟨n, hn⟩ : ∃ n, L[k]? = some n := ⟨_, List.getElem?_eq_getElem hlt⟩
      obtain ⟨gu, rfl⟩ := HU.out.2.2 (by intro e; rw [e] at hlt; simp at hlt)
      obtain ⟨q, P', hRq, hSq, hKq, hPq, hOq, hAq⟩ := HQ.out
      have cu : wr.cell? ⟨gu, k, none⟩ = some (.string ⟨n.toArray⟩) := OwnN.cell hOq rfl k hn
      have hdr : L.drop k = n :: L.drop (k + 1) := by
        rw [List.drop_eq_getElem_cons hlt]
        have := (List.getElem?_eq_some_iff.1 hn).2
        rw [this]
      rw [hdr, cleanF] at hRq
      have hsz : (⟨n.toArray⟩ : ByteArray).size ≤ 20000000 := by
        have := HLN.out n (List.mem_of_getElem? hn)
        have e : (⟨n.toArray⟩ : ByteArray).size = n.length := by rw [Lib.size_eq]
        omega
      have HRM := hid (Sim.remove_any wr s q ⟨n.toArray⟩ hsz hSq (by omega))
      have hnm : nm ⟨n.toArray⟩ = n := rfl
      rw [hnm] at HRM
      obtain ⟨A, hA⟩ : ∃ A, pRemove n q = A := ⟨_, rfl⟩
      rw [hA] at HRM hRq
      have HX := hid (And.intro hRq (And.intro hSq (And.intro hKq (And.intro hPq (And.intro hOq hAq)))))
      clear hRq hSq hKq hPq hOq hAq hA hsz hnm hdr hn HQ
      go_wp2_with fail
      refine HRM.out.mono ?_
      rintro e w2 ⟨rfl, P2, hS2, hK2, hP2⟩
      obtain ⟨hRq, hSq, hKq, hPq, hOq, hAq⟩ := HX.out
      have hKw : Kp P w w2 := hKq.trans hK2 (fun x hx => by
        rcases hPq x hx with e | e
        · exact .inl e
        · exact .inr e)
      have hPw : ∀ x, P2 x → P x ∨ w.heap.size ≤ x := fun x hx => by
        rcases hP2 x hx with e | e
        · exact hPq x e
        · right; have := hKq.size; omega
      have HX2 := hid (And.intro hS2 (And.intro hKw (And.intro hPw (And.intro (Row.kp hOq hK2 (fun x hx => (hAq x hx).1)) (fun x hx => (show ¬ P2 x ∧ w.heap.size ≤ x from ⟨fun hp => by
        rcases hP2 x hp with e | e
        · exact (hAq x hx).1 e
        · have := Row.lt hOq x hx; omega, (hAq x hx).2⟩))))))
      have HRQ := hid hRq
      clear hRq hSq hKq hPq hOq hAq hS2 hK2 hP2 hKw hPw HX HRM
      by_cases hA0 : A.1 = 0
      · have HA0 := hid hA0
        rw [hA0]
        have hwk : IntKind.i64.wrap ((k : Int) + 1) = ((k + 1 : Nat) : Int) := by rw [IntKind.wrap_i64]; omega
        clear hA0
        go_wp2_with fail
        go_round
        case rel =>
          obtain ⟨h1, h2, h3, h4, h5⟩ := HX2.out
          refine ⟨k + 1, by omega, by go_num, by go_num, A.2, P2, ?_, h1, h2, h3, h4, h5⟩
          rw [HRQ.out, if_neg (by rw [HA0.out]; simp)]
        case measure => simp [intOf]; omega
      · have hA1 : ¬ ((A.1 : Int) = 0) := by omega
        obtain ⟨f, hf⟩ : ∃ f, A.1 = f := ⟨_, rfl⟩
        have HF := hid hf
        rw [hf] at hA0 hA1 ⊢
        clear hf
        go_wp2_with fail
        go_ret2
        obtain ⟨h1, h2, h3, _, _⟩ := HX2.out
        have e : R = (k, A.1, A.2) := by rw [HRQ.out, if_pos (by rw [HF.out]; exact hA0)]
        rw [e]
        exact ⟨by rw [HF.out]; rfl, P2, h1.more (by omega) (by omega), h2, h3⟩
    · have hltI : ¬ (k : Int) < (L.length : Int) := by omega
      have hkn : k = L.length := by omega
      subst hkn
      obtain ⟨q, P', hRq, hSq, hKq, hPq, hOq, hAq⟩ := HQ.out
      rw [List.drop_length, cleanF] at hRq
      by_cases h0 : L.length = 0
      · rw [if_pos h0] at hRq
        have HX := hid (And.intro hRq (And.intro hSq (And.intro hKq hPq)))
        have h0I : ((L.length : Int) = 0) := by omega
        clear hRq hSq hKq hPq hOq hAq
        go_wp2_with fail
        go_ret2
        obtain ⟨e, h1, h2, h3⟩ := HX.out
        rw [e]
        exact ⟨rfl, P', h1.more (by omega) (by omega), h2, h3⟩
      · rw [if_neg h0] at hRq
        have h0I : ¬ ((L.length : Int) = 0) := by omega
        have HSY := hid (Sim.syncdir_any wr s q hSq (by omega))
        obtain ⟨A, hA⟩ : ∃ A, pSyncDir q = A := ⟨_, rfl⟩
        rw [hA] at HSY hRq
        have HX := hid (And.intro hRq (And.intro hKq hPq))
        clear hRq hSq hKq hPq hOq hAq hA
        go_wp2_with fail
        refine HSY.out.mono ?_
        rintro e w2 ⟨rfl, P2, hS2, hK2, hP2⟩
        have HD := hid (And.intro hS2 (And.intro hK2 hP2))
        clear hS2 hK2 hP2 HSY
        go_wp2_with fail
        go_ret2
        obtain ⟨e, h2, h3⟩ := HX.out
        obtain ⟨d1, d2, d3⟩ := HD.out
        rw [e]
        refine ⟨rfl, P2, d1.more (by omega) (by omega), h2.trans d2 (fun x hx => h3 x hx), fun x hx => ?_⟩
        rcases d3 x hx with e | e
        · exact h3 x e
        · right; have := h2.size; omega
end Go.Proofs.YthmimipoooemjaaGreatDoor
end

section
/-
  The shelf: what is said of what is not there.
-/
namespace Go.Proofs.YthmimipoooemjaaGreatDoor.Sh
open Go.RowKit
open Sim (hid Kp No)

theorem none_nil (w : World) : Calls Tryz.prog 48 #[.pointer none] w fun e w' => e = .returned (.bool true) ∧ w' = w := by
  go_enter Tryz.func48, Tryz.ntmps48
  go_wp2_with fail
  go_ret
  exact ⟨rfl, rfl⟩
theorem ids_nil (w : World) : Calls Tryz.prog 19 #[.pointer none] w fun e w' => e = .returned (.slice none 0 0) ∧ w' = w := by
  go_enter Tryz.func19, Tryz.ntmps19
  go_wp2_with fail
  refine (none_nil _).mono ?_
  rintro e w1 ⟨rfl, rfl⟩
  go_wp2_with fail
  go_ret
  exact ⟨rfl, rfl⟩
theorem load_nil (w : World) (id : Int) : Calls Tryz.prog 20 #[.pointer none, .int .i64 id] w fun e w' => e = .returned (.tuple #[.slice none 0 0, .int .i64 18]) ∧ w' = w := by
  go_enter Tryz.func20, Tryz.ntmps20
  go_wp2_with fail
  refine (none_nil _).mono ?_
  rintro e w1 ⟨rfl, rfl⟩
  go_wp2_with fail
  refine bodyPost_ret (v := .tuple #[.slice none 0 0, .int .i64 18]) (by simp [results, Tryz.results20, go_sem]) rfl ⟨rfl, rfl⟩
theorem open_nil (w : World) (t : Option Addr) : Calls Tryz.prog 11 #[.pointer none, .pointer t] w fun e w' => e = .returned (.tuple #[.pointer none, .int .i64 18]) ∧ w' = w := by
  go_enter Tryz.func11, Tryz.ntmps11
  go_wp2_with fail
  refine bodyPost_ret (v := .tuple #[.pointer none, .int .i64 18]) (by simp [results, Tryz.results11, go_sem]) rfl ⟨rfl, rfl⟩
end Go.Proofs.YthmimipoooemjaaGreatDoor.Sh
end

section
/-
  The shelf: Open, and what an empty one tells.
-/
namespace Go.Proofs.YthmimipoooemjaaGreatDoor.Sh
open Go.RowKit Go.Shelf
open Sim (hid Kp No PS Done Blk nm pList OwnN)

def shC (s b : Nat) (n : Int) : List Value := [.pointer (some ⟨s, 0, none⟩), .pointer (some ⟨b, 0, none⟩), .int .i64 n]
/-- A shelf at h, of the files at s, with the table at b; the greatest id that was begun is n. -/
def ShAt (w : World) (h s b : Nat) (n : Int) : Prop := Blk w h 112 (shC s b n)

theorem none_any (w : World) (h s b : Nat) (n : Int) (hH : ShAt w h s b n) : Calls Tryz.prog 48 #[.pointer (some ⟨h, 0, none⟩)] w fun e w' => e = .returned (.bool false) ∧ w' = w := by
  have c0 : w.cell? ⟨h, 0, none⟩ = some (.pointer (some ⟨s, 0, none⟩)) := hH.cell 0
  go_enter Tryz.func48, Tryz.ntmps48
  go_wp2_with fail
  go_ret
  exact ⟨rfl, rfl⟩

/-- What Open answers, and leaves: a fault, or a shelf at a new block. -/
def OpenP (P : Nat → Prop) (N : Nat) (w : World) (s b : Nat) (f : Nat) (q : PS) (e : Ending) (w' : World) : Prop :=
  (f ≠ 0 ∧ e = .returned (.tuple #[.pointer none, .int .i64 (f : Nat)]) ∧ Done P N w w' s q) ∨
  (f = 0 ∧ ∃ g P', e = .returned (.tuple #[.pointer (some ⟨g, 0, none⟩), .int .i64 0]) ∧ ShAt w' g s b 0 ∧ Sim.Sys P' N w' s q ∧ Kp P w w' ∧ (∀ x, P' x → P x ∨ w.heap.size ≤ x) ∧ ¬ P' g ∧ w.heap.size ≤ g)

theorem open_any {P : Nat → Prop} {N : Nat} (w : World) (s b : Nat) (p : PS) (h : Sim.Sys P N w s p) (hN : N + (pList p).length + 1 ≤ 1000) (hnl : ∀ n ∈ pList p, n.length ≤ 20000000) :
    Calls Tryz.prog 11 #[.pointer (some ⟨s, 0, none⟩), .pointer (some ⟨b, 0, none⟩)] w fun e w' => OpenP P (N + (pList p).length + 1) w s b (cleanF ((pList p).filter isTmp) 0 p).2.1 (cleanF ((pList p).filter isTmp) 0 p).2.2 e w' := by
  have HC := hid (clean_any w s p h hN hnl)
  obtain ⟨R, hR⟩ : ∃ R, cleanF ((pList p).filter isTmp) 0 p = R := ⟨_, rfl⟩
  rw [hR] at HC ⊢
  generalize N + (pList p).length + 1 = M at *
  clear hR h hN hnl
  go_enter Tryz.func11, Tryz.ntmps11
  go_wp2_with fail
  refine HC.out.mono ?_
  rintro e w1 ⟨rfl, hD⟩
  have HD := hid hD
  clear hD HC
  by_cases hz : R.2.1 = 0
  · have HZ := hid hz
    rw [hz]
    clear hz
    go_wp2_with fail
    obtain ⟨P', h1, h2, h3⟩ := HD.out
    refine bodyPost_ret (v := .tuple #[.pointer (some ⟨w1.heap.size, 0, none⟩), .int .i64 0]) (by simp [results, Tryz.results11, go_sem]) rfl ?_
    have hal : Kp No w1 (w1.alloc (.cells (shC s b 0).toArray 112)) := (Kp.refl _ _).alloc _
    exact .inr ⟨HZ.out, w1.heap.size, P', rfl, Blk.new w1 _ _, h1.kept hal, h2.andNone hal, h3, fun e => by have := h1.lt _ e; omega, h2.size⟩
  · have HZ := hid hz
    obtain ⟨F, hF⟩ : ∃ F, R.2.1 = F := ⟨_, rfl⟩
    have HF := hid hF
    rw [hF] at hz ⊢
    have hz' : ¬ ((F : Int) = 0) := by omega
    clear hF
    go_wp2_with fail
    refine bodyPost_ret (v := .tuple #[.pointer none, .int .i64 (F : Nat)]) (by simp [results, Tryz.results11, go_sem]) rfl ?_
    exact .inl ⟨HZ.out, by rw [HF.out], HD.out⟩

/-- No pack is seen where nothing is. -/
theorem pids_none {P : Nat → Prop} {N : Nat} (w : World) (s : Nat) (p : PS) (h : Sim.Sys P N w s p) (he : pList p = []) :
    Calls Tryz.prog 57 #[.pointer (some ⟨s, 0, none⟩)] w fun e w' => e = .returned (.slice none 0 0) ∧ Kp No w w' := by
  have HP : Hid (∀ f : Value, Calls Tryz.prog 96 #[.pointer (some ⟨s, 0, none⟩), f] w fun e w' => e = .returned (.slice none 0 0) ∧ Kp No w w') := fun f => by
    have HL := hid (Sim.list_any w s p h)
    rw [he] at HL
    clear h he
    go_enter Tryz.func96, Tryz.ntmps96
    go_wp2_with fail
    refine HL.out.mono ?_
    rintro e w1 ⟨u, rfl, hu, _, hk⟩
    obtain ⟨ua, uc, rfl, _⟩ := OwnN.form hu
    have HK := hid hk
    clear hu hk
    have e0 : ([] : List Sim.Nm).length = 0 := rfl
    rw [e0]
    go_wp2_with fail
    go_loop [5, 13] (fun l i => l = .slice none 0 0 ∧ i = .int .i64 0) (fun _ _ => 0)
    case atStart => exact ⟨rfl, rfl⟩
    case round =>
      obtain ⟨rfl, rfl⟩ := hrel
      go_wp2
      go_ret
      exact ⟨rfl, HK.out⟩
  have hs : Hid (∀ V, Calls Tryz.prog 98 #[.slice none 0 0] V fun e w' => e = .returned (.tuple #[]) ∧ w' = V) := fun V => Any.slices_Sort_int_none Sim.Tryz.sortI none 0 V
  clear h he
  go_enter Tryz.func57, Tryz.ntmps57
  go_wp2_with (first
    | (go_at_call 96; refine (HP.out _).mono ?_; rintro e w1 ⟨rfl, h⟩; have HK := hid h; clear h)
    | (go_at_call 98; refine (hs.out _).mono ?_; rintro e w2 ⟨rfl, h⟩; subst w2))
  go_ret
  exact ⟨rfl, HK.out⟩

theorem ids_none {P : Nat → Prop} {N : Nat} (w : World) (h s b : Nat) (n : Int) (p : PS) (hH : ShAt w h s b n) (hS : Sim.Sys P N w s p) (he : pList p = []) :
    Calls Tryz.prog 19 #[.pointer (some ⟨h, 0, none⟩)] w fun e w' => e = .returned (.slice none 0 0) ∧ Kp No w w' := by
  have c0 : w.cell? ⟨h, 0, none⟩ = some (.pointer (some ⟨s, 0, none⟩)) := hH.cell 0
  have HN := hid (none_any w h s b n hH)
  have HI := hid (pids_none w s p hS he)
  clear hH hS he
  go_enter Tryz.func19, Tryz.ntmps19
  go_wp2_with fail
  refine HN.out.mono ?_
  rintro e w1 ⟨rfl, rfl⟩
  go_wp2_with fail
  refine HI.out.mono ?_
  rintro e w2 ⟨rfl, hk⟩
  have HK := hid hk
  clear hk
  go_wp2_with fail
  go_ret
  exact ⟨rfl, HK.out⟩

end Go.Proofs.YthmimipoooemjaaGreatDoor.Sh
end

section
/-
  A walk through no pack.
-/
namespace Go.Proofs.YthmimipoooemjaaGreatDoor.Sh
open Go.RowKit Go.Shelf
open Crc (Kept)
open Sim (hid Kp No PS Done Blk nm pList OwnN)
attribute [local go_sem] Oper.semAt_some

theorem records_any (w : World) (a : Option Addr) (n c : Nat) (fn : Fn) (first caps : Array Value) :
    Calls Tryz.prog 56 #[.slice a n c, .func fn first caps] w fun e w' => e = .returned (.func (.func 95) #[] #[.pointer (some ⟨w.heap.size, 0, none⟩), .pointer (some ⟨w.heap.size + 1, 0, none⟩)]) ∧
      w' = (w.alloc (.cells #[.slice a n c] 23)).alloc (.cells #[.func fn first caps] 49) := by
  have hmf : ∀ (fn : Fn) (first cap : Array Value) (w : World), (Instr.makeFunc fn first cap).run Tryz.prog w = .ok (.func fn first cap) w := fun _ _ _ _ => rfl
  go_enter Tryz.func56, Tryz.ntmps56
  go_wp2
  go_ret
  exact ⟨rfl, rfl⟩

set_option maxHeartbeats 1000000 in
set_option maxRecDepth 100000 in
theorem tells0 (n p q b : Nat) (V : Nat → Nat → Array Value → World → Prop) :
    Tells n 95 #[.pointer (some ⟨p, 0, none⟩), .pointer (some ⟨q, 0, none⟩)] b (fun W => W.cell? ⟨p, 0, none⟩ = some (.slice none 0 0)) V 0 := by
  intro l J Jx W hT hJ hY h0
  have H0 := hid h0
  have HT := hid hT
  clear hJ hY h0
  refine callsIn_of_wp Tryz.func95 rfl trivial ?_ rfl
  simp only [Tryz.ntmps95, List.size_toArray, List.length_cons, List.length_nil, Nat.reduceAdd, Nat.reduceSub, Array.replicate_succ, Array.replicate_zero, List.push_toArray, List.append_toArray, List.nil_append, List.cons_append]
  gi_wp2_with fail
  gi_loopw [12] (fun i wr => i = .int .i64 0 ∧ wr = W) (fun _ _ => 0)
  case atStart => exact ⟨rfl, rfl⟩
  case round =>
    obtain ⟨rfl, rfl⟩ := hrel
    gi_wp2
    go_end0
    exact ⟨⟨_, rfl⟩, .inl ⟨_, H0.out, HT.out⟩⟩

set_option maxHeartbeats 2000000 in
set_option maxRecDepth 100000 in
theorem walk0 (w : World) (h : Option Addr) (m : Int) (hm : 1 ≤ m) (hI : ∀ V, Kp No w V → Calls Tryz.prog 19 #[.pointer h] V fun e w' => e = .returned (.slice none 0 0) ∧ Kp No V w') :
    Calls Tryz.prog 18 #[.pointer h, .int .i64 m] w fun e w' => e = .returned (.tuple #[.slice none 0 0, .slice none 0 0]) ∧ Kp No w w' := by
  have hm1 : ¬ (m < 1) := by omega
  have HI := hid hI
  have hmf : ∀ (fn : Fn) (first cap : Array Value) (w : World), (Instr.makeFunc fn first cap).run Tryz.prog w = .ok (.func fn first cap) w := fun _ _ _ _ => rfl
  clear hI hm
  refine (callsIn_wide (n := 3)).1 ?_
  refine callsIn_of_wp_marks Tryz.func18 rfl trivial ?_ rfl
  simp only [Tryz.ntmps18, List.size_toArray, List.length_cons, List.length_nil, Nat.reduceAdd, Nat.reduceSub, Array.replicate_succ, Array.replicate_zero, List.push_toArray, List.append_toArray, List.nil_append, List.cons_append]
  gi_wp2_with fail
  obtain ⟨W1, hW1⟩ : ∃ W1, ((w.alloc (.cells #[.int .i64 m] 3)).alloc (.cells #[.slice none 0 0] 43)).alloc (.cells #[.slice none 0 0] 23) = W1 := ⟨_, rfl⟩
  have k1 : Kp No w W1 := by rw [← hW1]; exact (((Kp.refl _ w).alloc _).alloc _).alloc _
  have hsz1 : W1.heap.size = w.heap.size + 3 := by rw [← hW1]; simp
  have b1 : Boxed W1 (w.heap.size + 1) 43 (.slice none 0 0) := by
    rw [← hW1]
    have h := (Boxed.new (w.alloc (.cells #[.int .i64 m] 3)) 43 (.slice none 0 0)).alloc (.cells #[.slice none 0 0] 23)
    simpa only [World.size_alloc] using h
  have b2 : Boxed W1 (w.heap.size + 2) 23 (.slice none 0 0) := by
    rw [← hW1]
    have h := Boxed.new ((w.alloc (.cells #[.int .i64 m] 3)).alloc (.cells #[.slice none 0 0] 43)) 23 (.slice none 0 0)
    simpa only [World.size_alloc] using h
  rw [hW1]
  refine ⟨trivial, (callsIn_wide.2 (HI.out W1 k1)).mono ?_⟩
  clear hW1 HI
  rintro e W2 ⟨rfl, k2⟩
  have b1' : Boxed W2 (w.heap.size + 1) 43 (.slice none 0 0) := (k2.block _ (by omega) (fun h => h)).trans b1
  have b2' : Boxed W2 (w.heap.size + 2) 23 (.slice none 0 0) := (k2.block _ (by omega) (fun h => h)).trans b2
  have hsz2 : w.heap.size + 3 ≤ W2.heap.size := by have := k2.size; omega
  have k12 : Kp No w W2 := k1.andNone k2
  clear b1 b2 k1 k2 hsz1
  gi_wp2_with fail
  refine ⟨trivial, (callsIn_wide.2 (records_any W2 _ _ _ _ _ _)).mono ?_⟩
  rintro e W3 ⟨rfl, hW3⟩
  have hsz3 : W3.heap.size = W2.heap.size + 2 := by rw [hW3]; simp
  have b3 : Boxed W3 W2.heap.size 23 (.slice none 0 0) := by rw [hW3]; exact (Boxed.new W2 23 (.slice none 0 0)).alloc _
  have k3 : Kp No W2 W3 := by rw [hW3]; exact ((Kp.refl _ _).alloc _).alloc _
  have b1'' : Boxed W3 (w.heap.size + 1) 43 (.slice none 0 0) := (k3.block _ (by omega) (fun h => h)).trans b1'
  have b2'' : Boxed W3 (w.heap.size + 2) 23 (.slice none 0 0) := (k3.block _ (by omega) (fun h => h)).trans b2'
  have k13 : Kp No w W3 := k12.andNone k3
  clear b1' b2' k12 k3 hW3
  gi_wp2_with fail
  refine over_func (gf := 95) (lb := #[.pointer (some ⟨W2.heap.size, 0, none⟩), .pointer (some ⟨W2.heap.size + 1, 0, none⟩)]) rfl (enters_of Tryz.func95 (by kernel_rfl) rfl)
    (tells0 2 W2.heap.size (W2.heap.size + 1) w.heap.size (fun _ _ _ _ => False)) (fun _ _ _ _ h => h.elim) (by omega) (fun U W h k => (k.cell (p := ⟨W2.heap.size, 0, none⟩) (by simp; omega)).trans h) b3.cell
    (fun _ _ W => Boxed W (w.heap.size + 1) 43 (.slice none 0 0) ∧ Boxed W (w.heap.size + 2) 23 (.slice none 0 0) ∧ Kp No w W) (fun _ _ _ => False)
    ?ik ?ii (fun _ _ _ _ h _ => h) ?i0 (fun _ W => W) (fun _ W => Below.refl _ W) (fun _ _ _ _ h => h) (fun _ _ _ _ h _ => h.elim) (fun _ _ _ => { tmps := #[], defers := [] }) (fun _ _ _ _ _ h _ => h) ?assign ?body ?done ?stop
  case ik =>
    rintro k m' U W ⟨h1, h2, h3⟩ _ hk
    exact ⟨(hk.block _ h1.lt (by omega)).trans h1, (hk.block _ h2.lt (by omega)).trans h2, h3.trans (L := No) (M := fun x => x = w.heap.size) (kp_kept hk) (fun x hx => .inr (by omega))⟩
  case ii =>
    rintro k m' U W ⟨h1, h2, h3⟩ hp
    have hb := hp.below
    exact ⟨hp.block h1, hp.block h2, ⟨by rw [hb.os, h3.os], by rw [hb.tape, h3.tape], by rw [hb.output, h3.output], Nat.le_trans h3.size hb.size, fun k hk hn => (hb.block k (by omega)).trans (h3.block k hk hn)⟩⟩
  case i0 =>
    intro W hB _
    exact ⟨(hB.block _ (by omega)).trans b1'', (hB.block _ (by omega)).trans b2'', k13.andNone (Kp.below hB)⟩
  case assign => exact fun l k m vs W K _ h _ => h.elim
  case body => exact fun l k m vs U W _ _ h _ _ _ _ _ => h.elim
  case stop => exact fun D c k W _ _ h _ => h.elim
  case done =>
    rintro D m' W hD ⟨h1, h2, h3⟩ hT hd
    have c1 := h1.cell
    have c2 := h2.cell
    change W.cell? ⟨w.heap.size + 1 + 1, 0, none⟩ = _ at c2
    gi_wp2_with fail
    refine wpIn_wide.2 ?_
    go_region
    gi_wp2_with fail
    have hd' : W.drew.heap[D]? = some (.deferred (some [])) := hd
    refine ⟨by simp, .inl ⟨_, _, rfl, run_takeDeferred hd', ?_⟩⟩
    have hpb := put_below (B := w.heap.size) W.drew (.deferred none) (l := D) (by omega) (Array.getElem?_eq_some_iff.1 hd').1
    have hk := h3.drew
    refine ⟨.tuple #[.slice none 0 0, .slice none 0 0], by simp [results, Tryz.results18, go_sem], rfl, ?_⟩
    exact ⟨by rw [hpb.os, hk.os], by rw [hpb.tape, hk.tape], by rw [hpb.output, hk.output], Nat.le_trans hk.size hpb.size, fun k hk1 hn => (hpb.block k hk1).trans (hk.block k hk1 hn)⟩

end Go.Proofs.YthmimipoooemjaaGreatDoor.Sh
end

section
/-
  Rebuild of a shelf that has no pack.
-/
namespace Go.Proofs.YthmimipoooemjaaGreatDoor.Ix
open Go.RowKit Go.Shelf
open Stb (Stab Srt)
open Sim (hid Kp No PS Done Blk nm)

theorem stab_nil {X : List Sg.Ent} (h : Stab Sg.ky [] X) : X = [] := List.length_eq_zero_iff.1 h.length

set_option maxHeartbeats 1000000 in
set_option maxRecDepth 100000 in
theorem rebuild0 (w : World) (h : Option Addr) (hI : ∀ V, Kp No w V → Calls Tryz.prog 19 #[.pointer h] V fun e w' => e = .returned (.slice none 0 0) ∧ Kp No V w') :
    Calls Tryz.prog 44 #[.pointer h] w fun e w' => ∃ v, e = .returned (.tuple #[v, .slice none 0 0]) ∧ Sg.EV (fun g => w.heap.size ≤ g) w' v [] ∧ Kp No w w' := by
  have HW := hid (Sh.walk0 w h 9223372036854775807 (by omega) hI)
  clear hI
  go_enter Tryz.func44, Tryz.ntmps44
  go_wp2_with fail
  refine HW.out.mono ?_
  rintro e w1 ⟨rfl, hk⟩
  have HK := hid hk
  clear hk HW
  have hmk : ∀ W, (Instr.makeSlice 81 (.int .i64 0) (.int .i64 0)).run Tryz.prog W = .ok (.slice (some ⟨W.heap.size, 0, none⟩) 0 0) (W.alloc (.cells #[] 155)) := by
    intro W
    obtain ⟨i0, hi, hz0, hz1, hz2⟩ := info_parts Sg.infoE
    have h := run_make (P := Tryz.prog) W 81 155 i0 _ Tryz.underlying81 hi hz0 .i64 .i64 0 0 (by omega) (by omega) (by rw [hz2]; omega) (by omega)
    rw [h, hz1]
    have e : madeCells Sg.zE.toArray (Int.toNat 0 * 35) = #[] := Array.eq_empty_of_size_eq_zero (by rw [size_madeCells]; rfl)
    first | rfl | (show Result.ok _ (W.alloc (.cells (madeCells Sg.zE.toArray (Int.toNat 0 * 35)) _)) = _; rw [e]; rfl)
  have hEV : ∀ W : World, Sg.EV No (W.alloc (.cells #[] 155)) (.slice (some ⟨W.heap.size, 0, none⟩) 0 0) [] := fun W => ⟨_, 0, rfl, Nat.le_refl _, by decide, by simp, by simp, fun h => absurd rfl h⟩
  have HEV := hid (Sg.sort_any _ _ [] No (hEV w1) (by simp))
  clear hEV
  go_wp2_with fail
  go_loop [6, 19] (fun l i => l = .slice (some ⟨w1.heap.size, 0, none⟩) 0 0 ∧ i = .int .i64 0) (fun _ _ => 0)
  case atStart => exact ⟨rfl, rfl⟩
  case round =>
    obtain ⟨rfl, rfl⟩ := hrel
    go_wp2_with fail
    refine HEV.out.mono ?_
    rintro e w2 ⟨r, X, rfl, hs, _, hk, hv⟩
    rw [stab_nil hs, show Sg.cmpct [] = [] from rfl] at hv
    obtain ⟨ra, rc, hr, _⟩ := id hv
    have hr' : r = .slice ra 0 rc := hr
    clear hr
    subst hr'
    have HF : Hid (Sg.EV (fun g => w.heap.size ≤ g) w2 (.slice ra 0 rc) [] ∧ Kp No w w2) := ⟨hv.mono (fun g hg => Nat.le_trans HK.out.size (Nat.le_trans (by simp) hg)), (HK.out.alloc _).andNone hk⟩
    clear hv hs hk
    go_wp2_with fail
    refine bodyPost_ret (v := .tuple #[.slice ra 0 rc, .slice none 0 0]) (by simp [results, Tryz.results44, go_sem]) rfl ⟨_, rfl, HF.out.1, HF.out.2⟩

end Go.Proofs.YthmimipoooemjaaGreatDoor.Ix
end

section
/-
  Put and Get of segment with no table.
-/
namespace Go.Proofs.YthmimipoooemjaaGreatDoor.Sg
open Go.RowKit
open Sim (hid Kp No)
end Go.Proofs.YthmimipoooemjaaGreatDoor.Sg
end

section
/-
  alive of the tenth law.
-/
namespace Go.Proofs.YthmimipoooemjaaGreatDoor.Sg
open Go.RowKit
open Tlv (Tr Agree)
open Crc (Kept)
open Sim (hid Kp No)

def h1 : List Int := [1, 0, 0, 0, 0, 0, 0, 0, 0, 0, 0, 0, 0, 0, 0, 0, 0, 0, 0, 0, 0, 0, 0, 0, 0, 0, 0, 0, 0, 0, 0, 0]
theorem right0 : RightP [] := ⟨by simp, fun i e hi => by simp at hi⟩
theorem seal0 : nats (sealE []) = [3, 0, 0] ++ Crc.le4 (Crc.more 0 [3, 0, 0]) := by
  rw [sealE, sealI_nats]
  rfl
end Go.Proofs.YthmimipoooemjaaGreatDoor.Sg
end

section
/-
  Plain mathematics of segment's Get: which trees are entries' values, and what bytes answer.
-/
namespace Go.Proofs.YthmimipoooemjaaGreatDoor.Sg
open Go.RowKit
open Tlv (Tr)

/-- What the fields of a value tell, whatever is in them. -/
def entOf (k : Tr 8) : Ent := match k.kd with
  | [a, b, c, e] => (pad32 a.hd.2.2, wrap64 b.hd.2.1, wrap64 c.hd.2.1, wrap64 e.hd.2.1)
  | _ => ([], 0, 0, 0)
/-- A value that is one of right entries. -/
def GoodT (t : Tr 9) : Prop := (∀ k ∈ t.kd, k.kd.length = 4) ∧ RightP (t.kd.map entOf) ∧ Tlv.sameT 9 t 3 (entsT (t.kd.map entOf)) = true

/-- What Get answers. -/
def GAns (bs : List Int) (f : Int) (d : List Ent) : Prop :=
  (bs.length < 4 ∧ f = 3 ∧ d = []) ∨ (4 ≤ bs.length ∧ sealI (bs.take (bs.length - 4)) ≠ bs ∧ f = 4 ∧ d = []) ∨
  (4 ≤ bs.length ∧ sealI (bs.take (bs.length - 4)) = bs ∧ (∀ t, Tlv.getT (bs.take (bs.length - 4)) = some t → ¬ GoodT t) ∧ f = 3 ∧ d = []) ∨
  (4 ≤ bs.length ∧ sealI (bs.take (bs.length - 4)) = bs ∧ ∃ t, Tlv.getT (bs.take (bs.length - 4)) = some t ∧ GoodT t ∧ f = 0 ∧ d = t.kd.map entOf)

end Go.Proofs.YthmimipoooemjaaGreatDoor.Sg
end

section
/-
  entry of segment: what the fields of a value tell, whatever is in them.
-/
namespace Go.Proofs.YthmimipoooemjaaGreatDoor.Sg
open Go.RowKit
open Tlv (Tr Agree)
open Sim (hid Kp No)
def z32 : List Int := List.replicate 32 0
/-- What lies at g: an entry, of the call's own. -/
def HalfE (w W : World) (x : Ent) (g : Nat) : Prop := Below w.heap.size w W ∧ w.heap.size ≤ g ∧ g < W.heap.size ∧ W.rangeAt g 0 (entC x) ∧ W.there g 0 35
theorem HalfE.drew {w W : World} {x : Ent} {g : Nat} (h : HalfE w W x g) : HalfE w W.drew x g := by
  obtain ⟨h1, h2, h3, h4, h5⟩ := h
  exact ⟨h1.drew, h2, h3, by rwa [World.rangeAt_drew], by rwa [World.there_drew]⟩
theorem b8_append (a b : List Int) : b8 (a ++ b) = b8 a ++ b8 b := by simp [b8]
theorem HalfE.named {w W : World} {p q r : Int} {bn : List Int} {g : Nat} (h : HalfE w W (z32, p, q, r) g) (ht : W.there g 0 (b8 (bn.take 32)).length) : HalfE w (W.setCells g 0 (b8 (bn.take 32))) (pad32 bn, p, q, r) g := by
  obtain ⟨h1, h2, h3, h4, h5⟩ := h
  refine ⟨h1.trans (setCells_below h2 _ _ _), h2, by rw [setCells_size]; exact h3, fun j u hj => ?_, World.there_setCells h5 _ _ _⟩
  have hl : (b8 (bn.take 32)).length = (bn.take 32).length := b8_length _
  have hl2 : (bn.take 32).length ≤ 32 := by rw [List.length_take]; omega
  have e1 : entC (pad32 bn, p, q, r) = b8 (bn.take 32) ++ (b8 (List.replicate (32 - bn.length) 0) ++ [.int .i64 p, .int .i64 q, .int .i64 r]) := by
    show b8 (bn.take 32 ++ List.replicate (32 - bn.length) 0) ++ _ = _
    rw [b8_append, List.append_assoc]
  rw [Nat.zero_add]
  by_cases hj1 : j < (bn.take 32).length
  · have hi : j < (b8 (bn.take 32)).length := by omega
    have := World.cell?_setCells_in g (b8 (bn.take 32)) 0 W (fun i hi => (ht i hi).1) j hi
    rw [Nat.zero_add] at this
    rw [this, ← hj, e1, List.getElem?_append_left hi]
    exact (List.getElem?_eq_getElem hi).symm
  · rw [World.cell?_setCells_out g _ 0 W ⟨g, j, none⟩ (fun _ _ => .inr (by show 0 + _ ≤ j; omega))]
    have h6 := h4 j u (by
      rw [← hj, e1]
      have e2 : entC (z32, p, q, r) = b8 (List.replicate (bn.take 32).length 0) ++ (b8 (List.replicate (32 - bn.length) 0) ++ [.int .i64 p, .int .i64 q, .int .i64 r]) := by
        rw [← List.append_assoc, ← b8_append, List.replicate_append_replicate, show (bn.take 32).length + (32 - bn.length) = 32 by rw [List.length_take]; omega]
        rfl
      rw [e2]
      exact app_right (by rw [b8_length, b8_length]; simp) (by rw [b8_length, List.length_replicate]; omega))
    rw [Nat.zero_add] at h6
    exact h6

end Go.Proofs.YthmimipoooemjaaGreatDoor.Sg
end

section
/-
  entries of segment: the right entries that a value is the value of.
-/
namespace Go.Proofs.YthmimipoooemjaaGreatDoor.Sg
open Go.RowKit
open Tlv (Tr Agree)
open Sim (hid Kp No)
/-- Entries' cells are whole. -/
def Oks (d : List Ent) : Prop := ∀ x ∈ d, EOk x
end Go.Proofs.YthmimipoooemjaaGreatDoor.Sg
end

section
/-
  Get of segment: the entries that bytes were put of.
-/
namespace Go.Proofs.YthmimipoooemjaaGreatDoor.Sg
open Go.RowKit
open Tlv (Tr Agree BySlS)
open Crc (Kept Tab)
open Sim (hid Kp No)
/-- What Get leaves. -/
def Got (w w' : World) (b : Nat) (bs : List Int) (e : Ending) : Prop :=
  ∃ v f d, e = .returned (.tuple #[v, .int .i64 f]) ∧ GAns bs f d ∧ Sim.Row w' 155 35 v d.length (ents d) ∧ (∀ x, v.ownBlock = some x → w.heap.size ≤ x) ∧ Oks d ∧ Kept b w w' ∧ TabX w' b
theorem Got.none {w w' : World} {b : Nat} {bs : List Int} {f : Int} (hg : GAns bs f []) (hk : Kept b w w') (ht : TabX w' b) : Got w w' b bs (.returned (.tuple #[.slice none 0 0, .int .i64 f])) :=
  ⟨.slice Option.none 0 0, f, [], rfl, hg, Sim.Row.nil _ _ _, by intro x hx; simp [Value.ownBlock] at hx, by intro x hx; simp at hx, hk, ht⟩

end Go.Proofs.YthmimipoooemjaaGreatDoor.Sg
end

section
/-
  Plain mathematics: sealed bytes of which one is turned are not sealed.
-/
namespace Go.Proofs.YthmimipoooemjaaGreatDoor.Sg
open Crc (turn)
end Go.Proofs.YthmimipoooemjaaGreatDoor.Sg
end

section
/-
  Two lists of the document's entries: are they the same?
-/
namespace Go.Proofs.YthmimipoooemjaaGreatDoor.Sg
open Go.RowKit
open Sim (hid Kp No)
end Go.Proofs.YthmimipoooemjaaGreatDoor.Sg
end

section
/-
  Where of the tenth law: a place of the program's type as the document's.
-/
namespace Go.Proofs.YthmimipoooemjaaGreatDoor.Sg
open Go.RowKit
open Sim (hid Kp No)
end Go.Proofs.YthmimipoooemjaaGreatDoor.Sg
end

section
/-
  Back of the tenth law: entries of the program's type as the document's.
-/
namespace Go.Proofs.YthmimipoooemjaaGreatDoor.Sg
open Go.RowKit
open Stb (Stab Srt Mrg)
open Sim (hid Kp No)
/-- A row of the document's entries, of the call's own, that began at u. -/
def MineR (u w : World) (v : Value) (d : List Ent) : Prop := Sim.Row w 159 35 v d.length (ents d) ∧ (∀ x, v.ownBlock = some x → u.heap.size ≤ x) ∧ Kp No u w
theorem MineR.nil (w : World) : MineR w w (.slice none 0 0) [] := ⟨Sim.Row.nil _ _ _, by intro x hx; simp [Value.ownBlock] at hx, Kp.refl _ _⟩
end Go.Proofs.YthmimipoooemjaaGreatDoor.Sg
end

section
/-
  Memory of the tenth law of back: a table, and bytes of which one is turned.
-/
namespace Go.Proofs.YthmimipoooemjaaGreatDoor.Sg
open Go.RowKit
open Tlv (Tr Agree BySlS)
open Crc (Kept Tab)
open Sim (hid Kp No)

theorem kpK {b : Nat} {w w' : World} (k : Kept b w w') : Kp (fun x => x = b) w w' := ⟨k.os, k.tape, k.output, k.size, fun j hj hne => k.block j hj hne⟩
/-- How far a call has come: a table at b, and all else that there was as it was. -/
def On (w1 w : World) (b : Nat) : Prop := Kp (fun x => x = b) w1 w ∧ TabX w b
theorem On.kept {w1 w w' : World} {b : Nat} (h : On w1 w b) (k : Kept b w w') (t : TabX w' b) : On w1 w' b := ⟨h.1.trans (kpK k) (fun _ hx => .inl hx), t⟩
theorem On.kp {w1 w w' : World} {b : Nat} (h : On w1 w b) (k : Kp No w w') : On w1 w' b := ⟨h.1.andNone k, h.2.below k.toBelow'⟩
theorem On.fin {w w1 w2 : World} (h0 : Below w.heap.size w w1) (h : On w1 w2 w.heap.size) : Below w.heap.size w w2 := Kp.under h0 h.1 (fun x hx => by omega) h0.size
theorem On.bytes {w w1 w2 : World} {v : Value} {bs : List Int} (h0 : Below w.heap.size w w1) (h : On w1 w2 w.heap.size) (hb : Tlv.BySl 0 w.heap.size w v bs) : BySlS (fun g => g ≠ w.heap.size ∧ g < w2.heap.size) w2 v bs := by
  have hB := On.fin h0 h
  exact hb.toS.agree (fun g hg => hB.block g hg.2) (fun g hg => ⟨by omega, Nat.lt_of_lt_of_le hg.2 hB.size⟩)
theorem EV.on {w w' : World} {b : Nat} {v : Value} {d : List Ent} {P : Nat → Prop} (h : EV P w v d) (k : Kept b w w') (hP : ∀ g, P g → g ≠ b) : EV P w' v d := h.kp (kpK k) hP

theorem form_mem {n : Nat} {t : Tr n} (h0 : 0 ≤ t.hd.1 ∧ t.hd.1 ≤ 255) (hl : (Tlv.bodyOf n t).length ≤ 65535) (hb : ∀ x ∈ Tlv.bodyOf n t, 0 ≤ x ∧ x ≤ 255) : ∀ x ∈ Tlv.formOf n t, 0 ≤ x ∧ x ≤ 255 := by
  intro x hx
  simp only [Tlv.formOf, List.mem_cons] at hx
  rcases hx with rfl | rfl | rfl | hx
  · exact h0
  · omega
  · omega
  · exact hb x hx
theorem num_bytes (p : Int) : ∀ x ∈ Tlv.formOf 1 (Tr.mk 1 p [] [] : Tr 1), 0 ≤ x ∧ x ≤ 255 := by
  have e : Tlv.bodyOf 1 (Tr.mk 1 p [] [] : Tr 1) = Tlv.numB (Tlv.nsz p).toNat p := rfl
  have := Tlv.nsz_bd p
  exact form_mem ⟨(by decide : (0 : Int) ≤ 1), (by decide : (1 : Int) ≤ 255)⟩ (by rw [e, Tlv.numB_length]; omega) (by rw [e]; exact Tlv.numB_byte _ _)
theorem ent_bytes {e : Ent} (he : EOk e) : ∀ x ∈ Tlv.formOf 2 (entT e), 0 ≤ x ∧ x ≤ 255 := by
  obtain ⟨h1, _, h3⟩ := ent_bsz he.1 (room := 68) (deep := 1) (by omega) (by omega)
  have h4 := Tlv.bsz_len 2 _ _ _ h1
  refine form_mem ⟨Int.le_of_lt (by decide : (0 : Int) < 3), (by decide : (3 : Int) ≤ 255)⟩ (by omega) ?_
  rw [Tlv.bodyOf_kids (show (entT e).hd.1 = 3 from rfl)]
  intro x hx
  obtain ⟨l, hl, hxl⟩ := List.mem_flatten.1 hx
  obtain ⟨k, hk, rfl⟩ := List.mem_map.1 hl
  have hk' : k ∈ ([Tr.mk 2 0 e.1 [], Tr.mk 1 e.2.1 [] [], Tr.mk 1 e.2.2.1 [] [], Tr.mk 1 e.2.2.2 [] []] : List (Tr 1)) := hk
  rcases List.mem_cons.1 hk' with rfl | hk1
  · refine form_mem (t := (Tr.mk 2 0 e.1 [] : Tr 1)) ⟨(by decide : (0 : Int) ≤ 2), (by decide : (2 : Int) ≤ 255)⟩ (show e.1.length ≤ 65535 by rw [he.1]; omega) (show ∀ x ∈ e.1, 0 ≤ x ∧ x ≤ 255 from he.2) x hxl
  rcases List.mem_cons.1 hk1 with rfl | hk2
  · exact num_bytes _ x hxl
  rcases List.mem_cons.1 hk2 with rfl | hk3
  · exact num_bytes _ x hxl
  rcases List.mem_cons.1 hk3 with rfl | hk4
  · exact num_bytes _ x hxl
  · cases hk4
theorem formE_bd {d : List Ent} (ho : ∀ e ∈ d, EOk e) (hl : d.length ≤ 900) : ∀ x ∈ formE d, 0 ≤ x ∧ x ≤ 255 := by
  have h1 := entsT_right (fun e he => (ho e he).1) hl
  have h2 := Tlv.bsz_fits 3 _ _ _ h1
  have h3 := Tlv.bsz_len 3 _ _ _ h1
  refine form_mem ⟨Int.le_of_lt (by decide : (0 : Int) < 3), (by decide : (3 : Int) ≤ 255)⟩ (by omega) ?_
  rw [Tlv.bodyOf_kids (show (entsT d).hd.1 = 3 from rfl)]
  intro x hx
  obtain ⟨l, hl, hxl⟩ := List.mem_flatten.1 hx
  obtain ⟨k, hk, rfl⟩ := List.mem_map.1 hl
  obtain ⟨e, he, rfl⟩ := List.mem_map.1 hk
  exact ent_bytes (ho e he) x hxl
theorem sealE_bd {d : List Ent} (ho : ∀ e ∈ d, EOk e) (hl : d.length ≤ 900) : ∀ x ∈ sealE d, 0 ≤ x ∧ x ≤ 255 := sealI_bd _ (formE_bd ho hl)
end Go.Proofs.YthmimipoooemjaaGreatDoor.Sg
end

section
/-
  Open of an index where no file of it is, and no pack.
-/
namespace Go.Proofs.YthmimipoooemjaaGreatDoor.Ix
open Go.RowKit Go.Shelf
open Stb (Stab Srt)
open Sim (hid Kp No PS Done Blk nm ByP finds pBytes)

/-- Load, where the file is not to be read. -/
theorem load_no {P : Nat → Prop} {N : Nat} (w : World) (s : Nat) (t : Addr) (p : PS) (h : Sim.Sys P N w s p) (hf : finds p nI ≠ 0) :
    Calls Tryz.prog 36 #[.pointer (some ⟨s, 0, none⟩), .pointer (some t)] w fun e w' => e = .returned (.tuple #[.slice none 0 0, .int .i64 (finds p nI : Nat)]) ∧ Kp No w w' := by
  have HC := hid (Sim.read_any w s p sI (by decide) h)
  rw [nm_sI] at HC
  unfold sI at HC
  obtain ⟨F, hF⟩ : ∃ F, finds p nI = F := ⟨_, rfl⟩
  rw [hF] at HC hf ⊢
  have hf' : ¬ ((F : Int) = 0) := by omega
  generalize pBytes nI p = bs at *
  clear hF h
  go_enter Tryz.func36, Tryz.ntmps36
  go_wp2_with fail
  refine HC.out.mono ?_
  rintro e w1 ⟨ad, cap, rfl, _, _, hk⟩
  have HK := hid hk
  clear hk HC
  go_wp2_with fail
  refine bodyPost_ret (v := .tuple #[.slice none 0 0, .int .i64 (F : Nat)]) (by simp [results, Tryz.results36, go_sem]) rfl ⟨rfl, HK.out⟩

theorem nats_lt {d : List Sg.Ent} (ho : ∀ e ∈ d, Sg.EOk e) (hl : d.length ≤ 900) : ∀ x ∈ nats (Sg.sealE d), x < 256 := by
  intro x hx
  have hb := Sg.sealE_bd ho hl
  rw [nats, List.mem_map] at hx
  obtain ⟨y, hy, rfl⟩ := hx
  have := hb y hy
  omega

theorem seal0_len : (nats (Sg.sealE [])).length = 7 := by rw [Sg.seal0]; rfl

/-- What Open leaves: a new index with no entry, its list saved. -/
def Open0P (P : Nat → Prop) (N b : Nat) (w : World) (s : Nat) (p : PS) (e : Ending) (w' : World) : Prop :=
  ∃ r, Saved (nats (Sg.sealE [])) p r ∧ TabX w' b ∧
    ((r.1 ≠ 0 ∧ e = .returned (.tuple #[.pointer none, .bool false, .int .i64 (r.1 : Nat)])) ∨
     (r.1 = 0 ∧ ∃ x v, e = .returned (.tuple #[.pointer (some ⟨x, 0, none⟩), .bool true, .int .i64 0]) ∧ w.heap.size ≤ x ∧ IxAt w' x s b v ∧ Sg.EV (fun g => w.heap.size ≤ g) w' v [] ∧
      ∃ P', Sim.Sys P' N w' s r.2 ∧ Kp (fun y => P y ∨ y = b) w w' ∧ (∀ y, P' y → P y ∨ w.heap.size ≤ y) ∧ ¬ P' x ∧ ¬ P' b))

set_option maxHeartbeats 2000000 in
set_option maxRecDepth 100000 in
theorem open0 {P : Nat → Prop} {N : Nat} (w : World) (s b h : Nat) (k : Int) (p : PS) (hS : Sim.Sys P N w s p) (hN : N + 6 ≤ 1000) (hT : TabX w b) (hb : ¬ P b) (hH : Sh.ShAt w h s b k) (hf : finds p nI = 5) (he : Sim.pList p = []) :
    Calls Tryz.prog 39 #[.pointer (some ⟨s, 0, none⟩), .pointer (some ⟨b, 0, none⟩), .pointer (some ⟨h, 0, none⟩)] w fun e w' => Open0P P (N + 6) b w s p e w' := by
  have HLD := hid (load_no w s ⟨b, 0, none⟩ p hS (by rw [hf]; omega))
  rw [hf] at HLD
  have HRB := hid (fun V (hV : Kp No w V) => rebuild0 V (some ⟨h, 0, none⟩) (fun U hU => Sh.ids_none U h s b k p (hH.kp (hV.andNone hU) (fun h => h)) (hS.kept (hV.andNone hU)) he))
  have HBC := hid (fun V v (hV : Kp No w V) (x : Nat) v0 (hX : IxAt V x s b v0) (hx : w.heap.size ≤ x) (hv : Sg.EV (fun g => w.heap.size ≤ g) V v []) => become_any V s b x p v v0 [] (hS.kept hV) hN (hT.kp hV (fun h => h)) hb hX (fun e => by have := hS.lt _ e; omega) (fun e => by have := hT.lt; omega) hv Sg.right0 (by rw [seal0_len]; omega) (nats_lt (by simp) (by simp)))
  have hbl := hT.lt
  have HPL := hid hS.lt
  have hbP := hb
  clear hS hT hH hf he
  go_enter Tryz.func39, Tryz.ntmps39
  go_wp2_with fail
  refine HLD.out.mono ?_
  rintro e w1 ⟨rfl, hk1⟩
  have HK1 := hid hk1
  clear hk1 HLD
  go_wp2_with fail
  refine (HRB.out w1 HK1.out).mono ?_
  rintro e w2 ⟨v, rfl, hv, hk2⟩
  obtain ⟨ra, rc, hr, _⟩ := id hv
  have hr' : v = .slice ra 0 rc := hr
  clear hr
  subst hr'
  have HV : Hid (Sg.EV (fun g => w.heap.size ≤ g) w2 (.slice ra 0 rc) []) := hv.mono (fun g hg => Nat.le_trans HK1.out.size hg)
  have HK2 := hid (HK1.out.andNone hk2)
  clear hv hk2 HRB HK1
  go_wp2_with fail
  have HK3 : Hid (Kp No w (w2.alloc (.cells (ixC s b (.slice none 0 0)).toArray 169))) := HK2.out.alloc _
  refine (HBC.out (w2.alloc (.cells (ixC s b (.slice none 0 0)).toArray 169)) _ HK3.out w2.heap.size _ (Blk.new w2 _ _) HK2.out.size (HV.out.kept ((Kp.refl _ _).alloc _))).mono ?_
  rintro e w4 ⟨r, hsv, rfl, hX, hT, P', hS, hK, hP⟩
  have hsz : (w2.alloc (.cells (ixC s b (.slice none 0 0)).toArray 169)).heap.size = w2.heap.size + 1 := by simp
  have hw2 := HK2.out.size
  have HF : Hid (TabX w4 b ∧ IxAt w4 w2.heap.size s b (if r.1 = 0 then .slice ra 0 rc else .slice none 0 0) ∧ Sg.EV (fun g => w.heap.size ≤ g) w4 (.slice ra 0 rc) [] ∧ ∃ P', Sim.Sys P' (N + 6) w4 s r.2 ∧ Kp (fun y => P y ∨ y = b) w w4 ∧ (∀ y, P' y → P y ∨ w.heap.size ≤ y) ∧ ¬ P' w2.heap.size ∧ ¬ P' b) := by
    refine ⟨hT, hX, ?_, P', hS, HK3.out.ofNo.trans hK (fun y hy => ?_), fun y hy => ?_, fun e => ?_, fun e => ?_⟩
    · obtain ⟨a', c', h1, h2, h3, h4, h5, _⟩ := HV.out
      exact ⟨a', c', h1, h2, h3, h4, h5, fun h => absurd rfl h⟩
    · rcases hy with e | e | e
      · exact .inl (.inl e)
      · exact .inl (.inr e)
      · right; omega
    · rcases hP y hy with e | e
      · exact .inl e
      · right; omega
    · rcases hP _ e with e | e
      · have := HPL.out _ e; omega
      · omega
    · rcases hP _ e with e | e
      · exact hbP e
      · omega
  have HSV := hid hsv
  clear hsz hX hT hS hK hP hsv HBC HV
  by_cases hz : r.1 = 0
  · have HZ := hid hz
    rw [hz]
    clear hz
    go_wp2_with fail
    refine bodyPost_ret (v := .tuple #[.pointer (some ⟨w2.heap.size, 0, none⟩), .bool true, .int .i64 0]) (by simp [results, Tryz.results39, go_sem]) rfl ?_
    obtain ⟨h1, h2, h3, h4⟩ := HF.out
    rw [if_pos HZ.out] at h2
    exact ⟨r, HSV.out, h1, .inr ⟨HZ.out, w2.heap.size, _, rfl, hw2, h2, h3, h4⟩⟩
  · have HZ := hid hz
    obtain ⟨F, hF⟩ : ∃ F, r.1 = F := ⟨_, rfl⟩
    have HFF := hid hF
    rw [hF] at hz ⊢
    have hz' : ¬ ((F : Int) = 0) := by omega
    clear hF
    go_wp2_with fail
    refine bodyPost_ret (v := .tuple #[.pointer none, .bool false, .int .i64 (F : Nat)]) (by simp [results, Tryz.results39, go_sem]) rfl ?_
    exact ⟨r, HSV.out, HF.out.1, .inl ⟨HZ.out, by rw [HFF.out]⟩⟩

end Go.Proofs.YthmimipoooemjaaGreatDoor.Ix
end

section
/-
  An index: Find.
-/
namespace Go.Proofs.YthmimipoooemjaaGreatDoor.Ix
open Go.RowKit Go.Shelf
open Sim (hid Kp No PS Done Blk nm ByP)

set_option maxHeartbeats 2000000 in
set_option maxRecDepth 100000 in
theorem find_any {Q : Nat → Prop} (w : World) (x s b : Nat) (v : Value) (d : List Sg.Ent) (h : List Int) (hX : IxAt w x s b v) (hv : Sg.EV Q w v d) (hl : d.length ≤ 1000000) (hh : h.length = 32) (hb : ∀ x ∈ h, 0 ≤ x ∧ x ≤ 255) :
    Calls Tryz.prog 43 #[.pointer (some ⟨x, 0, none⟩), .agg (Sg.b8 h).toArray] w fun e w' => Sg.FAns d h e ∧ Kp No w w' := by
  have HFD := hid (fun V (hV : Sg.EV Q V v d) => Sg.find_any V v d Q h hV hl hh hb)
  have HIH : Hid ((Tryz.prog.info? 53).map (·.size) = some (Sg.b8 h).length) := by rw [Hid, Sg.b8_length, hh]; exact Sg.infH
  have HIW := hid (show (Tryz.prog.info? 51).map (·.size) = some 3 by kernel_rfl)
  obtain ⟨bh, hbh⟩ : ∃ y, Sg.b8 h = y := ⟨_, rfl⟩
  rw [hbh] at HIH HFD ⊢
  clear hbh hh hb
  have hxl := hX.lt
  obtain ⟨W0, hW0⟩ : ∃ W0, (w.alloc (.cells bh.toArray 53)).alloc (.cells #[.int .i64 0, .int .i64 0, .int .i64 0] 51) = W0 := ⟨_, rfl⟩
  have hK0 : Kp No w W0 := by rw [← hW0]; exact ((Kp.refl No w).alloc _).alloc _
  have hz0 : W0.heap.size = w.heap.size + 2 := by rw [← hW0]; simp
  have HBX : Hid (∀ V, Kp (fun y => y = w.heap.size + 1) W0 V → V.rangeAt w.heap.size 0 bh) := fun V hV j u hu => (hV.cell (p := ⟨w.heap.size, _, none⟩) (by simp; omega) (by simp)).trans (by
    rw [← hW0, World.cell?_alloc_lt _ _ _ (by simp), World.cell?_alloc_at _ _ _ _ rfl]
    simpa using hu)
  have HTH : Hid (∀ V, Kp No W0 V → V.there (w.heap.size + 1) 0 3) := fun V hV j hj => by
    have e : (w.alloc (.cells bh.toArray 53)).heap.size = w.heap.size + 1 := by simp
    have h2 : W0.there (w.heap.size + 1) 0 3 := by rw [← hW0, ← e]; exact Sg.thereE _ _ _ _ (by simp)
    rw [hV.cell (p := ⟨w.heap.size + 1, _, none⟩) (by simp; omega) (fun x => x), hV.frozen (p := ⟨w.heap.size + 1, _, none⟩) (by simp; omega) (fun x => x)]
    exact h2 j hj
  have HE0 := hid (hv.kept hK0)
  have hX0 := hX.kp hK0 (fun h => h)
  obtain ⟨av, cv, rfl, _⟩ := id hv
  have HN := hid (none_any W0 x s b _ hX0)
  have HL : Hid (∀ V, Kp (fun y => y = w.heap.size + 1) W0 V → V.cell? ⟨x, 2, none⟩ = some (.slice av d.length cv)) := fun V hV => (hV.cell (p := ⟨x, 2, none⟩) (by simp; omega) (by simp; omega)).trans (hX0.cell 2)
  have HO3 : Hid (∀ p q r : Int, (#[.int .i64 p, .int .i64 q, .int .i64 r] : Array Value).all (·.oneCell') = true) := fun p q r => by simp [Value.oneCell']
  have HK0 := hid hK0
  obtain ⟨n, hn⟩ : ∃ n, d.length = n := ⟨_, rfl⟩
  rw [hn] at HL HE0 HFD
  clear hX hv hX0 hK0 hn
  go_enter Tryz.func43, Tryz.ntmps43
  go_wp2_with fail
  refine HN.out.mono ?_
  rintro e w1 ⟨rfl, hw1⟩
  subst w1
  clear hW0 HN
  go_wp2_with fail
  refine wp_region_held_drew (S := fun V => Kp (fun y => y = w.heap.size + 1) W0 V) (by kernel_rfl) ((Kp.refl _ _).drew) (fun hHeld => ?_)
  refine wpAnyH_take (i := 0) (oi := { dst := some 9, op := Op.move (Operand.tmp 0), type := 88, pos := "index.go:58", after := #[], guard := none }) (v := .pointer (some ⟨x, 0, none⟩)) rfl (by kernel_rfl) (by kernel_rfl) (by kernel_rfl) (fun _ _ _ h => h) (Or.inl ⟨by rfl, fun w' hw' => by (clear hw'; go_simp)⟩) hHeld ?_
  simp only [Act.put, List.setIfInBounds_toArray, List.set_cons_zero, List.set_cons_succ]
  refine wpAnyH_take (i := 1) (oi := { dst := some 10, op := Op.nilCheck (Operand.tmp 9), type := 0, pos := "index.go:58", after := #[{ on := 0, ground := Ground.data }], guard := none }) (v := .pointer (some ⟨x, 0, none⟩)) rfl (by kernel_rfl) (by kernel_rfl) (by kernel_rfl) (fun _ _ _ h => h) (Or.inl ⟨by rfl, fun w' hw' => by (clear hw'; go_simp)⟩) hHeld ?_
  simp only [Act.put, List.setIfInBounds_toArray, List.set_cons_zero, List.set_cons_succ]
  refine wpAnyH_take (i := 2) (oi := { dst := some 11, op := Op.fieldAddr 169 (Operand.tmp 10) 2, type := 0, pos := "index.go:58", after := #[{ on := 1, ground := Ground.data }], guard := none }) (v := .pointer (some ⟨x, 2, none⟩)) rfl (by kernel_rfl) (by kernel_rfl) (by kernel_rfl) (fun _ _ _ h => h) (Or.inl ⟨by rfl, fun w' hw' => by (clear hw'; go_simp)⟩) hHeld ?_
  simp only [Act.put, List.setIfInBounds_toArray, List.set_cons_zero, List.set_cons_succ]
  refine wpAnyH_take (i := 3) (oi := { dst := some 12, op := Op.load 81 (Operand.tmp 11), type := 81, pos := "index.go:58", after := #[{ on := 2, ground := Ground.data }], guard := none }) (v := .slice av n cv) rfl (by kernel_rfl) (by kernel_rfl) (by kernel_rfl) (fun _ _ _ h => h) (Or.inl ⟨by rfl, fun w' hw' => by (have q0 := HL.out w' hw'; clear hw'; go_simp)⟩) hHeld ?_
  simp only [Act.put, List.setIfInBounds_toArray, List.set_cons_zero, List.set_cons_succ]
  refine wpAnyH_take (i := 4) (oi := { dst := some 13, op := Op.load 53 (Operand.tmp 3), type := 53, pos := "index.go:58", after := #[], guard := none }) (v := .agg bh.toArray) rfl (by kernel_rfl) (by kernel_rfl) (by kernel_rfl) (fun _ _ _ h => h) (yieldsIf_load_mid (by rfl) _ _ rfl w.heap.size 0 rfl bh _ (HBX.out) Tryz.underlying53 rfl HIH.out) hHeld ?_
  simp only [Act.put, List.setIfInBounds_toArray, List.set_cons_zero, List.set_cons_succ]
  refine wpAnyH_ready (rs := [5]) (by kernel_rfl) (by simp) ?_
  refine AllReadyH.cons (o := { dst := some 14, op := Op.call { callee := Callee.value (Operand.func 83), args := #[Operand.tmp 12, Operand.tmp 13], argTypes := #[81, 53] }, type := 94, pos := "index.go:58", after := #[{ on := 3, ground := Ground.data }, { on := 4, ground := Ground.data }], guard := none }) rfl (fun K hK => ?_) AllReadyH.nil
  go_simp
  refine (HFD.out _ (HE0.out.kept ((Kp.refl _ _).drew))).mono ?_
  rintro e w2 ⟨hfa, hk⟩
  obtain ⟨p, bb, rfl, _⟩ := id hfa
  have HFA := hid hfa
  have HK2 : Hid (Kp No W0 w2) := ((Kp.refl _ _).drew).andNone hk
  have HS2 : Hid (Kp (fun y => y = w.heap.size + 1) W0 w2) := HK2.out.ofNo
  clear hfa hk HFD
  go_wp2_with fail
  refine hK.out _ _ (HS2.out) (fun hh => ?_)
  clear hK K hHeld
  have hHeld := hh
  clear hh
  try simp only [Act.put, List.setIfInBounds_toArray, List.set_cons_zero, List.set_cons_succ]
  refine wpAnyH_take (i := 6) (oi := { dst := some 15, op := Op.extract (Operand.tmp 14) 0, type := 51, pos := "index.go:58", after := #[{ on := 5, ground := Ground.data }], guard := none }) (v := .agg #[.int .i64 p.1, .int .i64 p.2.1, .int .i64 p.2.2]) rfl (by kernel_rfl) (by kernel_rfl) (by kernel_rfl) (fun _ _ _ h => h) (Or.inl ⟨by rfl, fun w' hw' => by (clear hw'; go_simp)⟩) hHeld ?_
  simp only [Act.put, List.setIfInBounds_toArray, List.set_cons_zero, List.set_cons_succ]
  refine wpAnyH_take (i := 7) (oi := { dst := some 16, op := Op.extract (Operand.tmp 14) 1, type := 4, pos := "index.go:58", after := #[{ on := 5, ground := Ground.data }], guard := none }) (v := .bool bb) rfl (by kernel_rfl) (by kernel_rfl) (by kernel_rfl) (fun _ _ _ h => h) (Or.inl ⟨by rfl, fun w' hw' => by (clear hw'; go_simp)⟩) hHeld ?_
  simp only [Act.put, List.setIfInBounds_toArray, List.set_cons_zero, List.set_cons_succ]
  refine wpAnyH_ready (rs := [8]) (by kernel_rfl) (by simp) ?_
  refine AllReadyH.cons (o := { dst := none, op := Op.store 51 (Operand.tmp 4) (Operand.tmp 15), type := 0, pos := "index.go:58", after := #[{ on := 6, ground := Ground.data }, { on := 5, ground := Ground.chain }, { on := 0, ground := Ground.phase }, { on := 1, ground := Ground.phase }, { on := 2, ground := Ground.phase }, { on := 3, ground := Ground.phase }, { on := 4, ground := Ground.phase }, { on := 5, ground := Ground.phase }, { on := 6, ground := Ground.phase }, { on := 7, ground := Ground.phase }], guard := none }) rfl (fun K hK => ?_) AllReadyH.nil
  rw [if_pos (by rfl)]
  refine wp_store_mid 51 _ _ (by rfl) (w.heap.size + 1) 0 #[.int .i64 p.1, .int .i64 p.2.1, .int .i64 p.2.2] (by rfl) (by rfl) (HTH.out w2 HK2.out) HIW.out (HO3.out _ _ _) ?_
  have HS3 : Hid (Kp (fun y => y = w.heap.size + 1) W0 (w2.setCells (w.heap.size + 1) 0 [.int .i64 p.1, .int .i64 p.2.1, .int .i64 p.2.2])) := HS2.out.trans (Sg.setCells_kp w2 _ _ _) (fun y hy => .inl hy)
  refine hK.out _ _ (HS3.out) (fun hh => ?_)
  clear hK K hHeld
  have hHeld := hh
  clear hh
  try simp only [Act.put]
  refine wpAnyH_take (i := 9) (oi := { dst := some 5, op := Op.assign (Operand.tmp 16), type := 4, pos := "index.go:58", after := #[{ on := 7, ground := Ground.data }, { on := 8, ground := Ground.chain }, { on := 0, ground := Ground.phase }, { on := 1, ground := Ground.phase }, { on := 2, ground := Ground.phase }, { on := 3, ground := Ground.phase }, { on := 4, ground := Ground.phase }, { on := 5, ground := Ground.phase }, { on := 6, ground := Ground.phase }, { on := 7, ground := Ground.phase }, { on := 8, ground := Ground.phase }], guard := none }) (v := .bool bb) rfl (by kernel_rfl) (by kernel_rfl) (by kernel_rfl) (fun _ _ _ h => h) (Or.inl ⟨by rfl, fun w' hw' => by (clear hw'; go_simp)⟩) hHeld ?_
  simp only [Act.put, List.setIfInBounds_toArray, List.set_cons_zero, List.set_cons_succ]
  refine wpAnyH_done (by kernel_rfl) ?_ _
  go_wp2_with fail
  have hr : (w2.setCells (w.heap.size + 1) 0 [.int .i64 p.1, .int .i64 p.2.1, .int .i64 p.2.2]).rangeAt (w.heap.size + 1) 0 [.int .i64 p.1, .int .i64 p.2.1, .int .i64 p.2.2] := World.rangeAt_setCells_same _ _ _ _ (HTH.out w2 HK2.out)
  refine bodyPost_ret (v := .tuple #[.agg #[.int .i64 p.1, .int .i64 p.2.1, .int .i64 p.2.2], .bool bb]) (Sg.results_cell_two Tryz.results43 _ _ (w.heap.size + 1) 0 _ _ rfl hr Tryz.underlying51 rfl HIW.out) rfl ⟨HFA.out, ?_⟩
  exact HK0.out.trans HS3.out (fun y hy => .inr (by omega))

end Go.Proofs.YthmimipoooemjaaGreatDoor.Ix
end

section
/-
  A save where nothing is in its way has no fault.
-/
namespace Go.Proofs.YthmimipoooemjaaGreatDoor.Ix
open Sim

theorem sum_dins (f : Nm × Nat → Nat) (x : Nm × Nat) (l : Dir) : ((dins x l).map f).sum = f x + (l.map f).sum := by
  have h := ((perm_dins x l).map f).sum_nat
  simpa using h

theorem dfind_dins_self (n : Nm) (b : Nat) : ∀ l : Dir, (∀ p ∈ l, p.1 ≠ n) → dfind (dins (n, b) l) n = some b
  | [], _ => by simp [dins, dfind]
  | y :: r, h => by
    unfold dins
    split
    · simp [dfind]
    · have hy : (y.1 == n) = false := by simpa using h y (by simp)
      have ih := dfind_dins_self n b r (fun p hp => h p (by simp [hp]))
      rw [dfind] at ih ⊢
      rw [List.find?_cons, hy]
      exact ih

theorem dfind_dput_self (l : Dir) (n : Nm) (b : Nat) : dfind (dput l n b) n = some b :=
  dfind_dins_self n b _ (fun _ hp => (mem_ddel.1 hp).2)

/-- Nothing is in the way of a step, and no temporary list is there. -/
structure Calm (p : PS) : Prop where
  down : p.down = false
  armed : p.armed = false
  temp : dfind p.seen nT = none

theorem Calm.dead {p : PS} (h : p.armed = false) : dead p = false := by simp [Sim.dead, h]
theorem wrongs_zero {p : PS} {l : List Nm} (h : p.down = false) (hl : l.all nameB = true) : wrongs p l = 0 := by simp [wrongs, h, hl]
theorem finds_of {p : PS} {n : Nm} (h : p.down = false) (hn : nameB n = true) : finds p n = if (dfind p.seen n).isSome then 0 else 5 := by
  rw [finds, wrongs_zero h (by simp [hn])]
  simp

theorem ddel_none {l : Dir} {n : Nm} (h : dfind l n = none) : ddel l n = l := by
  refine List.filter_eq_self.2 (fun p hp => ?_)
  have := dfind_none h p hp
  simpa using this

/-- The states of a save that goes well: a file at x, made, written, made safe, moved. -/
structure Went (bs : List Nat) (p : PS) (x : Nat) (j : Nat) (q : PS) : Prop where
  down : q.down = false
  armed : q.armed = false
  room : q.room = p.room
  files : ∀ y, y ≠ x → fileAt q y = fileAt p y
  file : j = 2 → fileAt q x = ⟨[], 0⟩
  fileb : 3 ≤ j → (fileAt q x).b = bs
  seen : 2 ≤ j → j ≤ 4 → q.seen = dput p.seen nT x
  seen5 : 5 ≤ j → q.seen = dput (ddel (dput p.seen nT x) nT) nI x

theorem fileAt_setF_other {b y : Nat} {f : Fl} {p : PS} (h : y ≠ b) : fileAt (setF b f p) y = fileAt p y := by simp [fileAt, setF, h]
theorem fileAt_setF_same {b : Nat} {f : Fl} {p : PS} : fileAt (setF b f p) b = f := by simp [fileAt, setF]

theorem step0_ok {bs : List Nat} {p q : PS} {f : Nat} (h : Calm p) (hs : Stp bs 0 p (f, q)) : f = 0 ∧ q = p := by
  have hf : finds p nT = 5 := by rw [finds_of h.down nT_ok, h.temp]; rfl
  have hr : pRemove nT p = (5, p) := by rw [pRemove, if_pos (by rw [hf]; omega), hf]
  rw [Stp, pRm, hr] at hs
  simp at hs
  exact hs

theorem step1_ok {bs : List Nat} {p q : PS} {f : Nat} (h : Calm p) (hs : Stp bs 1 p (f, q)) : f = 0 ∧ ∃ x, p.files x = none ∧ Went bs p x 2 q := by
  obtain ⟨x, hx, he⟩ := hs
  rw [pCreate, if_neg (by rw [wrongs_zero h.down (by simp [nT_ok])]; simp), h.temp, if_neg (by simp), stp, if_neg (by rw [Calm.dead h.armed]; simp)] at he
  simp only [Prod.mk.injEq] at he
  obtain ⟨rfl, rfl⟩ := he
  refine ⟨rfl, x, hx, ⟨h.down, h.armed, rfl, fun y hy => ?_, fun _ => ?_, by omega, fun _ _ => ?_, by omega⟩⟩
  · show fileAt (setF x ⟨[], 0⟩ (tick p)) y = _
    rw [fileAt_setF_other hy]
    rfl
  · show fileAt (setF x ⟨[], 0⟩ (tick p)) x = _
    exact fileAt_setF_same
  · rfl

theorem used_went {bs : List Nat} {p q : PS} {x : Nat} (h : Calm p) (hx : p.files x = none) (w : Went bs p x 2 q) : used q = used p := by
  have e : ∀ y, fileAt q y = fileAt p y := fun y => by
    by_cases hy : y = x
    · subst hy
      rw [w.file rfl, fileAt, hx]
      rfl
    · exact w.files y hy
  have e2 : fileAt p x = ⟨[], 0⟩ := by rw [fileAt, hx]; rfl
  rw [used, used, w.seen (by omega) (by omega), dput, ddel_none h.temp, sum_dins]
  simp only [e, e2]
  simp

theorem finds_temp {bs : List Nat} {p q : PS} {x j : Nat} (w : Went bs p x j q) (h2 : 2 ≤ j) (h4 : j ≤ 4) : finds q nT = 0 ∧ blockOf q nT = x := by
  have e : dfind q.seen nT = some x := by rw [w.seen h2 h4]; exact dfind_dput_self _ _ _
  exact ⟨by rw [finds_of w.down nT_ok, e]; rfl, by rw [blockOf, e]; rfl⟩

theorem step2_ok {bs : List Nat} {p q r : PS} {x f : Nat} (h : Calm p) (hx : p.files x = none) (w : Went bs p x 2 q) (hr : used p + bs.length ≤ p.room) (hs : Stp bs 2 q (f, r)) : f = 0 ∧ Went bs p x 3 r := by
  obtain ⟨h1, h2⟩ := finds_temp w (by omega) (by omega)
  rw [Stp, pAppend, if_neg (by rw [h1]; simp), if_neg (by rw [used_went h hx w, w.room]; omega), stp, if_neg (by rw [Calm.dead w.armed]; simp), h2, w.file rfl] at hs
  simp only [Prod.mk.injEq] at hs
  obtain ⟨rfl, rfl⟩ := hs
  refine ⟨rfl, ⟨w.down, w.armed, w.room, fun y hy => ?_, by omega, fun _ => ?_, fun _ _ => w.seen (by omega) (by omega), by omega⟩⟩
  · rw [fileAt_setF_other hy]
    exact w.files y hy
  · rw [fileAt_setF_same]
    rfl

theorem step3_ok {bs : List Nat} {p q r : PS} {x f : Nat} (w : Went bs p x 3 q) (hs : Stp bs 3 q (f, r)) : f = 0 ∧ Went bs p x 4 r := by
  obtain ⟨h1, h2⟩ := finds_temp w (by omega) (by omega)
  rw [Stp, pFsync, if_neg (by rw [h1]; simp), stp, if_neg (by rw [Calm.dead w.armed]; simp), h2, w.fileb (by omega)] at hs
  simp only [Prod.mk.injEq] at hs
  obtain ⟨rfl, rfl⟩ := hs
  refine ⟨rfl, ⟨w.down, w.armed, w.room, fun y hy => ?_, by omega, fun _ => ?_, fun _ _ => w.seen (by omega) (by omega), by omega⟩⟩
  · rw [fileAt_setF_other hy]
    exact w.files y hy
  · rw [fileAt_setF_same]

theorem step4_ok {bs : List Nat} {p q r : PS} {x f : Nat} (w : Went bs p x 4 q) (hs : Stp bs 4 q (f, r)) : f = 0 ∧ Went bs p x 5 r := by
  have e : dfind q.seen nT = some x := by rw [w.seen (by omega) (by omega)]; exact dfind_dput_self _ _ _
  rw [Stp, pRename, if_neg (by rw [wrongs_zero w.down (by simp [nT_ok, nI_ok])]; simp), e, if_pos (by simp), stp, if_neg (by rw [Calm.dead w.armed]; simp)] at hs
  simp only [Prod.mk.injEq] at hs
  obtain ⟨rfl, rfl⟩ := hs
  refine ⟨rfl, ⟨w.down, w.armed, w.room, fun y hy => w.files y hy, by omega, fun _ => w.fileb (by omega), by omega, fun _ => ?_⟩⟩
  show pdo q.seen ⟨2, nT, nI, 0⟩ = _
  have e2 : (dfind q.seen nT).getD 0 = x := by rw [e]; rfl
  rw [pdo, if_neg (by simp), if_neg (by simp), e2, w.seen (by omega) (by omega)]

theorem step5_ok {bs : List Nat} {p q r : PS} {x f : Nat} (w : Went bs p x 5 q) (hs : Stp bs 5 q (f, r)) : f = 0 ∧ Went bs p x 6 r := by
  have hs' : (f, r) = pSyncDir q := hs
  rw [pSyncDir, if_neg (by rw [wrongs_zero w.down (by simp)]; simp), stp, if_neg (by rw [Calm.dead w.armed]; simp)] at hs'
  simp only [Prod.mk.injEq] at hs'
  obtain ⟨rfl, rfl⟩ := hs'
  exact ⟨rfl, ⟨w.down, w.armed, w.room, fun y hy => w.files y hy, by omega, fun _ => w.fileb (by omega), by omega, fun _ => w.seen5 (by omega)⟩⟩

/-- A save with nothing in its way. -/
theorem save_ok {bs : List Nat} {p : PS} {r : Nat × PS} (h : Calm p) (hr : used p + bs.length ≤ p.room) (hs : Saved bs p r) : r.1 = 0 ∧ ∃ x, p.files x = none ∧ Went bs p x 6 r.2 := by
  have R1 : ∀ {q}, Reach bs p 1 q → q = p := fun {q} ⟨q', h1, h2⟩ => by
    have h1' : q' = p := h1
    subst h1'
    exact (step0_ok h h2).2
  have R2 : ∀ {q}, Reach bs p 2 q → ∃ x, p.files x = none ∧ Went bs p x 2 q := fun {q} ⟨q', h1, h2⟩ => by
    have h1' := R1 h1
    subst h1'
    exact (step1_ok h h2).2
  have R3 : ∀ {q}, Reach bs p 3 q → ∃ x, p.files x = none ∧ Went bs p x 3 q := fun {q} ⟨q', h1, h2⟩ => by
    obtain ⟨x, hx, w⟩ := R2 h1
    exact ⟨x, hx, (step2_ok h hx w hr h2).2⟩
  have R4 : ∀ {q}, Reach bs p 4 q → ∃ x, p.files x = none ∧ Went bs p x 4 q := fun {q} ⟨q', h1, h2⟩ => by
    obtain ⟨x, hx, w⟩ := R3 h1
    exact ⟨x, hx, (step3_ok w h2).2⟩
  have R5 : ∀ {q}, Reach bs p 5 q → ∃ x, p.files x = none ∧ Went bs p x 5 q := fun {q} ⟨q', h1, h2⟩ => by
    obtain ⟨x, hx, w⟩ := R4 h1
    exact ⟨x, hx, (step4_ok w h2).2⟩
  rcases hs with ⟨h0, q', h1, h2⟩ | ⟨h0, j, hj, q', h1, h2⟩
  · obtain ⟨x, hx, w⟩ := R5 h1
    exact ⟨h0, x, hx, (step5_ok w h2).2⟩
  · exfalso
    apply h0
    obtain ⟨f, q⟩ := r
    have hj' : j = 0 ∨ j = 1 ∨ j = 2 ∨ j = 3 ∨ j = 4 ∨ j = 5 := by omega
    rcases hj' with rfl | rfl | rfl | rfl | rfl | rfl
    · have h1' : q' = p := h1
      subst h1'
      exact (step0_ok h h2).1
    · have h1' := R1 h1
      subst h1'
      exact (step1_ok h h2).1
    · obtain ⟨x, hx, w⟩ := R2 h1
      exact (step2_ok h hx w hr h2).1
    · obtain ⟨x, hx, w⟩ := R3 h1
      exact (step3_ok w h2).1
    · obtain ⟨x, hx, w⟩ := R4 h1
      exact (step4_ok w h2).1
    · obtain ⟨x, hx, w⟩ := R5 h1
      exact (step5_ok w h2).1

end Go.Proofs.YthmimipoooemjaaGreatDoor.Ix
end

section
/-
  alive of the eleventh law.
-/
namespace Go.Proofs.YthmimipoooemjaaGreatDoor.Ix
open Go.RowKit Go.Shelf
open Stb (Stab Srt)
open Sim (hid Kp No PS Done Blk nm ByP finds pBytes pList)

def e9 : Sg.Ent := (Sg.h1, 1, 0, 9)
theorem e9_ok : Sg.EOk e9 := ⟨rfl, by decide⟩
theorem right9 : Sg.RightP [e9] := ⟨by simp, fun i e hi he => by
  have hi0 : i = 0 := by simp at hi; omega
  subst hi0
  simp at he
  subst he
  exact ⟨rfl, fun j x hj => by omega⟩⟩
theorem find9 {e : Ending} (h : Sg.FAns [e9] Sg.h1 e) : e = .returned (.tuple #[.agg #[.int .i64 1, .int .i64 0, .int .i64 9], .bool true]) := by
  obtain ⟨p, b, rfl, h2, h3, _⟩ := h
  have hb : b = true := h2.2 ⟨right9, e9, by simp, rfl⟩
  subst hb
  have := h3 rfl
  simp [e9] at this
  subst this
  rfl
theorem ev9 (w : World) (A : Array Value) (hA : A = (Sg.entC e9).toArray) : Sg.EV (fun g => g = w.heap.size) (w.alloc (.cells A 155)) (.slice (some ⟨w.heap.size, 0, none⟩) 1 1) [e9] := by
  subst hA
  refine ⟨_, 1, rfl, Nat.le_refl _, by decide, by simp, fun e he => ?_, fun _ => ⟨w.heap.size, 0, rfl, rfl, by simp, fun i e hi => ?_⟩⟩
  · simp at he
    subst he
    exact e9_ok
  · have hi0 : i = 0 := by
      have := (List.getElem?_eq_some_iff.1 hi).1
      simp at this
      omega
    subst hi0
    simp at hi
    subst hi
    refine ⟨e9_ok, fun j v hv => ?_⟩
    rw [World.cell?_alloc_at _ _ _ _ rfl]
    simpa using hv
theorem stab9 {X : List Sg.Ent} (h : Stab Sg.ky ([] ++ [e9]) X) : Sg.cmpct X = [e9] := by
  have hl := h.length
  match X, hl with
  | [y], _ =>
    have : y ∈ ([] ++ [e9] : List Sg.Ent) := (h.mem y).1 (by simp)
    simp at this
    subst this
    rfl
theorem seal9_len : (nats (Sg.sealE [e9])).length ≤ 100 := by
  have h : (nats (Sg.sealE [e9])).length = (Sg.formE [e9]).length + 4 := by
    rw [Sg.sealE, nats_length, sealI_length]
  have h2 : (Sg.formE [e9]).length ≤ 96 := by decide
  omega

theorem start_calm : Calm (Sim.startPS 1000) := ⟨rfl, rfl, rfl⟩
theorem start_used (r : Nat) : Sim.used (Sim.startPS r) = 0 := rfl
theorem start_list (r : Nat) : pList (Sim.startPS r) = [] := rfl
theorem seen_one {bs : List Nat} {q : PS} {x r : Nat} (w : Went bs (Sim.startPS r) x 6 q) : q.seen = [(nI, x)] := by
  rw [w.seen5 (by omega)]
  show Sim.dput (Sim.ddel (Sim.dput [] nT x) nT) nI x = _
  simp [Sim.dput, Sim.ddel, Sim.dins]
theorem went_calm {bs : List Nat} {q : PS} {x r : Nat} (w : Went bs (Sim.startPS r) x 6 q) : Calm q := ⟨w.down, w.armed, by rw [seen_one w]; rfl⟩
theorem went_used {bs : List Nat} {q : PS} {x r : Nat} (w : Went bs (Sim.startPS r) x 6 q) : Sim.used q = bs.length ∧ q.room = r := by
  refine ⟨?_, w.room⟩
  rw [Sim.used, seen_one w]
  simp [w.fileb (by omega)]

set_option maxHeartbeats 4000000 in
set_option maxRecDepth 100000 in
theorem alive_any (w : World) : Calls Tryz.prog 31 #[] w fun e w' => e = .returned (.bool true) ∧ Kp No w w' := by
  go_enter Tryz.func31, Tryz.ntmps31
  go_wp2_with fail
  refine (Sim.new_yes 1000 (by omega) w).mono ?_
  rintro e w1 ⟨rfl, hS1, hK1⟩
  have HS1 := hid hS1
  have HK1 := hid hK1
  have hl1 : w.heap.size < w1.heap.size := hS1.lt _ rfl
  clear hS1 hK1
  go_wp2_with fail
  refine (Crc.new_any w1).mono ?_
  rintro e w2 ⟨rfl, hb2, hs2, ht2⟩
  have HS2 : Hid (Sim.Sys (· = w.heap.size) 0 w2 w.heap.size (Sim.startPS 1000)) := HS1.out.kept (Kp.below hb2)
  have HT2 : Hid (TabX w2 w1.heap.size) := ⟨0, 0, .inl rfl, ht2⟩
  have HK2 : Hid (Kp No w w2) := HK1.out.andNone (Kp.below hb2)
  have hl2 : w1.heap.size < w2.heap.size := by omega
  clear hb2 hs2 ht2 HS1 HK1
  go_wp2_with fail
  refine (Sh.open_any w2 w.heap.size w1.heap.size (Sim.startPS 1000) HS2.out (by simp [start_list]) (by simp [start_list])).mono ?_
  rintro e w3 ho
  have ho' : ∃ g P', e = .returned (.tuple #[.pointer (some ⟨g, 0, none⟩), .int .i64 0]) ∧ Sh.ShAt w3 g w.heap.size w1.heap.size 0 ∧ Sim.Sys P' 1 w3 w.heap.size (Sim.startPS 1000) ∧ Kp (· = w.heap.size) w2 w3 ∧ (∀ y, P' y → y = w.heap.size ∨ w2.heap.size ≤ y) := by
    rcases ho with ⟨h, _⟩ | ⟨_, g, P', h1, h2, h3, h4, h5, _⟩
    · exact absurd rfl h
    · exact ⟨g, P', h1, h2, h3, h4, h5⟩
  clear ho
  obtain ⟨g, P', rfl, hH, hS3, hK3, hP3⟩ := ho'
  have hnb : ¬ P' w1.heap.size := fun e => by rcases hP3 _ e with e | e <;> omega
  have hT3 : TabX w3 w1.heap.size := HT2.out.kp hK3 (fun e => by have e' : w1.heap.size = w.heap.size := e; omega)
  have HK3 : Hid (Kp No w w3) := HK2.out.trans hK3 (fun y hy => .inr (by omega))
  have HO := hid (open0 w3 w.heap.size w1.heap.size g 0 (Sim.startPS 1000) hS3 (by omega) hT3 hnb hH (Sim.start_finds nI_ok) (start_list _))
  have hl3 := hK3.size
  have HP3 := hid hP3
  clear hH hS3 hK3 hP3 hnb hT3 HS2 HT2 HK2
  go_wp2_with fail
  refine HO.out.mono ?_
  rintro e w4 ⟨r, hsv, hT4, hrest⟩
  obtain ⟨hr0, x0, hx0, hwent⟩ := save_ok start_calm (by rw [start_used, seal0_len]; decide) hsv
  have hrest' : ∃ x v, e = .returned (.tuple #[.pointer (some ⟨x, 0, none⟩), .bool true, .int .i64 0]) ∧ w3.heap.size ≤ x ∧ IxAt w4 x w.heap.size w1.heap.size v ∧ Sg.EV (fun g => w3.heap.size ≤ g) w4 v [] ∧
      ∃ P4, Sim.Sys P4 7 w4 w.heap.size r.2 ∧ Kp (fun y => P' y ∨ y = w1.heap.size) w3 w4 ∧ (∀ y, P4 y → P' y ∨ w3.heap.size ≤ y) ∧ ¬ P4 x ∧ ¬ P4 w1.heap.size := by
    rcases hrest with ⟨h, _⟩ | ⟨_, h⟩
    · exact absurd hr0 h
    · exact h
  clear hrest hsv
  obtain ⟨x, v, rfl, hx, hX4, hv4, P4, hS4, hK4, hP4, hx4, hb4⟩ := hrest'
  have hc4 := went_calm hwent
  have hu4 := went_used hwent
  have hxl := hX4.lt
  have HK4 : Hid (Kp No w w4) := HK3.out.trans hK4 (fun y hy => .inr (by
    rcases hy with e | e
    · rcases HP3.out y e with e | e <;> omega
    · omega))
  have HG4 := hid (And.intro hT4 (And.intro hX4 (And.intro hv4 (And.intro hS4 (And.intro hx4 hb4)))))
  have HC4 := hid (And.intro hc4 hu4)
  have hxb : x ≠ w1.heap.size := by omega
  have HPP : Hid (∀ y, P4 y → w.heap.size ≤ y) := fun y hy => by
    rcases hP4 y hy with e | e
    · rcases HP3.out y e with e | e <;> omega
    · omega
  have hxw : w.heap.size ≤ x := by omega
  clear hT4 hX4 hv4 hS4 hK4 hP4 hx4 hb4 hc4 hu4 hwent hx0 HO HK3 HP3 hr0
  go_wp2_with fail
  have HKA : Hid (Kp No w4 (w4.alloc (.cells (Sg.entC e9).toArray 155))) := (Kp.refl _ _).alloc _
  have hsA : (w4.alloc (.cells (Sg.entC e9).toArray 155)).heap.size = w4.heap.size + 1 := by simp
  have hlt4 := HG4.out.2.2.2.1.lt
  refine (add_any (w4.alloc (.cells (Sg.entC e9).toArray 155)) w.heap.size w1.heap.size x r.2 _ v [e9] [] (HG4.out.2.2.2.1.kept HKA.out) (by omega) (HG4.out.1.kp HKA.out (fun h => h)) HG4.out.2.2.2.2.2 (HG4.out.2.1.kp HKA.out (fun h => h)) HG4.out.2.2.2.2.1 hxb (HG4.out.2.2.1.kept HKA.out) (ev9 w4 _ rfl) (by simp) (fun X hs _ => by
    rw [stab9 hs]
    exact ⟨right9, by have := seal9_len; omega, nats_lt (by simp [e9_ok]) (by simp)⟩)).mono ?_
  rintro e w6 ⟨X, r6, w5, hs, _, hk5, hv5, r', hsv, rfl, hX6, _, P6, _, hK6, _⟩
  rw [stab9 hs] at hv5 hsv
  have hr0 : r'.1 = 0 := (save_ok HC4.out.1 (by rw [HC4.out.2.1, HC4.out.2.2, seal0_len]; have := seal9_len; omega) hsv).1
  rw [if_pos hr0] at hX6
  rw [hr0]
  obtain ⟨a6, c6, h6, _⟩ := id hv5
  have h6' : r6 = .slice a6 1 c6 := h6
  clear h6
  subst h6'
  have hv6 : Sg.EV (fun g => w4.heap.size < g) w6 (.slice a6 1 c6) [e9] := (hv5.mono (fun g hg => by omega)).kp hK6 (fun g hg hL => by
    rcases hL with e | e | e
    · have := hlt4 _ e; omega
    · omega
    · omega)
  have HK6 : Hid (Kp No w w6) := ((HK4.out.alloc _).andNone hk5).trans hK6 (fun y hy => .inr (by
    rcases hy with e | e | e
    · exact HPP.out y e
    · omega
    · omega))
  have HG6 := hid (And.intro hX6 hv6)
  clear hX6 hv6 hv5 hk5 hK6 hsv hs hr0 HG4 HC4 HKA HPP hlt4 hsA HK4
  go_wp2_with fail
  refine (find_any w6 x w.heap.size w1.heap.size _ [e9] Sg.h1 HG6.out.1 HG6.out.2 (by simp) rfl (by decide)).mono ?_
  rintro e w7 ⟨hfa, hk7⟩
  have hfe := find9 hfa
  subst hfe
  have HX7 : Hid (IxAt w7 x w.heap.size w1.heap.size (.slice a6 1 c6)) := HG6.out.1.kp hk7 (fun h => h)
  have HK7 := hid (HK6.out.andNone hk7)
  clear hfa hk7 HG6 HK6
  go_wp2_with fail
  refine (len_any _ x w.heap.size w1.heap.size 1 c6 a6 (HX7.out.kp (L := No) ((Kp.refl No w7).alloc _) (fun h => h))).mono ?_
  rintro e w8 ⟨rfl, hw8⟩
  rw [hw8]
  clear hw8
  go_wp2_with fail
  go_ret
  exact ⟨rfl, HK7.out.alloc _⟩

end Go.Proofs.YthmimipoooemjaaGreatDoor.Ix
end

section
/-
  IndexNils, walked.
-/
namespace Go.Proofs.YthmimipoooemjaaGreatDoor.Ix
open Go.RowKit Go.Shelf
open Sim (hid Kp No PS Done Blk nm)

set_option maxHeartbeats 4000000 in
set_option maxRecDepth 100000 in
theorem nils_main (w : World) (bh : List Value) (hl : bh.length = 32) :
    Calls Tryz.prog 8 #[.agg bh.toArray] w fun e w' => e = .returned (.bool true) ∧ Kp No w w' := by
  have HIH : Hid ((Tryz.prog.info? 53).map (·.size) = some bh.length) := by rw [Hid, hl]; exact Sg.infH
  obtain ⟨W0, hW0⟩ : ∃ W0, w.alloc (.cells bh.toArray 53) = W0 := ⟨_, rfl⟩
  have HK0 : Hid (Kp No w W0) := by rw [← hW0]; exact (Kp.refl No w).alloc _
  have hz0 : w.heap.size < W0.heap.size := by rw [← hW0]; simp
  have HBX : Hid (∀ V, Kp No W0 V → V.rangeAt w.heap.size 0 bh) := fun V hV j u hu => (hV.cell (p := ⟨w.heap.size, _, none⟩) (by simp; omega) (fun h => h)).trans (by
    rw [← hW0, World.cell?_alloc_at _ _ _ _ rfl]
    simpa using hu)
  go_enter Tryz.func8, Tryz.ntmps8
  go_wp2_with fail
  clear hW0
  refine (Sim.new_yes 100 (by omega) W0).mono ?_
  rintro e w1 ⟨rfl, _, hK1⟩
  have HK1 := hid hK1
  clear hK1
  go_wp2_with fail
  refine (Crc.new_any w1).mono ?_
  rintro e w2 ⟨rfl, hb2, _, _⟩
  have HK2 : Hid (Kp No W0 w2) := HK1.out.andNone (Kp.below hb2)
  clear hb2 HK1
  go_wp2_with fail
  refine (open_nil w2 _ _).mono ?_
  rintro e w3 ⟨rfl, h3⟩
  subst w3
  go_wp2_with fail
  refine (open_nilH w2 _ _).mono ?_
  rintro e w3 ⟨rfl, h3⟩
  subst w3
  go_wp2_with fail
  refine (load_nil w2 _).mono ?_
  rintro e w3 ⟨rfl, h3⟩
  subst w3
  go_wp2_with fail
  refine (load_nilT w2 _).mono ?_
  rintro e w3 ⟨rfl, h3⟩
  subst w3
  go_wp2_with (refine wpList_load_mid (by rfl) 53 _ (by rfl) w.heap.size 0 (by rfl) bh _ (HBX.out w2 HK2.out) Tryz.underlying53 rfl HIH.out ?_)
  refine (find_nil w2 bh).mono ?_
  rintro e w3 ⟨rfl, hk3⟩
  have HK3 := hid ((HK2.out.andNone hk3).alloc (.cells #[.int .i64 0, .int .i64 0, .int .i64 0] 51))
  clear hk3 HK2 HBX
  go_wp2_with fail
  refine (rebuild0 _ none (fun V _ => (Sh.ids_nil V).mono (by rintro e w' ⟨rfl, h⟩; exact ⟨rfl, by rw [h]; exact Kp.refl _ _⟩))).mono ?_
  rintro e w4 ⟨v, rfl, hv, hk4⟩
  obtain ⟨av, cv, hv', _⟩ := hv
  have hv'' : v = .slice av 0 cv := hv'
  clear hv'
  subst hv''
  have HK4 := hid (HK3.out.andNone hk4)
  clear hk4 HK3
  go_wp2_with fail
  refine (save_nil w4 _ _).mono ?_
  rintro e w5 ⟨rfl, h5⟩
  subst w5
  go_wp2_with fail
  refine (save_nilT w4 _ _ _ _).mono ?_
  rintro e w5 ⟨rfl, h5⟩
  subst w5
  go_wp2_with fail
  refine (len_nil w4).mono ?_
  rintro e w5 ⟨rfl, h5⟩
  subst w5
  go_wp2_with fail
  refine (all_nil w4).mono ?_
  rintro e w5 ⟨rfl, h5⟩
  subst w5
  go_wp2_with fail
  refine (add_nil w4 _).mono ?_
  rintro e w5 ⟨rfl, h5⟩
  subst w5
  go_wp2_with fail
  refine (set_nil w4 _).mono ?_
  rintro e w5 ⟨rfl, h5⟩
  subst w5
  go_wp2_with fail
  refine (alive_any w4).mono ?_
  rintro e w5 ⟨rfl, hk5⟩
  have HK5 := hid ((HK0.out.andNone HK4.out).andNone hk5)
  clear hk5
  go_wp2_with fail
  go_ret
  exact ⟨rfl, HK5.out⟩

end Go.Proofs.YthmimipoooemjaaGreatDoor.Ix
end

section
/-
  Records that came in, opened.
-/
namespace Go.Proofs.YthmimipoooemjaaGreatDoor
open Go.RowKit Go.ChangeShapes Go.WideShapes

theorem mapM_each {α β : Type} {f : α → Option β} : ∀ (L : List α) (ys : List β), L.mapM f = some ys → ∀ i ∈ L, ∃ y, f i = some y
  | [], _, _, i, hi => by simp at hi
  | a :: L, ys, h, i, hi => by
    rw [List.mapM_cons] at h
    simp only [bind, Option.bind_eq_some_iff, pure, Option.some.injEq] at h
    obtain ⟨y, hy, zs, hzs, _⟩ := h
    rcases List.mem_cons.1 hi with rfl | hi
    · exact ⟨y, hy⟩
    · exact mapM_each L zs hzs i hi

section
variable {H : Type} {enc : TypeId × Value → H} {P : Program} {W : World} {base : Nat} {sp : Nat → Bool} {held : Bool} {t e : TypeId} {n : Nat} {q : IntKind}
/-- The cells of an array of integers that came in. -/
theorem arr_ints (hu : P.underlying t = some (.array n e)) (he : P.underlying e = some (.int q)) (h1 : P.cellsOf e = 1) {fuel : Nat} {cs : List Value} {x : DataW H × List MemPlace} (hl : cs.length = n)
    (h : DataW.trod enc P W base sp held fuel t cs = some x) : ∃ zs : List Int, cs = zs.map (fun z => Value.int q z) ∧ zs.length = n ∧ ∀ z ∈ zs, (Lit.int q z).wf = true := by
  cases fuel with
  | zero => simp [DataW.trod] at h
  | succ m =>
    rw [DataW.trod_step] at h
    unfold DataW.trodStep at h
    simp only [hu] at h
    split at h
    · simp only [Option.map_eq_some_iff] at h
      obtain ⟨ys, hy, _⟩ := h
      have hE : ∀ i, i < n → ∃ z, cs[i]? = some (.int q z) ∧ (Lit.int q z).wf = true := fun i hi => by
        obtain ⟨y, hy⟩ := mapM_each _ ys hy i (List.mem_range.2 hi)
        obtain ⟨a, ea, _, wa⟩ := DataW.trod_int he hy
        rw [h1, Nat.mul_one] at ea
        refine ⟨a, ?_, wa⟩
        have h := congrArg (fun l : List Value => l[0]?) ea
        simpa [List.getElem?_take, List.getElem?_drop] using h
      refine ⟨cs.map intOf, ?_, by simpa using hl, ?_⟩
      · apply List.ext_getElem?
        intro i
        by_cases hi : i < n
        · obtain ⟨z, hz, _⟩ := hE i hi
          simp [hz, intOf]
        · have : cs[i]? = none := List.getElem?_eq_none (by omega)
          simp [this]
      · intro z hz
        obtain ⟨x, hx, rfl⟩ := List.mem_map.1 hz
        obtain ⟨i, hi, rfl⟩ := List.getElem_of_mem hx
        obtain ⟨z, hz, hw⟩ := hE i (by omega)
        rw [List.getElem?_eq_getElem hi] at hz
        simp only [Option.some.injEq] at hz
        rw [hz]
        exact hw
    · simp at h
end

/-- A slice of bytes, as it came in. -/
def InRow (W : World) (a : Option Addr) (l c : Nat) : Prop :=
  (a = none ∧ l = 0 ∧ c = 0) ∨ ∃ (y : Addr) (zs : List Int), a = some y ∧ l ≤ c ∧ c ≤ maxLen ∧ zs.length = c ∧ (∀ i, i < zs.length → W.cell? (y.add i) = some (.int .u8 (zs.getD i 0))) ∧ ∀ n ∈ zs, (Lit.int .u8 n).wf = true

theorem InRow.le {W : World} {a : Option Addr} {l c : Nat} (h : InRow W a l c) : l ≤ 9223372036854775807 := by
  rcases h with ⟨_, rfl, _⟩ | ⟨_, _, _, h1, h2, _⟩
  · omega
  · unfold maxLen at h2; omega

theorem spot_none {w : World} {x : Addr} {v : Value} (c0 : w.cell? (x.add 0) = some v) : x.spot = none := by
  have e : x.add 0 = x := rfl
  rw [e] at c0
  unfold World.cell? at c0
  split at c0
  · split at c0
    · cases c0
    · rename_i hs; simpa using hs
  · cases c0

theorem addr_plus (g o i : Nat) : (⟨g, o, none⟩ : Addr).add i = ⟨g, o + i, none⟩ := by unfold Addr.add; split <;> simp_all

theorem u8_wf {y : Int} (h : (Lit.int .u8 y).wf = true) : 0 ≤ y ∧ y ≤ 255 := by
  have hmin : IntKind.u8.min = 0 := rfl
  have hmax : IntKind.u8.max = 255 := rfl
  simp only [Lit.wf, Bool.and_eq_true, decide_eq_true_eq] at h
  omega

theorem InRow.bytes {w : World} {a : Option Addr} {len cap : Nat} (h : InRow w a len cap) (hl : len ≤ 140737488355328) : ∃ bs : List Int, bs.length = len ∧ Tlv.BySl 0 w.heap.size w (.slice a len cap) bs := by
  rcases h with ⟨rfl, rfl, rfl⟩ | ⟨x, zs, rfl, h1, h2, h3, h4, h5⟩
  · exact ⟨[], rfl, Tlv.BySl.none _ _ _⟩
  · have hlen : (zs.take len).length = len := List.length_take_of_le (by omega)
    refine ⟨zs.take len, hlen, _, cap, by rw [hlen], by rw [hlen]; exact h1, h2, by simp, by rw [hlen]; omega, fun y hy => u8_wf (h5 y (List.mem_of_mem_take hy)), fun hne => ?_⟩
    have hpos : 0 < len := by have := List.length_pos_iff.2 hne; omega
    have c0 := h4 0 (by omega)
    have hx := spot_none c0
    obtain ⟨b, o, s⟩ := x
    simp only at hx
    subst hx
    refine ⟨b, o, rfl, Nat.zero_le _, World.block_lt_of_cell? w _ c0, fun i hi => ?_⟩
    have := h4 i (by omega)
    rw [addr_plus] at this
    rw [this]
    rw [hlen] at hi
    simp [hi]

end Go.Proofs.YthmimipoooemjaaGreatDoor
end

section
/-
  A list of the document's entries that came in, opened.
-/
namespace Go.Proofs.YthmimipoooemjaaGreatDoor.Sg
open Go.RowKit Go.ChangeShapes Go.WideShapes
end Go.Proofs.YthmimipoooemjaaGreatDoor.Sg
end

section
/-
  A hash that came in.
-/
namespace Go.Proofs.YthmimipoooemjaaGreatDoor.Ix
open Go.RowKit Go.ChangeShapes Go.WideShapes

set_option maxRecDepth 100000 in
theorem open_hash {H : Type} {enc : TypeId × Value → H} {W : World} {r : Reach} {b0 base : Nat} {sp : Nat → Bool} {held : Bool} {v : Value} {d : DataW H} {ps : List MemPlace}
    (hval : Value.okWide Tryz.prog W r b0 53 v) (hd : DataW.Trod enc Tryz.prog W base sp held 53 v d ps) :
    ∃ nm : List Int, v = .agg (Sg.b8 nm).toArray ∧ nm.length = 32 ∧ ∀ x ∈ nm, 0 ≤ x ∧ x ≤ 255 := by
  have hs : Tryz.prog.cellsOf 53 = 32 := by kernel_rfl
  simp only [Value.okWide, Tryz.underlying53] at hval
  obtain ⟨xs, rfl, hn, _⟩ := hval
  rw [hs] at hn
  obtain ⟨fuel, hf⟩ := hd
  obtain ⟨nm, hnm, hnl, hwf⟩ := arr_ints Tryz.underlying53 Tryz.underlying5 (by kernel_rfl) (by simpa [Value.cells] using hn) hf
  refine ⟨nm, ?_, hnl, fun y hy => u8_wf (hwf y hy)⟩
  have : xs.toList = Sg.b8 nm := hnm
  rw [← this]

end Go.Proofs.YthmimipoooemjaaGreatDoor.Ix
end

section
/-
  A world that holds the listed variables: two errors, three tables.
-/
namespace Go.Proofs.YthmimipoooemjaaGreatDoor
open Go.ChangeShapes Go.WideShapes Go.ChangeAt Go.RowKit

theorem own : ownKnob Tryz.prog.godebug = none := by kernel_rfl
theorem laidOut : laidOutB Tryz.prog = true := by kernel_rfl
abbrev laidFive : List (String × DataW Unit) := Rows.indexNilsRow.laid
def lay (cells : Array Value) : Obj → Obj
  | .cells _ t frozen => .cells cells t frozen
  | o => o
def tab32 : Array Value := (Lib.deBruijn32tab.map fun n : Nat => Value.int .u8 (n : Int)).toArray
def tab64 : Array Value := (Lib.deBruijn64tab.map fun n : Nat => Value.int .u8 (n : Int)).toArray
def tab10 : Array Value := ((List.range 20).map fun n : Nat => Value.int .u64 ((10 ^ n : Nat) : Int)).toArray
def synS : ByteArray := { data := #[105, 110, 118, 97, 108, 105, 100, 32, 115, 121, 110, 116, 97, 120] }
def rngS : ByteArray := { data := #[118, 97, 108, 117, 101, 32, 111, 117, 116, 32, 111, 102, 32, 114, 97, 110, 103, 101] }
theorem laid_met (os : Os) (args : Array Value) : laidMet Tryz.prog laidFive (({ World.holding Tryz.prog os ⟨#[.cells #[.string synS] 358, .cells #[.string rngS] 358], #[], []⟩ with heap := (((((World.holding Tryz.prog os ⟨#[.cells #[.string synS] 358, .cells #[.string rngS] 358], #[], []⟩).heap.modify 1 (lay #[.iface 356 (.pointer (some ⟨11, 0, none⟩))])).modify 2 (lay #[.iface 356 (.pointer (some ⟨12, 0, none⟩))])).modify 0 (lay tab10)).modify 4 (lay tab32)).modify 5 (lay tab64) } : World).forCall (fun _ _ => 0) ⟨#[], args, []⟩).memory :=
  laidMet_of_run' 8 (by kernel_rfl) (by kernel_rfl)
end Go.Proofs.YthmimipoooemjaaGreatDoor
end

section
/-
  The closed facts of IndexNils's row, one by one: which functions her road reaches.
-/
namespace Go.Proofs.YthmimipoooemjaaGreatDoor.indexNils
open Go.ChangeShapes Go.WideShapes Go.ChangeAt Go.RowKit

theorem f10 : (Rows.indexNilsRow.inPlace == Tryz.prog.inPlace 8) = true := by kernel_rfl
theorem f11 : (Rows.indexNilsRow.unfollowed == Tryz.prog.unfollowed 8) = true := by kernel_rfl
theorem f12 : (Rows.indexNilsRow.recurses == Tryz.prog.recurses 8) = true := by kernel_rfl
theorem f13 : (Rows.indexNilsRow.named == Tryz.prog.varsNamed 8) = true := by kernel_rfl
theorem closed : joinedFacts Tryz.prog 8 Tryz.f8 (OpenSpec.ofChange Rows.indexNilsSpec).bare Rows.indexNilsRow = true := by
  unfold joinedFacts
  rw [f10, f11, f12, f13]
  kernel_rfl
end Go.Proofs.YthmimipoooemjaaGreatDoor.indexNils
end
