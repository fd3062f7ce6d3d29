/- Of the proof: the texts SgEntries, SgGet, SgTurnM, SgSame, SgWhere, SgBack, SgBackM, IxOpen0, IxFind, one behind the other. -/
import Derived.Test.YthmimipoooemjaaGreatDoorAbb
import Derived.Test.YthmimipoooemjaaGreatDoorB15
import Derived.Test.YthmimipoooemjaaGreatDoorB6
import Derived.Test.YthmimipoooemjaaGreatDoorB5
import Derived.Test.YthmimipoooemjaaGreatDoorB7
import Derived.Test.YthmimipoooemjaaGreatDoorB11
import Derived.Deep.DeepCutAuto
import Derived.Test.YthmimipoooemjaaGreatDoorB13
import Derived.Test.YthmimipoooemjaaGreatDoorB14
section
/-
  entries of segment: the right entries that a value is the value of.
-/
namespace Go.Proofs.YthmimipoooemjaaGreatDoor.Sg
open Go.RowKit
open Tlv (Tr Agree)
open Sim (hid Kp No)

/-- One more entry behind those that there are. -/
theorem next_E {w wr W1 : World} {ad : Option Addr} {k cap : Nat} {xs : List Ent} {e : Ent} (hM : Mine w wr (.slice ad k cap) xs) (hxk : xs.length = k) (hW : Kp No wr W1) (heo : EOk e) (hk : k ≤ 1000000) (ty : TypeId) :
    ∃ ad2 cap2 w2, (Builtin.append_ #[81, 81] ty #[.slice ad k cap, .slice (some ⟨W1.heap.size, 0, none⟩) 1 1]).run Tryz.prog (W1.alloc (.cells (entC e).toArray 155)) = .ok (.slice ad2 (k + 1) cap2) w2 ∧
      Kp (fun x => (Value.slice ad k cap).ownBlock = some x) wr w2 ∧ Mine w w2 (.slice ad2 (k + 1) cap2) (xs ++ [e]) := by
  have hRA : Sim.Row (W1.alloc (.cells (entC e).toArray 155)) 155 35 (.slice ad k cap) k (ents xs) := by
    have := hM.1
    rw [hxk] at this
    exact this.kept (hW.alloc _)
  have hSC : Sim.Src (W1.alloc (.cells (entC e).toArray 155)) (.slice (some ⟨W1.heap.size, 0, none⟩) 1 1) 1 35 (entC e) := Sim.Src.one W1 (entC e) 35 155 (entC_length heo) (entC_one _)
  obtain ⟨ad2, cap2, w2, hap, hrow2, hgr2, hown2⟩ := app_run _ ty (.slice ad k cap) (.slice (some ⟨W1.heap.size, 0, none⟩) 1 1) k 1 _ _ hRA hSC (by omega) (by omega)
  have HKA : Kp (fun x => (Value.slice ad k cap).ownBlock = some x) wr (W1.alloc (.cells (entC e).toArray 155)) := (hW.ofNo).alloc _
  have HK2 : Kp (fun x => (Value.slice ad k cap).ownBlock = some x) wr w2 := HKA.grown hgr2 (fun x hx => .inl hx)
  refine ⟨ad2, cap2, w2, hap, HK2, ?_, fun x hx => ?_, hM.2.2.trans HK2 (fun x hx => .inr (hM.2.1 x hx))⟩
  · rw [List.length_append, hxk, ents_append]
    have : ents [e] = entC e := by simp [ents]
    rw [this]
    exact hrow2
  · rcases hown2 with e1 | e1
    · exact hM.2.1 x (by rw [← e1]; exact hx)
    · rw [e1] at hx
      cases hx
      exact Nat.le_trans hM.2.2.size HKA.size
theorem wpList_valE {P : Program} {ops : Array Oper} {rest : List Oper} {o : Oper} {a : Act} {Q : Exit → Act → World → Prop} {w w' : World} {v : Value} (hg : o.guard = none) (hr : (execOp a.eval o).run P w = .ok (.value v) w') (h : wpList P ops Q rest (a.put o.dst v) w') : wpList P ops Q (o :: rest) a w :=
  wpList_plain hg fun _ hK => by unfold Oper.wp; rw [hr]; exact hK _ _ h
/-- Entries' cells are whole. -/
def Oks (d : List Ent) : Prop := ∀ x ∈ d, EOk x
theorem run_oneX {e : Ent} (h : EOk e) (w : World) : (Instr.buildSlice 81 1 #[(0, .agg (entC e).toArray)]).run Tryz.prog w = .ok (.slice (some ⟨w.heap.size, 0, none⟩) 1 1) (w.alloc (.cells (entC e).toArray 155)) := by
  obtain ⟨nm, p, q, r⟩ := e
  exact run_oneE nm p q r h.1 w
theorem ksl_get {n L B : Nat} {w w' : World} {R : Tr n → Value → Value → Prop} {v : Value} {ks : List (Tr n)} (h : Tlv.KSl L B w R v ks) {k : Nat} {x : Tr n} (hx : ks[k]? = some x) (hA : Agree L B w w') :
    ∃ b o c sb sk, v = .slice (some ⟨b, o, none⟩) ks.length c ∧ L ≤ b ∧ b < B ∧ w'.cell? ⟨b, o + k * 4, none⟩ = some (.int .i64 x.hd.1) ∧ w'.cell? ⟨b, o + k * 4 + 1, none⟩ = some (.int .u64 x.hd.2.1) ∧ w'.cell? ⟨b, o + k * 4 + 2, none⟩ = some sb ∧ w'.cell? ⟨b, o + k * 4 + 3, none⟩ = some sk ∧ R x sb sk := by
  obtain ⟨a, cap, rfl, h2, h3, h4, h5, h6⟩ := h
  obtain ⟨b, o, rfl, hL, hB, hc⟩ := h6 (by intro e; rw [e] at hx; simp at hx)
  obtain ⟨sb, sk, c0, c1, c2, c3, hr⟩ := hc k x hx
  exact ⟨b, o, cap, sb, sk, rfl, hL, hB, (hA.cell (p := ⟨b, _, none⟩) hL hB).trans c0, (hA.cell (p := ⟨b, _, none⟩) hL hB).trans c1, (hA.cell (p := ⟨b, _, none⟩) hL hB).trans c2, (hA.cell (p := ⟨b, _, none⟩) hL hB).trans c3, hr⟩
theorem entOf_4 {k : Tr 8} {a b c e : Tr 7} (h : k.kd = [a, b, c, e]) : entOf k = (pad32 a.hd.2.2, wrap64 b.hd.2.1, wrap64 c.hd.2.1, wrap64 e.hd.2.1) := by rw [entOf, h]

set_option maxHeartbeats 4000000 in
set_option maxRecDepth 100000 in
theorem entries_any (t : Tr 9) (sb sk : Value) (L B : Nat) (w : World) (h : Tlv.Rep L B w 9 t sb sk) (hB : B ≤ w.heap.size) (hl : t.kd.length ≤ 1000000) :
    Calls Tryz.prog 129 #[.agg #[.int .i64 t.hd.1, .int .u64 t.hd.2.1, sb, sk]] w fun e w' =>
      ((¬ GoodT t ∧ e = .returned (.tuple #[.slice none 0 0, .bool false])) ∨ (GoodT t ∧ ∃ v, e = .returned (.tuple #[v, .bool true]) ∧ Mine w w' v (t.kd.map entOf) ∧ Oks (t.kd.map entOf))) ∧ Kp No w w' := by
  have HREP := hid h
  have HKS := hid h.2.2.2
  obtain ⟨av, lv, cv, ak, lk, ck, rfl, rfl⟩ := h.sl
  obtain ⟨n, hn⟩ : ∃ n, t.kd.length = n := ⟨_, rfl⟩
  have hlk : lk = n := by
    obtain ⟨a, c, e, _⟩ := h.2.2.2
    simp only [Value.slice.injEq] at e
    omega
  subst hlk
  have HN := hid hn
  rw [hn] at hl
  obtain ⟨D, hD⟩ : ∃ D, t.kd.map entOf = D := ⟨_, rfl⟩
  have HD := hid hD
  rw [hD]
  obtain ⟨tag, htag⟩ : ∃ x, t.hd.1 = x := ⟨_, rfl⟩
  obtain ⟨num, hnum⟩ : ∃ x, t.hd.2.1 = x := ⟨_, rfl⟩
  have HH := hid (And.intro htag hnum)
  rw [htag, hnum]
  have hmk : ∀ W, (Instr.makeSlice 81 (.int .i64 0) (.int .i64 (lk : Int))).run Tryz.prog W = .ok (.slice (some ⟨W.heap.size, 0, none⟩) 0 lk) (W.alloc (.cells (madeCells zE.toArray (lk * 35)) 155)) := by
    intro W
    obtain ⟨i0, hi, hz0, hz1, hz2⟩ := info_parts infoE
    have h := run_make (P := Tryz.prog) W 81 155 i0 _ Tryz.underlying81 hi hz0 .i64 .i64 0 (lk : Int) (by omega) (by omega) (by rw [hz2]; omega) (by omega)
    rw [h, hz1]
    rfl
  have HMS : Hid ((madeCells zE.toArray (lk * 35)).size = lk * 35) := size_madeCells _ _
  generalize madeCells zE.toArray (lk * 35) = M at *
  obtain ⟨W0, hW0⟩ : ∃ W0, w.alloc (.cells #[.int .i64 tag, .int .u64 num, .slice av lv cv, .slice ak lk ck] 203) = W0 := ⟨_, rfl⟩
  have HM0 : Hid (Mine W0 (W0.alloc (.cells M 155)) (.slice (some ⟨W0.heap.size, 0, none⟩) 0 lk) []) :=
    ⟨World.ownsRow_made W0 _ lk (Nat.zero_le _) (by unfold maxLen; omega) HMS.out, fun x hx => by simp [Value.ownBlock] at hx; omega, (Kp.refl No W0).alloc _⟩
  have hK0 : Kp No w W0 := by rw [← hW0]; exact (Kp.refl No w).alloc _
  have HK0 := hid hK0
  have hz0 : W0.heap.size = w.heap.size + 1 := by rw [← hW0]; simp
  have HBX : Hid (∀ V, Kp No W0 V → V.cell? ⟨w.heap.size, 0, none⟩ = some (.int .i64 tag) ∧ V.cell? ⟨w.heap.size, 1, none⟩ = some (.int .u64 num) ∧ V.cell? ⟨w.heap.size, 2, none⟩ = some (.slice av lv cv) ∧ V.cell? ⟨w.heap.size, 3, none⟩ = some (.slice ak lk ck) ∧ w.heap.size < V.heap.size) := fun V hV => by
    have hs := hV.size
    have c : ∀ j, V.cell? ⟨w.heap.size, j, none⟩ = W0.cell? ⟨w.heap.size, j, none⟩ := fun j => hV.cell (p := ⟨w.heap.size, j, none⟩) (by simp; omega) (fun x => x)
    rw [c, c, c, c, ← hW0]
    refine ⟨by simp, by simp, by simp, by simp, by omega⟩
  have HZ0 := hid hz0
  have hd3 : (W0.alloc (.cells M 155)).cell? ⟨w.heap.size, 3, none⟩ = some (.slice ak lk ck) := (HBX.out _ ((Kp.refl No W0).alloc _)).2.2.2.1
  have he3 : W0.cell? ⟨w.heap.size, 3, none⟩ = some (.slice ak lk ck) := (HBX.out _ (Kp.refl No W0)).2.2.2.1
  have hzl : w.heap.size < W0.heap.size := by omega
  clear h hn hD htag hnum hz0 hK0
  go_enter Tryz.func129, Tryz.ntmps129
  go_wp2_with fail
  clear hmk he3 hd3 hW0
  go_loopw [4, 14] (fun v4 v14 wr => ∃ (k : Nat) (ad : Option Addr) (cap : Nat), v4 = .slice ad k cap ∧ v14 = .int .i64 (k : Int) ∧ k ≤ lk ∧ Hid (Mine W0 wr (.slice ad k cap) (D.take k)) ∧ Hid (∀ x ∈ t.kd.take k, x.kd.length = 4 ∧ EOk (entOf x))) (fun _ v14 _ => lk - (intOf v14).toNat)
  case atStart => exact ⟨0, _, _, rfl, rfl, Nat.zero_le _, HM0.out, by intro x hx; simp at hx⟩
  case round =>
    obtain ⟨k, ad, cap, rfl, rfl, hkn, HS, H4⟩ := hrel
    by_cases hlt : k < lk
    · have hltI : (k : Int) < (lk : Int) := by omega
      have hwk : IntKind.i64.wrap ((k : Int) + 1) = ((k + 1 : Nat) : Int) := by rw [IntKind.wrap_i64]; omega
      obtain ⟨x, hx⟩ : ∃ x, t.kd[k]? = some x := ⟨_, List.getElem?_eq_getElem (by rw [HN.out]; exact hlt)⟩
      have hKw : Kp No w wr := HK0.out.andNone HS.out.2.2
      have hAw : ∀ V, Kp No wr V → Agree L B w V := fun V hV => Agree.below (((hKw.andNone hV).toBelow').mono hB)
      obtain ⟨bk, ok, ck', sb', sk', ev, hbL, hbB, c0, c1, c2, c3, hrx⟩ := ksl_get HKS.out hx (hAw wr (Kp.refl _ _))
      simp only [Value.slice.injEq] at ev
      obtain ⟨rfl, -, rfl⟩ := ev
      have hbw : bk < wr.heap.size := by have := hKw.size; omega
      have hkk : ∃ m, x.kd.length = m := ⟨_, rfl⟩
      obtain ⟨m, hm⟩ := hkk
      have HMM := hid hm
      obtain ⟨a1, l1, p1, a2, l2, p2, rfl, rfl⟩ := hrx.sl
      have hl2 : l2 = m := by
        obtain ⟨a, c, e, _⟩ := hrx.2.2.2
        simp only [Value.slice.injEq] at e
        omega
      subst hl2
      have HRX := hid hrx
      have HX := hid hx
      have hDk : D[k]? = some (entOf x) := by rw [← HD.out, List.getElem?_map, hx]; rfl
      have HNX : Hid (D.take (k + 1) = D.take k ++ [entOf x]) := by rw [Hid, List.take_add_one, hDk]; rfl
      have hDl : (D.take k).length = k := by rw [List.length_take, ← HD.out, List.length_map, HN.out]; omega
      have HDL := hid hDl
      have HAW := hid hAw
      clear hm hx hrx hDk hDl hAw
      generalize htg : x.hd.1 = tg at *
      generalize hnu : x.hd.2.1 = nu at *
      clear htg hnu
      by_cases h4 : l2 = 4
      · subst h4
        obtain ⟨ka, kb, kc, ke, hkd⟩ := kd4 HMM.out
        have HEO := hid (entOf_4 hkd)
        have HKD := hid hkd
        clear hkd
        go_wp2_with fail
        have HKA : Hid (Kp No wr (wr.alloc (.cells #[.int .i64 tg, .int .u64 nu, .slice a1 l1 p1, .slice a2 4 p2] 203))) := (Kp.refl No wr).alloc _
        have hks : Tlv.KSl L B (wr.alloc (.cells #[.int .i64 tg, .int .u64 nu, .slice a1 l1 p1, .slice a2 4 p2] 203)) (Tlv.Rep L B (wr.alloc (.cells #[.int .i64 tg, .int .u64 nu, .slice a1 l1 p1, .slice a2 4 p2] 203)) 7) (.slice a2 4 p2) [ka, kb, kc, ke] := by
          have := (HRX.out.agree (L' := L) (B' := B) (HAW.out _ HKA.out) (Nat.le_refl _) (Nat.le_refl _)).2.2.2
          rwa [HKD.out] at this
        refine (entry_any ka kb kc ke _ L B _ hks (by have h1 := HKA.out.size; have h2 := HS.out.2.2.size; have h3 := HK0.out.size; omega)).mono ?_
        rintro e w3 ⟨rfl, heo, hb3⟩
        rw [← HEO.out]
        rw [← HEO.out] at heo
        have HK3 : Hid (Kp No wr w3) := HKA.out.andNone (Kp.below hb3)
        have HEK := hid heo
        obtain ⟨ad2, cap2, w4, hap, hk4, hm4⟩ := next_E HS.out HDL.out HK3.out heo (by omega) 81
        have HB2 := hid (run_oneX heo)
        have HM4 : Hid (Mine W0 w4 (.slice ad2 (k + 1) cap2) (D.take (k + 1))) := by rw [HNX.out]; exact hm4
        have H5 : Hid (∀ y ∈ t.kd.take (k + 1), y.kd.length = 4 ∧ EOk (entOf y)) := by
          intro y hy
          rw [List.take_add_one, HX.out] at hy
          rcases List.mem_append.1 hy with hy | hy
          · exact H4.out y hy
          · simp at hy
            subst hy
            exact ⟨by rw [HKD.out]; rfl, heo⟩
        obtain ⟨C, hC⟩ : ∃ C, entC (entOf x) = C := ⟨_, rfl⟩
        rw [hC] at hap HB2 ⊢
        have HAP := hid hap
        clear hC heo hb3 hks hk4 hm4 hap c0 c1 c2 c3
        go_wp2_with (first
          | (refine wpList_valE (by rfl) (exec_sliceE 81 _ rfl (.agg C.toArray) _ rfl (HB2.out _)) ?_)
          | (refine wpList_valE (by rfl) (exec_appE _ _ 81 rfl (.slice ad k cap) (.slice (some ⟨w3.heap.size, 0, none⟩) 1 1) _ rfl rfl HAP.out) ?_))
        go_round
        case rel => exact ⟨k + 1, ad2, cap2, rfl, by first | rfl | go_num, by omega, HM4.out, H5.out⟩
        case measure => simp [intOf]; omega
      · have hne : ((l2 : Int) != 4) = true := by simp; omega
        have HNG : Hid (¬ GoodT t) := fun hg => h4 (by rw [← HMM.out]; exact hg.1 x (List.mem_of_getElem? HX.out))
        have HKW := hid hKw
        clear hKw
        go_wp2_with fail
        go_ret2
        exact ⟨.inl ⟨HNG.out, rfl⟩, HKW.out.alloc _⟩
    · have hltI : ¬ (k : Int) < (lk : Int) := by omega
      have hkn' : k = lk := by omega
      have hDl : D.length = lk := by rw [← HD.out, List.length_map, HN.out]
      have HDT : Hid (Mine W0 wr (.slice ad k cap) D) := by
        have := HS.out
        rw [List.take_of_length_le (by omega)] at this
        exact this
      have HAL : Hid ((∀ x ∈ t.kd, x.kd.length = 4) ∧ ∀ x ∈ D, EOk x) := by
        have h := H4.out
        rw [List.take_of_length_le (by rw [HN.out]; omega)] at h
        refine ⟨fun x hx => (h x hx).1, fun x hx => ?_⟩
        rw [← HD.out] at hx
        obtain ⟨y, hy, rfl⟩ := List.mem_map.1 hx
        exact (h y hy).2
      have HKW : Hid (Kp No w wr) := HK0.out.andNone HDT.out.2.2
      have HEV : Hid (EV (fun g => W0.heap.size ≤ g) wr (.slice ad k cap) D) := ev_of_row HDT.out.1 HAL.out.2 HDT.out.2.1
      have HGD : Hid (GoodT t ↔ RightP D ∧ Tlv.sameT 9 t 3 (entsT D) = true) := by
        rw [Hid, GoodT, HD.out]
        exact ⟨fun h => h.2, fun h => ⟨HAL.out.1, h⟩⟩
      have HMW : Hid (∀ V, Kp No wr V → Mine w V (.slice ad k cap) D) := fun V hV => ⟨HDT.out.1.kept hV, fun x hx => Nat.le_trans HK0.out.size (HDT.out.2.1 x hx), HKW.out.andNone hV⟩
      have HBW : Hid (∀ V, Kp No wr V → V.cell? ⟨w.heap.size, 0, none⟩ = some (.int .i64 tag) ∧ V.cell? ⟨w.heap.size, 1, none⟩ = some (.int .u64 num) ∧ V.cell? ⟨w.heap.size, 2, none⟩ = some (.slice av lv cv) ∧ V.cell? ⟨w.heap.size, 3, none⟩ = some (.slice ak lk ck) ∧ w.heap.size < V.heap.size) := fun V hV => HBX.out V (HDT.out.2.2.andNone hV)
      clear hkn' HS H4 hlt
      go_wp2_with fail
      obtain ⟨okb, hokb⟩ : ∃ okb : Bool, (okb = true ↔ RightP D ∧ Tlv.sameT 9 t 3 (entsT D) = true) := by
        by_cases h : RightP D ∧ Tlv.sameT 9 t 3 (entsT D) = true
        · exact ⟨true, fun _ => h, fun _ => rfl⟩
        · exact ⟨false, fun e => (by cases e), fun e => absurd e h⟩
      have HOK := hid hokb
      clear hokb
      go_cut [38] (fun c wx => c = .bool (!okb) ∧ Hid (Kp No wr wx))
      case first =>
        by_cases hR : RightP D
        · have hob : okb = Tlv.sameT 9 t 3 (entsT D) := by
            rw [Bool.eq_iff_iff]
            exact HOK.out.trans ⟨fun x => x.2, fun x => ⟨hR, x⟩⟩
          have HRT : Hid (∀ V, Kp No wr V → Calls Tryz.prog 112 #[.slice ad k cap] V fun e w' => e = .returned (.bool true) ∧ Kp No V w') := fun V hV => (right_any V _ D _ (HEV.out.kept hV) (by omega)).mono fun e w' h => ⟨by obtain ⟨⟨b, rfl, hb⟩, _⟩ := h; rw [hb.2 hR], h.2⟩
          have HVV : Hid (∀ V, Kp No wr V → Calls Tryz.prog 114 #[.slice ad k cap] V fun e w' => ∃ a3 l3 p3 a4 l4 p4, e = .returned (.agg #[.int .i64 3, .int .u64 0, .slice a3 l3 p3, .slice a4 l4 p4]) ∧ Tlv.Rep 0 w'.heap.size w' 3 (entsT D) (.slice a3 l3 p3) (.slice a4 l4 p4) ∧ Kp No V w') := by
            intro V hV
            refine (value_any V _ D _ (HEV.out.kept hV) hR.places (by omega)).mono ?_
            rintro e w4 ⟨a3, l3, p3, a4, l4, p4, rfl, hr4, hb4⟩
            exact ⟨_, _, _, _, _, _, rfl, hr4.agree (Agree.refl _ _ _) (Nat.zero_le _) (Nat.le_refl _), Kp.below hb4⟩
          have HSS : Hid (∀ V sb' sk', Kp No wr V → Tlv.Rep 0 V.heap.size V 3 (entsT D) sb' sk' → Calls Tryz.prog 171 #[.agg #[.int .i64 tag, .int .u64 num, .slice av lv cv, .slice ak lk ck], .agg #[.int .i64 3, .int .u64 0, sb', sk']] V fun e w' => e = .returned (.bool okb) ∧ Kp No V w') := by
            intro V sb' sk' hV hR2
            have hk := HKW.out.andNone hV
            have h1 := HREP.out.agree (L' := 0) (B' := V.heap.size) (Agree.below (hk.toBelow'.mono hB)) (Nat.zero_le _) (Nat.le_trans hB hk.size)
            have h3 := Tlv.Same_any t (entsT D) _ _ _ _ V h1 hR2 (by omega)
            obtain ⟨e0, e1⟩ := HH.out
            rw [e0, e1, ← hob] at h3
            exact h3.mono fun e w' h => ⟨h.1, Kp.below h.2⟩
          clear hob hR
          refine wp_region_held_drew (S := fun V => Kp No wr V) (by kernel_rfl) ((Kp.refl _ _).drew) (fun hHeld => ?_)
          refine wpAnyH_take (i := 0) (oi := ⟨some 29, .move (.tmp 4), 81, "sealed.go:76", #[], none⟩) (v := .slice ad k cap) rfl (by kernel_rfl) (by kernel_rfl) (by kernel_rfl) (fun _ _ _ h => h) (Or.inl ⟨by rfl, fun w' hw' => by (clear hw'; go_simp)⟩) hHeld ?_
          simp only [Act.put, sjA, sjB, sjC]
          refine wpAnyH_ready (rs := [1]) (by kernel_rfl) (by simp) ?_
          refine AllReadyH.cons (o := ⟨some 30, .call { callee := Callee.value (Operand.func 112), args := #[.tmp 29], argTypes := #[81] }, 4, "sealed.go:76", #[⟨0, .data⟩], none⟩) rfl (fun K hK => ?_) AllReadyH.nil
          go_simp
          refine (HRT.out _ ((Kp.refl No wr).drew)).mono ?_
          rintro e w3 ⟨rfl, hb3⟩
          have HK3 : Hid (Kp No wr w3) := ((Kp.refl No wr).drew).andNone hb3
          clear hb3
          go_wp2_with fail
          refine hK.out _ _ (HK3.out) (fun hh => ?_)
          clear hK K hHeld
          have hHeld := hh
          clear hh
          try simp only [Act.put, sjA, sjB, sjC]
          refine wpAnyH_take (i := 2) (oi := ⟨some 31, .unOp UnOp.not 4 (.tmp 30), 4, "sealed.go:76", #[⟨1, .data⟩], none⟩) (v := .bool false) rfl (by kernel_rfl) (by kernel_rfl) (by kernel_rfl) (fun _ _ _ h => h) (Or.inl ⟨by rfl, fun w' hw' => by (clear hw'; go_simp)⟩) hHeld ?_
          simp only [Act.put, sjA, sjB, sjC]
          refine wpAnyH_take (i := 3) (oi := ⟨some 32, .move (.tmp 31), 4, "sealed.go:76", #[⟨2, .data⟩, ⟨1, .chain⟩], none⟩) (v := .bool false) rfl (by kernel_rfl) (by kernel_rfl) (by kernel_rfl) (fun _ _ _ h => h) (Or.inl ⟨by rfl, fun w' hw' => by (clear hw'; go_simp)⟩) hHeld ?_
          simp only [Act.put, sjA, sjB, sjC]
          refine wpAnyH_take (i := 4) (oi := ⟨some 33, .load 203 (.tmp 1), 203, "sealed.go:76", #[⟨3, .guard⟩], some (3, false)⟩) (v := .agg #[.int .i64 tag, .int .u64 num, .slice av lv cv, .slice ak lk ck]) rfl (by kernel_rfl) (by kernel_rfl) (by kernel_rfl) (fun _ _ _ h => h) (Or.inl ⟨by rfl, fun w' hw' => by (obtain ⟨q0, q1, q2, q3, q4⟩ := HBW.out _ hw'; clear hw'; go_simp)⟩) hHeld ?_
          simp only [Act.put, sjA, sjB, sjC]
          refine wpAnyH_take (i := 5) (oi := ⟨some 34, .move (.tmp 4), 81, "sealed.go:76", #[⟨3, .guard⟩], some (3, false)⟩) (v := .slice ad k cap) rfl (by kernel_rfl) (by kernel_rfl) (by kernel_rfl) (fun _ _ _ h => h) (Or.inl ⟨by rfl, fun w' hw' => by (clear hw'; go_simp)⟩) hHeld ?_
          simp only [Act.put, sjA, sjB, sjC]
          refine wpAnyH_ready (rs := [6]) (by kernel_rfl) (by simp) ?_
          refine AllReadyH.cons (o := ⟨some 35, .call { callee := Callee.value (Operand.func 114), args := #[.tmp 34], argTypes := #[81] }, 203, "sealed.go:76", #[⟨5, .data⟩, ⟨3, .chain⟩, ⟨3, .guard⟩], some (3, false)⟩) rfl (fun K hK => ?_) AllReadyH.nil
          go_simp
          refine (HVV.out w3 HK3.out).mono ?_
          rintro e w4 ⟨a3, l3, p3, a4, l4, p4, rfl, hr4, hb4⟩
          have HR4 := hid hr4
          have HK4 : Hid (Kp No wr w4) := HK3.out.andNone hb4
          clear hr4 hb4
          go_wp2_with fail
          refine hK.out _ _ (HK4.out) (fun hh => ?_)
          clear hK K hHeld
          have hHeld := hh
          clear hh
          try simp only [Act.put, sjA, sjB, sjC]
          refine wpAnyH_ready (rs := [7]) (by kernel_rfl) (by simp) ?_
          refine AllReadyH.cons (o := ⟨some 36, .call { callee := Callee.value (Operand.func 171), args := #[.tmp 33, .tmp 35], argTypes := #[203, 203] }, 4, "sealed.go:76", #[⟨4, .data⟩, ⟨6, .data⟩, ⟨6, .chain⟩, ⟨3, .guard⟩], some (3, false)⟩) rfl (fun K hK => ?_) AllReadyH.nil
          go_simp
          refine (HSS.out w4 _ _ HK4.out HR4.out).mono ?_
          rintro e w5 ⟨rfl, hb5⟩
          have HK5 : Hid (Kp No wr w5) := HK4.out.andNone hb5
          clear hb5
          go_wp2_with fail
          refine hK.out _ _ (HK5.out) (fun hh => ?_)
          clear hK K hHeld
          have hHeld := hh
          clear hh
          try simp only [Act.put, sjA, sjB, sjC]
          refine wpAnyH_take (i := 8) (oi := ⟨some 37, .unOp UnOp.not 4 (.tmp 36), 4, "sealed.go:76", #[⟨7, .data⟩, ⟨3, .guard⟩], some (3, false)⟩) (v := .bool (!okb)) rfl (by kernel_rfl) (by kernel_rfl) (by kernel_rfl) (fun _ _ _ h => h) (Or.inl ⟨by rfl, fun w' hw' => by (clear hw'; go_simp)⟩) hHeld ?_
          simp only [Act.put, sjA, sjB, sjC]
          refine wpAnyH_take (i := 9) (oi := ⟨some 38, .pick (.tmp 32) (Operand.const (Value.bool true)) (.tmp 37), 4, "sealed.go:76", #[⟨3, .data⟩, ⟨8, .data⟩], none⟩) (v := .bool (!okb)) rfl (by kernel_rfl) (by kernel_rfl) (by kernel_rfl) (fun _ _ _ h => h) (Or.inl ⟨by rfl, fun w' hw' => by (clear hw'; go_simp)⟩) hHeld ?_
          simp only [Act.put, sjA, sjB, sjC]
          refine wpAnyH_done (by kernel_rfl) ?_ _
          go_wp2_with fail
          go_meet
          exact ⟨rfl, HK5.out⟩
        · have hob : okb = false := by
            cases okb with
            | false => rfl
            | true => exact absurd (HOK.out.1 rfl).1 hR
          have HRT : Hid (∀ V, Kp No wr V → Calls Tryz.prog 112 #[.slice ad k cap] V fun e w' => e = .returned (.bool false) ∧ Kp No V w') := fun V hV => (right_any V _ D _ (HEV.out.kept hV) (by omega)).mono fun e w' h => ⟨by obtain ⟨⟨b, rfl, hb⟩, _⟩ := h; cases b with | false => rfl | true => exact absurd (hb.1 rfl) hR, h.2⟩
          subst hob
          clear hR
          refine wp_region_held_drew (S := fun V => Kp No wr V) (by kernel_rfl) ((Kp.refl _ _).drew) (fun hHeld => ?_)
          refine wpAnyH_take (i := 0) (oi := ⟨some 29, .move (.tmp 4), 81, "sealed.go:76", #[], none⟩) (v := .slice ad k cap) rfl (by kernel_rfl) (by kernel_rfl) (by kernel_rfl) (fun _ _ _ h => h) (Or.inl ⟨by rfl, fun w' hw' => by (clear hw'; go_simp)⟩) hHeld ?_
          simp only [Act.put, sjA, sjB, sjC]
          refine wpAnyH_ready (rs := [1]) (by kernel_rfl) (by simp) ?_
          refine AllReadyH.cons (o := ⟨some 30, .call { callee := Callee.value (Operand.func 112), args := #[.tmp 29], argTypes := #[81] }, 4, "sealed.go:76", #[⟨0, .data⟩], none⟩) rfl (fun K hK => ?_) AllReadyH.nil
          go_simp
          refine (HRT.out _ ((Kp.refl No wr).drew)).mono ?_
          rintro e w3 ⟨rfl, hb3⟩
          have HK3 : Hid (Kp No wr w3) := ((Kp.refl No wr).drew).andNone hb3
          clear hb3
          go_wp2_with fail
          refine hK.out _ _ (HK3.out) (fun hh => ?_)
          clear hK K hHeld
          have hHeld := hh
          clear hh
          try simp only [Act.put, sjA, sjB, sjC]
          refine wpAnyH_take (i := 2) (oi := ⟨some 31, .unOp UnOp.not 4 (.tmp 30), 4, "sealed.go:76", #[⟨1, .data⟩], none⟩) (v := .bool true) rfl (by kernel_rfl) (by kernel_rfl) (by kernel_rfl) (fun _ _ _ h => h) (Or.inl ⟨by rfl, fun w' hw' => by (clear hw'; go_simp)⟩) hHeld ?_
          simp only [Act.put, sjA, sjB, sjC]
          refine wpAnyH_take (i := 3) (oi := ⟨some 32, .move (.tmp 31), 4, "sealed.go:76", #[⟨2, .data⟩, ⟨1, .chain⟩], none⟩) (v := .bool true) rfl (by kernel_rfl) (by kernel_rfl) (by kernel_rfl) (fun _ _ _ h => h) (Or.inl ⟨by rfl, fun w' hw' => by (clear hw'; go_simp)⟩) hHeld ?_
          simp only [Act.put, sjA, sjB, sjC]
          refine wpAnyH_take (i := 4) (oi := ⟨some 33, .load 203 (.tmp 1), 203, "sealed.go:76", #[⟨3, .guard⟩], some (3, false)⟩) (v := undef) rfl (by kernel_rfl) (by kernel_rfl) (by kernel_rfl) (fun _ _ _ h => h) (Or.inr ⟨by rfl, rfl⟩) hHeld ?_
          simp only [Act.put, sjA, sjB, sjC]
          refine wpAnyH_take (i := 5) (oi := ⟨some 34, .move (.tmp 4), 81, "sealed.go:76", #[⟨3, .guard⟩], some (3, false)⟩) (v := undef) rfl (by kernel_rfl) (by kernel_rfl) (by kernel_rfl) (fun _ _ _ h => h) (Or.inr ⟨by rfl, rfl⟩) hHeld ?_
          simp only [Act.put, sjA, sjB, sjC]
          refine wpAnyH_take (i := 6) (oi := ⟨some 35, .call { callee := Callee.value (Operand.func 114), args := #[.tmp 34], argTypes := #[81] }, 203, "sealed.go:76", #[⟨5, .data⟩, ⟨3, .chain⟩, ⟨3, .guard⟩], some (3, false)⟩) (v := undef) rfl (by kernel_rfl) (by kernel_rfl) (by kernel_rfl) (fun _ _ _ h => h) (Or.inr ⟨by rfl, rfl⟩) hHeld ?_
          simp only [Act.put, sjA, sjB, sjC]
          refine wpAnyH_take (i := 7) (oi := ⟨some 36, .call { callee := Callee.value (Operand.func 171), args := #[.tmp 33, .tmp 35], argTypes := #[203, 203] }, 4, "sealed.go:76", #[⟨4, .data⟩, ⟨6, .data⟩, ⟨6, .chain⟩, ⟨3, .guard⟩], some (3, false)⟩) (v := undef) rfl (by kernel_rfl) (by kernel_rfl) (by kernel_rfl) (fun _ _ _ h => h) (Or.inr ⟨by rfl, rfl⟩) hHeld ?_
          simp only [Act.put, sjA, sjB, sjC]
          refine wpAnyH_take (i := 8) (oi := ⟨some 37, .unOp UnOp.not 4 (.tmp 36), 4, "sealed.go:76", #[⟨7, .data⟩, ⟨3, .guard⟩], some (3, false)⟩) (v := undef) rfl (by kernel_rfl) (by kernel_rfl) (by kernel_rfl) (fun _ _ _ h => h) (Or.inr ⟨by rfl, rfl⟩) hHeld ?_
          simp only [Act.put, sjA, sjB, sjC]
          refine wpAnyH_take (i := 9) (oi := ⟨some 38, .pick (.tmp 32) (Operand.const (Value.bool true)) (.tmp 37), 4, "sealed.go:76", #[⟨3, .data⟩, ⟨8, .data⟩], none⟩) (v := .bool true) rfl (by kernel_rfl) (by kernel_rfl) (by kernel_rfl) (fun _ _ _ h => h) (Or.inl ⟨by rfl, fun w' hw' => by (clear hw'; go_simp)⟩) hHeld ?_
          simp only [Act.put, sjA, sjB, sjC]
          refine wpAnyH_done (by kernel_rfl) ?_ _
          go_wp2_with fail
          go_meet
          exact ⟨rfl, HK3.out⟩
      case rest =>
        obtain ⟨rfl, HKX⟩ := hcut
        cases okb with
        | false =>
          have HNG : Hid (¬ GoodT t) := fun h => by have := HOK.out.2 (HGD.out.1 h); cases this
          go_wp2_with fail
          go_ret2
          exact ⟨.inl ⟨HNG.out, rfl⟩, HKW.out.andNone HKX.out⟩
        | true =>
          have HG : Hid (GoodT t) := HGD.out.2 (HOK.out.1 rfl)
          go_wp2_with fail
          go_ret2
          exact ⟨.inr ⟨HG.out, _, rfl, HMW.out _ HKX.out, HAL.out.2⟩, HKW.out.andNone HKX.out⟩
end Go.Proofs.YthmimipoooemjaaGreatDoor.Sg
end

section
/-
  Get of segment: the entries that bytes were put of.
-/
namespace Go.Proofs.YthmimipoooemjaaGreatDoor.Sg
open Go.RowKit
open Tlv (Tr Agree BySlS)
open Crc (Kept Tab)
open Sim (hid Kp No)

theorem flat_len : ∀ (ks : List (Tr 8)), ks.length ≤ ((ks.map (Tlv.formOf 8)).flatten).length
  | [] => Nat.le_refl _
  | k :: ks => by
    have := flat_len ks
    simp only [List.map_cons, List.flatten_cons, List.length_append, List.length_cons, Tlv.formOf] at this ⊢
    omega
theorem kd_len {bs : List Int} {t : Tr 9} (hb : ∀ x ∈ bs, 0 ≤ x ∧ x ≤ 255) (h : Tlv.getT bs = some t) : t.kd.length ≤ bs.length := by
  rw [Tlv.getT] at h
  cases hq : Tlv.rd 8 bs with
  | none => rw [hq] at h; simp at h
  | some p =>
    obtain ⟨u, m⟩ := p
    rw [hq] at h
    simp only at h
    split at h
    · rename_i hm
      cases h
      obtain ⟨h1, h2⟩ := Tlv.rd_form 8 bs t m hb hq
      rcases (bsz_oe h2).2.2 with h3 | h3
      · have e1 := congrArg List.length h1
        rw [hm, List.take_length] at e1
        have e2 : (Tlv.formOf (8 + 1) t).length = 3 + (Tlv.bodyOf (8 + 1) t).length := by simp [Tlv.formOf]; omega
        rw [e2, Tlv.bodyOf_kids h3] at e1
        have := flat_len t.kd
        omega
      · rw [h3]; simp
    · cases h

/-- What Get leaves. -/
def Got (w w' : World) (b : Nat) (bs : List Int) (e : Ending) : Prop :=
  ∃ v f d, e = .returned (.tuple #[v, .int .i64 f]) ∧ GAns bs f d ∧ Sim.Row w' 155 35 v d.length (ents d) ∧ (∀ x, v.ownBlock = some x → w.heap.size ≤ x) ∧ Oks d ∧ Kept b w w' ∧ TabX w' b
theorem Got.none {w w' : World} {b : Nat} {bs : List Int} {f : Int} (hg : GAns bs f []) (hk : Kept b w w') (ht : TabX w' b) : Got w w' b bs (.returned (.tuple #[.slice none 0 0, .int .i64 f])) :=
  ⟨.slice Option.none 0 0, f, [], rfl, hg, Sim.Row.nil _ _ _, by intro x hx; simp [Value.ownBlock] at hx, by intro x hx; simp at hx, hk, ht⟩

theorem tail_of {bs : List Int} (hb : ∀ x ∈ bs, 0 ≤ x ∧ x ≤ 255) (h : 4 ≤ bs.length) : ∃ y0 y1 y2 y3 : Nat, nats bs = nats (bs.take (bs.length - 4)) ++ [y0, y1, y2, y3] ∧ (Crc.le4 (Crc.more 0 (nats (bs.take (bs.length - 4)))) = [y0, y1, y2, y3] ↔ sealI (bs.take (bs.length - 4)) = bs) := by
  obtain ⟨y0, y1, y2, y3, hy⟩ := tail4 (xs := bs) (m := bs.length - 4) (by omega)
  rw [List.take_of_length_le (by rw [List.length_drop]; omega)] at hy
  have hsp : bs = bs.take (bs.length - 4) ++ bs.drop (bs.length - 4) := (List.take_append_drop _ _).symm
  have hbd : ∀ x ∈ bs.drop (bs.length - 4), 0 ≤ x ∧ x ≤ 255 := fun x hx => hb x (List.mem_of_mem_drop hx)
  refine ⟨y0, y1, y2, y3, ?_, ?_, ?_⟩
  · rw [← hy, ← nats_append, ← hsp]
  · intro e
    rw [sealI, sumI, e, ← hy, ints_nats _ hbd, ← hsp]
  · intro e
    rw [sealI] at e
    have e2 : bs.take (bs.length - 4) ++ sumI (bs.take (bs.length - 4)) = bs.take (bs.length - 4) ++ bs.drop (bs.length - 4) := e.trans hsp
    have e3 := List.append_cancel_left e2
    have e4 := congrArg nats e3
    rw [sumI, nats_ints, hy] at e4
    exact e4

set_option maxHeartbeats 2000000 in
set_option maxRecDepth 100000 in
theorem get_any (b : Nat) (w : World) (v : Value) (bs : List Int) (hT : TabX w b) (h : BySlS (fun g => g ≠ b ∧ g < w.heap.size) w v bs) (hl : bs.length ≤ 80000) :
    Calls Tryz.prog 77 #[.pointer (some ⟨b, 0, none⟩), v] w fun e w' => Got w w' b bs e := by
  have H := hid h
  have HT := hid hT
  have hbw := hT.lt
  obtain ⟨a, cap, rfl, _, _, _, _, h6, _⟩ := h
  have HX := hid h6
  clear hT h6
  by_cases h4 : bs.length < 4
  · have HGA : Hid (GAns bs 3 []) := .inl ⟨h4, rfl, rfl⟩
    have HO := hid (Crc.open_short b (.slice a bs.length cap) (nats bs) w (toCrc H.out (fun g hg => hg)) (by rw [nats_length]; exact h4))
    clear h4
    go_enter Tryz.func77, Tryz.ntmps77
    go_wp2_with fail
    refine HO.out.mono ?_
    rintro e w1 ⟨rfl, rfl⟩
    go_wp2_with fail
    go_ret2
    exact Got.none HGA.out (Kept.refl _ _) HT.out
  · obtain ⟨y0, y1, y2, y3, hn, hseal⟩ := tail_of HX.out (by omega)
    obtain ⟨xs, hxs⟩ : ∃ xs, bs.take (bs.length - 4) = xs := ⟨_, rfl⟩
    have HXS := hid hxs
    have hx6 : ∀ x ∈ xs, 0 ≤ x ∧ x ≤ 255 := by rw [← hxs]; exact fun x hx => HX.out x (List.mem_of_mem_take hx)
    have hxl : xs.length ≤ 80000 := by rw [← hxs, List.length_take]; omega
    rw [hxs] at hn hseal
    obtain ⟨f, n, hf, ht⟩ := HT.out
    have hcs := toCrc (b := b) H.out (fun g hg => hg)
    rw [hn] at hcs
    have HO := hid (Crc.open_any b f n (.slice a bs.length cap) (nats xs) y0 y1 y2 y3 w hf ht hcs (by rw [nats_length]; exact hxl))
    have HSEAL := hid hseal
    have H4 : Hid (4 ≤ bs.length) := by rw [Hid]; omega
    have HX6 := hid hx6
    have HXL := hid hxl
    clear hcs hn hseal hxs ht hf hx6 hxl h4
    go_enter Tryz.func77, Tryz.ntmps77
    go_wp2_with fail
    refine HO.out.mono ?_
    rintro e w1 ⟨hk1, ht1, v', q, rfl, hres⟩
    have HK1 := hid hk1
    have HT1 := hid (TabX.of ht1)
    clear hk1 ht1
    rcases hres with ⟨he, rfl, hby⟩ | ⟨hne, rfl, rfl⟩
    · have HE : Hid (sealI (bs.take (bs.length - 4)) = bs) := by rw [Hid, HXS.out]; exact HSEAL.out.1 he
      have hby2 := ofCrc hby
      rw [ints_nats _ HX6.out] at hby2
      have HBY := hid (hby2.to (B := w1.heap.size) (fun g hg => hg.2))
      obtain ⟨a', c', rfl, _⟩ := HBY.out
      clear he hby hby2
      go_wp2_with fail
      refine (Tlv.get_any _ xs w1 HBY.out).mono ?_
      rintro e w2 ⟨hres, hb2⟩
      have HK2 : Hid (Kept b w w2) := HK1.out.trans (Kept.below hb2)
      have HT2 := hid (HT1.out.below hb2)
      clear hb2
      rcases hres with ⟨hno, rfl⟩ | ⟨t, sb, sk, hs, rfl, hr⟩
      · have HGA : Hid (GAns bs 3 []) := .inr (.inr (.inl ⟨H4.out, HE.out, fun t ht => (by rw [HXS.out, hno] at ht; cases ht), rfl, rfl⟩))
        clear hno
        go_wp2_with fail
        go_ret2
        exact Got.none HGA.out (HK2.out.trans (Kept.below ((Below.refl _ _).alloc (Nat.le_refl _) _))) (HT2.out.below ((Below.refl _ _).alloc (Nat.le_refl _) _))
      · have hkl := kd_len HX6.out hs
        have HKL := hid hkl
        have HS := hid hs
        obtain ⟨a1, l1, p1, a2, l2, p2, rfl, rfl⟩ := hr.sl
        have HR := hid hr
        clear hkl hs hr
        obtain ⟨tg, htg⟩ : ∃ x, t.hd.1 = x := ⟨_, rfl⟩
        obtain ⟨nu, hnu⟩ : ∃ x, t.hd.2.1 = x := ⟨_, rfl⟩
        have HEN : Hid (∀ W, Below w2.heap.size w2 W → Calls Tryz.prog 129 #[.agg #[.int .i64 tg, .int .u64 nu, .slice a1 l1 p1, .slice a2 l2 p2]] W fun e w' =>
            ((¬ GoodT t ∧ e = .returned (.tuple #[.slice none 0 0, .bool false])) ∨ (GoodT t ∧ ∃ v, e = .returned (.tuple #[v, .bool true]) ∧ Mine W w' v (t.kd.map entOf) ∧ Oks (t.kd.map entOf))) ∧ Kp No W w') := fun W hW => by
          rw [← htg, ← hnu]
          exact entries_any t _ _ w1.heap.size w2.heap.size W (HR.out.agree (Agree.below hW) (Nat.le_refl _) (Nat.le_refl _)) hW.size (by have := HKL.out; have := HXL.out; omega)
        rw [htg, hnu]
        clear htg hnu
        go_wp2_with fail
        have hBA : Below w2.heap.size w2 (w2.alloc (.cells #[.int .i64 tg, .int .u64 nu, .slice a1 l1 p1, .slice a2 l2 p2] 203)) := (Below.refl _ _).alloc (Nat.le_refl _) _
        have HBA := hid hBA
        clear hBA
        refine (HEN.out _ HBA.out).mono ?_
        rintro e w3 ⟨hres, hk3⟩
        have HB3 : Hid (Below w2.heap.size w2 w3) := HBA.out.trans (hk3.toBelow'.mono HBA.out.size)
        have HK3 : Hid (Kept b w w3) := HK2.out.trans (Kept.below HB3.out)
        have HT3 := hid (HT2.out.below HB3.out)
        clear hk3
        rcases hres with ⟨hng, rfl⟩ | ⟨hg, v3, rfl, hm, hok⟩
        · have HGA : Hid (GAns bs 3 []) := .inr (.inr (.inl ⟨H4.out, HE.out, fun u hu => (by rw [HXS.out, HS.out] at hu; cases hu; exact hng), rfl, rfl⟩))
          clear hng
          go_wp2_with fail
          go_ret2
          exact Got.none HGA.out HK3.out HT3.out
        · have HGA : Hid (GAns bs 0 (t.kd.map entOf)) := .inr (.inr (.inr ⟨H4.out, HE.out, t, by rw [HXS.out]; exact HS.out, hg, rfl, rfl⟩))
          have HFIN : Hid (Got w w3 b bs (.returned (.tuple #[v3, .int .i64 0]))) := ⟨v3, 0, _, rfl, HGA.out, hm.1, fun x hx => Nat.le_trans (Nat.le_trans HK2.out.size HBA.out.size) (hm.2.1 x hx), hok, HK3.out, HT3.out⟩
          clear hg hm hok HGA
          go_wp2_with fail
          go_ret2
          exact HFIN.out
    · have HGA : Hid (GAns bs 4 []) := .inr (.inl ⟨H4.out, fun e => hne (HSEAL.out.2 (by rw [← HXS.out]; exact e)), rfl, rfl⟩)
      clear hne
      go_wp2_with fail
      go_ret2
      exact Got.none HGA.out HK1.out HT1.out
end Go.Proofs.YthmimipoooemjaaGreatDoor.Sg
end

section
/-
  Plain mathematics: sealed bytes of which one is turned are not sealed.
-/
namespace Go.Proofs.YthmimipoooemjaaGreatDoor.Sg
open Crc (turn)
end Go.Proofs.YthmimipoooemjaaGreatDoor.Sg
end

section
/-
  Two lists of the document's entries: are they the same?
-/
namespace Go.Proofs.YthmimipoooemjaaGreatDoor.Sg
open Go.RowKit
open Sim (hid Kp No)

theorem eqHashAt (D : Nat) (xs ys : List Int) (hx : xs.length = 32) (hy : ys.length = 32) (bx : ∀ x ∈ xs, 0 ≤ x ∧ x ≤ 255) (bY : ∀ x ∈ ys, 0 ≤ x ∧ x ≤ 255) (w : World) :
    (Op.equalIn (D + 2) 53 (.agg (b8 xs).toArray) (.agg (b8 ys).toArray)).run Tryz.prog w = .ok (decide (xs = ys)) w := by
  have h := run_equalIn_bytes (P := Tryz.prog) w D 53 5 32 Tryz.underlying53 Tryz.underlying5 Tryz.sizeOf5 (xs.map fun x => x.toNat.toUInt8) (ys.map fun x => x.toNat.toUInt8) (by simpa using hx) (by simpa using hy)
  rw [cells_b8 xs bx, cells_b8 ys bY] at h
  have e : ((xs.map fun x => x.toNat.toUInt8) == (ys.map fun x => x.toNat.toUInt8)) = decide (xs = ys) := by
    rw [Bool.eq_iff_iff]
    simp only [beq_iff_eq, decide_eq_true_eq]
    exact ⟨map_inj8 xs ys bx bY, fun e => by rw [e]⟩
  rw [e] at h
  exact h
theorem ent_take {x : Ent} (hx : EOk x) : (entC x).take 32 = b8 x.1 := by
  unfold entC
  rw [List.take_append_of_le_length (by rw [b8_length, hx.1]; omega), List.take_of_length_le (by rw [b8_length, hx.1]; omega)]
theorem ent_at {x : Ent} (hx : EOk x) (j : Nat) : (entC x)[32 + j]? = [Value.int .i64 x.2.1, .int .i64 x.2.2.1, .int .i64 x.2.2.2][j]? := by
  unfold entC
  rw [List.getElem?_append_right (by rw [b8_length, hx.1]; omega), b8_length, hx.1, Nat.add_sub_cancel_left]
theorem eqEnt {x y : Ent} (hx : EOk x) (hy : EOk y) (w : World) : (Op.equalIn 10000 159 (.agg (entC x).toArray) (.agg (entC y).toArray)).run Tryz.prog w = .ok (decide (x = y)) w := by
  have p1 := ent_take hx
  have p2 := ent_take hy
  have c0 : (entC x)[32]? = some (.int .i64 x.2.1) := ent_at hx 0
  have c1 : (entC x)[33]? = some (.int .i64 x.2.2.1) := ent_at hx 1
  have c2 : (entC x)[34]? = some (.int .i64 x.2.2.2) := ent_at hx 2
  have d0 : (entC y)[32]? = some (.int .i64 y.2.1) := ent_at hy 0
  have d1 : (entC y)[33]? = some (.int .i64 y.2.2.1) := ent_at hy 1
  have d2 : (entC y)[34]? = some (.int .i64 y.2.2.2) := ent_at hy 2
  have q1 : (Op.equalIn 9999 53 (.agg (b8 x.1).toArray) (.agg (b8 y.1).toArray)).run Tryz.prog w = .ok (decide (x.1 = y.1)) w := eqHashAt 9997 x.1 y.1 hx.1 hy.1 hx.2 hy.2 w
  generalize entC x = X at *
  generalize entC y = Y at *
  generalize b8 x.1 = bx at *
  generalize b8 y.1 = bY at *
  rw [show (10000 : Nat) = 9999 + 1 from rfl, Op.equalIn]
  go_simp
  clear hx hy c0 c1 c2 d0 d1 d2 q1 p1 p2
  obtain ⟨nm, p, q, r⟩ := x
  obtain ⟨nm', p', q', r'⟩ := y
  simp only [Prod.mk.injEq]
  by_cases e0 : nm = nm' <;> by_cases e1 : p = p' <;> by_cases e2 : q = q' <;> by_cases e3 : r = r' <;> simp [e0, e1, e2, e3]

theorem ev_row {P : Nat → Prop} {w : World} {a : Option Addr} {n c : Nat} {d : List Ent} (h : EV P w (.slice a n c) d) (hd : d ≠ []) : ∃ g o, a = some ⟨g, o, none⟩ ∧ P g ∧ ERow w g o d := by
  obtain ⟨a', c', e, _, _, _, _, h6⟩ := h
  simp only [Value.slice.injEq] at e
  rw [e.1]
  exact h6 hd

set_option maxHeartbeats 2000000 in
set_option maxRecDepth 100000 in
theorem same_any (w : World) (v v' : Value) (a b : List Ent) (P P' : Nat → Prop) (hv : EV P w v a) (hv' : EV P' w v' b) (hl : a.length ≤ 1000000) :
    Calls Tryz.prog 38 #[v, v'] w fun e w' => e = .returned (.bool (decide (a = b))) ∧ Kp No w w' := by
  have HV := hid hv
  have HV' := hid hv'
  obtain ⟨x1, c1, e1, _⟩ := hv
  obtain ⟨x2, c2, e2, _⟩ := hv'
  subst e1
  subst e2
  obtain ⟨n, hn⟩ : ∃ n, a.length = n := ⟨_, rfl⟩
  obtain ⟨m, hm⟩ : ∃ m, b.length = m := ⟨_, rfl⟩
  have HN := hid hn
  have HM := hid hm
  rw [hn] at HV hl ⊢
  rw [hm] at HV' ⊢
  clear hn hm
  obtain ⟨z, hz⟩ : ∃ z, decide (a = b) = z := ⟨_, rfl⟩
  rw [hz]
  have HZ := hid hz
  clear hz
  by_cases hnm : n = m
  · subst hnm
    go_enter Tryz.func38, Tryz.ntmps38
    go_wp2_with fail
    go_loopw [5] (fun v5 wr => ∃ (k : Nat), v5 = .int .i64 (k : Int) ∧ k ≤ n ∧ Hid (a.take k = b.take k) ∧ Hid (Kp No w wr)) (fun v5 _ => n - (intOf v5).toNat)
    case atStart => exact ⟨0, rfl, Nat.zero_le _, rfl, Kp.refl _ _⟩
    case round =>
      obtain ⟨k, rfl, hkn, HS, HK⟩ := hrel
      by_cases hlt : k < n
      · have hltI : (k : Int) < (n : Int) := by omega
        have hwk : IntKind.i64.wrap ((k : Int) + 1) = ((k + 1 : Nat) : Int) := by rw [IntKind.wrap_i64]; omega
        obtain ⟨x, hx⟩ : ∃ x, a[k]? = some x := ⟨_, List.getElem?_eq_getElem (by rw [HN.out]; exact hlt)⟩
        obtain ⟨y, hy⟩ : ∃ y, b[k]? = some y := ⟨_, List.getElem?_eq_getElem (by rw [HM.out]; exact hlt)⟩
        obtain ⟨g, o, rfl, _, hr⟩ := ev_row (HV.out.kept HK.out) (by intro e; have := HN.out; rw [e] at this; simp at this; omega)
        obtain ⟨g', o', rfl, _, hr'⟩ := ev_row (HV'.out.kept HK.out) (by intro e; have := HM.out; rw [e] at this; simp at this; omega)
        obtain ⟨hxo, hxr⟩ := hr.2 k x hx
        obtain ⟨hyo, hyr⟩ := hr'.2 k y hy
        have HQ := hid (fun W => eqEnt hxo hyo W)
        have hq := HQ.out
        have HX := hid hxr
        have HY := hid hyr
        have HI1 : Hid ((Tryz.prog.info? 159).map (·.size) = some (entC x).length) := by rw [Hid, entC_length hxo]; kernel_rfl
        have HI2 : Hid ((Tryz.prog.info? 159).map (·.size) = some (entC y).length) := by rw [Hid, entC_length hyo]; kernel_rfl
        have HGW := hid hr.1
        have HGW' := hid hr'.1
        have HGX := hid hx
        have HGY := hid hy
        clear hr hr' hxo hyo hxr hyr hx hy HQ
        obtain ⟨zz, hzz⟩ : ∃ zz, decide (x = y) = zz := ⟨_, rfl⟩
        rw [hzz] at hq
        have HZZ := hid hzz
        clear hzz
        generalize entC x = X at *
        generalize entC y = Y at *
        have HLX : Hid (∀ V, Kp No wr V → V.rangeAt g (o + k * 35) X) := fun V hV j u hj => (hV.cell (p := ⟨g, _, none⟩) HGW.out (fun x => x)).trans (HX.out j u hj)
        have HLY : Hid (∀ V, Kp No wr V → V.rangeAt g' (o' + k * 35) Y) := fun V hV j u hj => (hV.cell (p := ⟨g', _, none⟩) HGW'.out (fun x => x)).trans (HY.out j u hj)
        cases zz with
        | true =>
          have HN2 : Hid (a.take (k + 1) = b.take (k + 1)) := by
            rw [Hid, List.take_add_one, List.take_add_one, HS.out, HGX.out, HGY.out, of_decide_eq_true HZZ.out]
          go_wp2_with fail
          refine wp_region_held_drew (S := fun V => Kp No wr V) (by kernel_rfl) ((Kp.refl _ _).drew) (fun hHeld => ?_)
          refine wpAnyH_take (i := 0) (oi := ⟨some 17, .move (.tmp 0), 77, "ref.go:148", #[], none⟩) (v := .slice (some ⟨g, o, none⟩) n c1) rfl (by kernel_rfl) (by kernel_rfl) (by kernel_rfl) (fun _ _ _ h => h) (Or.inl ⟨by rfl, fun w' hw' => by (clear hw'; go_simp)⟩) hHeld ?_
          simp only [Act.put, sjA, sjB, sjC]
          refine wpAnyH_take (i := 1) (oi := ⟨some 18, .move (.tmp 5), 3, "ref.go:148", #[], none⟩) (v := .int .i64 (k : Int)) rfl (by kernel_rfl) (by kernel_rfl) (by kernel_rfl) (fun _ _ _ h => h) (Or.inl ⟨by rfl, fun w' hw' => by (clear hw'; go_simp)⟩) hHeld ?_
          simp only [Act.put, sjA, sjB, sjC]
          refine wpAnyH_take (i := 2) (oi := ⟨some 19, .indexAddr 77 (.tmp 17) (.tmp 18), 0, "ref.go:148", #[⟨0, .data⟩, ⟨1, .data⟩], none⟩) (v := .pointer (some ⟨g, o + k * 35, none⟩)) rfl (by kernel_rfl) (by kernel_rfl) (by kernel_rfl) (fun _ _ _ h => h) (Or.inl ⟨by rfl, fun w' hw' => by (clear hw'; go_simp)⟩) hHeld ?_
          simp only [Act.put, sjA, sjB, sjC]
          refine wpAnyH_take (i := 3) (oi := ⟨some 20, .load 159 (.tmp 19), 159, "ref.go:148", #[⟨2, .data⟩], none⟩) (v := .agg X.toArray) rfl (by kernel_rfl) (by kernel_rfl) (by kernel_rfl) (fun _ _ _ h => h) (yieldsIf_load_mid (by rfl) _ _ rfl g (o + k * 35) rfl X _ (HLX.out) Tryz.underlying159 rfl HI1.out) hHeld ?_
          simp only [Act.put, sjA, sjB, sjC]
          refine wpAnyH_take (i := 4) (oi := ⟨some 21, .move (.tmp 1), 77, "ref.go:148", #[], none⟩) (v := .slice (some ⟨g', o', none⟩) n c2) rfl (by kernel_rfl) (by kernel_rfl) (by kernel_rfl) (fun _ _ _ h => h) (Or.inl ⟨by rfl, fun w' hw' => by (clear hw'; go_simp)⟩) hHeld ?_
          simp only [Act.put, sjA, sjB, sjC]
          refine wpAnyH_take (i := 5) (oi := ⟨some 22, .move (.tmp 5), 3, "ref.go:148", #[], none⟩) (v := .int .i64 (k : Int)) rfl (by kernel_rfl) (by kernel_rfl) (by kernel_rfl) (fun _ _ _ h => h) (Or.inl ⟨by rfl, fun w' hw' => by (clear hw'; go_simp)⟩) hHeld ?_
          simp only [Act.put, sjA, sjB, sjC]
          refine wpAnyH_take (i := 6) (oi := ⟨some 23, .indexAddr 77 (.tmp 21) (.tmp 22), 0, "ref.go:148", #[⟨4, .data⟩, ⟨5, .data⟩], none⟩) (v := .pointer (some ⟨g', o' + k * 35, none⟩)) rfl (by kernel_rfl) (by kernel_rfl) (by kernel_rfl) (fun _ _ _ h => h) (Or.inl ⟨by rfl, fun w' hw' => by (clear hw'; go_simp)⟩) hHeld ?_
          simp only [Act.put, sjA, sjB, sjC]
          refine wpAnyH_take (i := 7) (oi := ⟨some 24, .load 159 (.tmp 23), 159, "ref.go:148", #[⟨6, .data⟩], none⟩) (v := .agg Y.toArray) rfl (by kernel_rfl) (by kernel_rfl) (by kernel_rfl) (fun _ _ _ h => h) (yieldsIf_load_mid (by rfl) _ _ rfl g' (o' + k * 35) rfl Y _ (HLY.out) Tryz.underlying159 rfl HI2.out) hHeld ?_
          simp only [Act.put, sjA, sjB, sjC]
          refine wpAnyH_take (i := 8) (oi := ⟨some 25, .binOp BinOp.neq 159 (.tmp 20) (.tmp 24) 159, 4, "ref.go:148", #[⟨3, .data⟩, ⟨7, .data⟩], none⟩) (v := .bool false) rfl (by kernel_rfl) (by kernel_rfl) (by kernel_rfl) (fun _ _ _ h => h) (Or.inl ⟨by rfl, fun w' hw' => by (clear hw'; go_simp)⟩) hHeld ?_
          simp only [Act.put, sjA, sjB, sjC]
          refine wpAnyH_done (by kernel_rfl) ?_ _
          clear hHeld
          go_wp2_with fail
          go_round
          case rel => exact ⟨k + 1, by first | rfl | go_num, by omega, HN2.out, HK.out.drew⟩
          case measure => simp [intOf]; omega
        | false =>
          have HNO : Hid (z = false) := by
            rw [Hid, ← HZ.out, decide_eq_false_iff_not]
            intro e
            have h1 := HGX.out
            rw [e, HGY.out] at h1
            cases h1
            have h2 := HZZ.out
            simp at h2
          go_wp2_with fail
          refine wp_region_held_drew (S := fun V => Kp No wr V) (by kernel_rfl) ((Kp.refl _ _).drew) (fun hHeld => ?_)
          refine wpAnyH_take (i := 0) (oi := ⟨some 17, .move (.tmp 0), 77, "ref.go:148", #[], none⟩) (v := .slice (some ⟨g, o, none⟩) n c1) rfl (by kernel_rfl) (by kernel_rfl) (by kernel_rfl) (fun _ _ _ h => h) (Or.inl ⟨by rfl, fun w' hw' => by (clear hw'; go_simp)⟩) hHeld ?_
          simp only [Act.put, sjA, sjB, sjC]
          refine wpAnyH_take (i := 1) (oi := ⟨some 18, .move (.tmp 5), 3, "ref.go:148", #[], none⟩) (v := .int .i64 (k : Int)) rfl (by kernel_rfl) (by kernel_rfl) (by kernel_rfl) (fun _ _ _ h => h) (Or.inl ⟨by rfl, fun w' hw' => by (clear hw'; go_simp)⟩) hHeld ?_
          simp only [Act.put, sjA, sjB, sjC]
          refine wpAnyH_take (i := 2) (oi := ⟨some 19, .indexAddr 77 (.tmp 17) (.tmp 18), 0, "ref.go:148", #[⟨0, .data⟩, ⟨1, .data⟩], none⟩) (v := .pointer (some ⟨g, o + k * 35, none⟩)) rfl (by kernel_rfl) (by kernel_rfl) (by kernel_rfl) (fun _ _ _ h => h) (Or.inl ⟨by rfl, fun w' hw' => by (clear hw'; go_simp)⟩) hHeld ?_
          simp only [Act.put, sjA, sjB, sjC]
          refine wpAnyH_take (i := 3) (oi := ⟨some 20, .load 159 (.tmp 19), 159, "ref.go:148", #[⟨2, .data⟩], none⟩) (v := .agg X.toArray) rfl (by kernel_rfl) (by kernel_rfl) (by kernel_rfl) (fun _ _ _ h => h) (yieldsIf_load_mid (by rfl) _ _ rfl g (o + k * 35) rfl X _ (HLX.out) Tryz.underlying159 rfl HI1.out) hHeld ?_
          simp only [Act.put, sjA, sjB, sjC]
          refine wpAnyH_take (i := 4) (oi := ⟨some 21, .move (.tmp 1), 77, "ref.go:148", #[], none⟩) (v := .slice (some ⟨g', o', none⟩) n c2) rfl (by kernel_rfl) (by kernel_rfl) (by kernel_rfl) (fun _ _ _ h => h) (Or.inl ⟨by rfl, fun w' hw' => by (clear hw'; go_simp)⟩) hHeld ?_
          simp only [Act.put, sjA, sjB, sjC]
          refine wpAnyH_take (i := 5) (oi := ⟨some 22, .move (.tmp 5), 3, "ref.go:148", #[], none⟩) (v := .int .i64 (k : Int)) rfl (by kernel_rfl) (by kernel_rfl) (by kernel_rfl) (fun _ _ _ h => h) (Or.inl ⟨by rfl, fun w' hw' => by (clear hw'; go_simp)⟩) hHeld ?_
          simp only [Act.put, sjA, sjB, sjC]
          refine wpAnyH_take (i := 6) (oi := ⟨some 23, .indexAddr 77 (.tmp 21) (.tmp 22), 0, "ref.go:148", #[⟨4, .data⟩, ⟨5, .data⟩], none⟩) (v := .pointer (some ⟨g', o' + k * 35, none⟩)) rfl (by kernel_rfl) (by kernel_rfl) (by kernel_rfl) (fun _ _ _ h => h) (Or.inl ⟨by rfl, fun w' hw' => by (clear hw'; go_simp)⟩) hHeld ?_
          simp only [Act.put, sjA, sjB, sjC]
          refine wpAnyH_take (i := 7) (oi := ⟨some 24, .load 159 (.tmp 23), 159, "ref.go:148", #[⟨6, .data⟩], none⟩) (v := .agg Y.toArray) rfl (by kernel_rfl) (by kernel_rfl) (by kernel_rfl) (fun _ _ _ h => h) (yieldsIf_load_mid (by rfl) _ _ rfl g' (o' + k * 35) rfl Y _ (HLY.out) Tryz.underlying159 rfl HI2.out) hHeld ?_
          simp only [Act.put, sjA, sjB, sjC]
          refine wpAnyH_take (i := 8) (oi := ⟨some 25, .binOp BinOp.neq 159 (.tmp 20) (.tmp 24) 159, 4, "ref.go:148", #[⟨3, .data⟩, ⟨7, .data⟩], none⟩) (v := .bool true) rfl (by kernel_rfl) (by kernel_rfl) (by kernel_rfl) (fun _ _ _ h => h) (Or.inl ⟨by rfl, fun w' hw' => by (clear hw'; go_simp)⟩) hHeld ?_
          simp only [Act.put, sjA, sjB, sjC]
          refine wpAnyH_done (by kernel_rfl) ?_ _
          clear hHeld
          go_wp2_with fail
          go_ret
          exact ⟨by rw [HNO.out]; rfl, HK.out.drew⟩
      · have hltI : ¬ (k : Int) < (n : Int) := by omega
        have HYE : Hid (z = true) := by
          rw [Hid, ← HZ.out, decide_eq_true_eq]
          have h := HS.out
          rwa [List.take_of_length_le (by rw [HN.out]; omega), List.take_of_length_le (by rw [HM.out]; omega)] at h
        go_wp2_with fail
        go_ret
        exact ⟨by rw [HYE.out]; rfl, HK.out⟩
  · have hne : ((n : Int) != (m : Int)) = true := by simp; omega
    have HNO : Hid (z = false) := by
      rw [Hid, ← HZ.out, decide_eq_false_iff_not]
      intro e
      exact hnm (by rw [← HN.out, ← HM.out, e])
    go_enter Tryz.func38, Tryz.ntmps38
    go_wp2_with fail
    go_ret
    exact ⟨by rw [HNO.out]; rfl, Kp.refl _ _⟩
end Go.Proofs.YthmimipoooemjaaGreatDoor.Sg
end

section
/-
  Where of the tenth law: a place of the program's type as the document's.
-/
namespace Go.Proofs.YthmimipoooemjaaGreatDoor.Sg
open Go.RowKit
open Sim (hid Kp No)

set_option maxHeartbeats 1000000 in
set_option maxRecDepth 100000 in
theorem where_any (p q r : Int) (w : World) :
    Calls Tryz.prog 78 #[.agg #[.int .i64 p, .int .i64 q, .int .i64 r]] w fun e w' => e = .returned (.agg #[.int .i64 p, .int .i64 q, .int .i64 r]) ∧ Kp No w w' := by
  go_enter Tryz.func78, Tryz.ntmps78
  go_wp2
  refine bodyPost_ret (v := .agg #[.int .i64 p, .int .i64 q, .int .i64 r]) (by simp [results, Tryz.results78, go_sem]) rfl ⟨rfl, ?_⟩
  exact ((Kp.refl No w).alloc _).alloc _
end Go.Proofs.YthmimipoooemjaaGreatDoor.Sg
end

section
/-
  Back of the tenth law: entries of the program's type as the document's.
-/
namespace Go.Proofs.YthmimipoooemjaaGreatDoor.Sg
open Go.RowKit
open Stb (Stab Srt Mrg)
open Sim (hid Kp No)

theorem infoR : (Tryz.prog.info? 159).map (fun i => (i.zero, i.size, i.bytes)) = some (some (.agg zE.toArray), 35, 56) := by kernel_rfl
theorem builtR (nm : List Int) (p q r : Int) (h : nm.length = 32) : Tryz.prog.built 159 [(0, .agg (b8 nm).toArray), (1, .agg #[.int .i64 p, .int .i64 q, .int .i64 r])] = some (entC (nm, p, q, r)).toArray := by
  obtain ⟨x0, x1, x2, x3, x4, x5, x6, x7, x8, x9, x10, x11, x12, x13, x14, x15, x16, x17, x18, x19, x20, x21, x22, x23, x24, x25, x26, x27, x28, x29, x30, x31, rfl⟩ := x32 h
  kernel_rfl
theorem run_oneR (nm : List Int) (p q r : Int) (h : nm.length = 32) (w : World) : (Instr.buildSlice 77 1 #[(0, .agg (entC (nm, p, q, r)).toArray)]).run Tryz.prog w = .ok (.slice (some ⟨w.heap.size, 0, none⟩) 1 1) (w.alloc (.cells (entC (nm, p, q, r)).toArray 159)) := by
  obtain ⟨x0, x1, x2, x3, x4, x5, x6, x7, x8, x9, x10, x11, x12, x13, x14, x15, x16, x17, x18, x19, x20, x21, x22, x23, x24, x25, x26, x27, x28, x29, x30, x31, rfl⟩ := x32 h
  kernel_rfl
theorem own_rowT {ty : TypeId} {w : World} {g n cap : Nat} {d : List Ent} (h : Sim.Row w ty 35 (.slice (some ⟨g, 0, none⟩) n cap) n (ents d)) (hn : d.length = n) (hd : ∀ e ∈ d, EOk e) : EOwn w g 0 d := by
  have hg : g < w.heap.size := h.lt g rfl
  refine ⟨⟨hg, fun i e hi => ⟨hd e (List.mem_of_getElem? hi), fun j u hj => ?_⟩⟩, fun i hi j hj => ?_⟩
  · have hil := (List.getElem?_eq_some_iff.1 hi).1
    have hjl := (List.getElem?_eq_some_iff.1 hj).1
    rw [entC_length (hd e (List.mem_of_getElem? hi))] at hjl
    rw [Nat.zero_add, h.cellAt (i * 35 + j) (by omega), ents_at d hd i j e hi hjl]
    exact hj
  · have hx : ∃ u, (ents d)[i * 35 + j]? = some u := ⟨_, List.getElem?_eq_getElem (by rw [ents_length d hd]; omega)⟩
    obtain ⟨u, hu⟩ := hx
    rw [Nat.zero_add, h.cellAt (i * 35 + j) (by omega), hu]
    exact ⟨rfl, World.ownsRow.frozenAt h _⟩
theorem ev_of_rowT {ty : TypeId} {w : World} {v : Value} {d : List Ent} {P : Nat → Prop} (h : Sim.Row w ty 35 v d.length (ents d)) (hd : ∀ e ∈ d, EOk e) (hP : ∀ x, v.ownBlock = some x → P x) : EV P w v d := by
  obtain ⟨a, cap, rfl, h2, h3, h4, h5⟩ := h.shape
  refine ⟨a, cap, rfl, h2, h3, fun e => ⟨List.length_eq_zero_iff.1 (h4 e).1, (h4 e).2⟩, hd, fun hne => ?_⟩
  cases a with
  | none => exact absurd (List.length_eq_zero_iff.1 (h4 rfl).1) hne
  | some x =>
    obtain ⟨g, o, sp⟩ := x
    obtain ⟨e1, e2⟩ := h5 _ rfl
    cases e1
    cases e2
    exact ⟨g, 0, rfl, hP g rfl, (own_rowT h rfl hd).1⟩

/-- A row of the document's entries, of the call's own, that began at u. -/
def MineR (u w : World) (v : Value) (d : List Ent) : Prop := Sim.Row w 159 35 v d.length (ents d) ∧ (∀ x, v.ownBlock = some x → u.heap.size ≤ x) ∧ Kp No u w
theorem MineR.nil (w : World) : MineR w w (.slice none 0 0) [] := ⟨Sim.Row.nil _ _ _, by intro x hx; simp [Value.ownBlock] at hx, Kp.refl _ _⟩
theorem app_runR (w : World) (ty : TypeId) (v vx : Value) (n m : Nat) (xs ys : List Value) (hown : Sim.Row w 159 35 v n xs) (hy : Sim.Src w vx m 35 ys) (hm : 0 < m) (hlen : n + m ≤ 2000000) :
    ∃ ad cap w', (Builtin.append_ #[77, 77] ty #[v, vx]).run Tryz.prog w = .ok (.slice ad (n + m) cap) w' ∧ Sim.Row w' 159 35 (.slice ad (n + m) cap) (n + m) (xs ++ ys) ∧ w.grownBy w' v.ownBlock ∧ ((Value.slice ad (n + m) cap).ownBlock = v.ownBlock ∨ (Value.slice ad (n + m) cap).ownBlock = some w.heap.size) := by
  obtain ⟨i0, hi, hz0, hz1', hz2⟩ := info_parts infoR
  rcases hy with ⟨rfl, rfl, rfl⟩ | ⟨ad, c, rfl, hl, hc, h1⟩
  · omega
  · obtain ⟨v', w', hr, h8, h9, _, h10⟩ := run_append_own_at (P := Tryz.prog) w 0 77 ty 159 i0 (.agg zE.toArray) 35 56 Tryz.underlying77 hi hz0 hz1' hz2 rfl (by omega) v n xs hown ad m c ys hl hc h1 (by unfold maxLen; omega) (by omega) (Nat.zero_le _)
    have h8' : Sim.Row w' 159 35 v' (n + m) (xs ++ ys) := h8
    obtain ⟨ad', cap', rfl, _⟩ := h8'.shape
    exact ⟨ad', cap', w', hr, h8, h9, h10⟩

/-- One more of the document's entries behind those that there are. -/
theorem next_R {w wr W1 : World} {ad : Option Addr} {k cap : Nat} {xs : List Ent} {e : Ent} (hM : MineR w wr (.slice ad k cap) xs) (hxk : xs.length = k) (hW : Kp No wr W1) (heo : EOk e) (hk : k ≤ 1000000) (ty : TypeId) :
    ∃ ad2 cap2 w2, (Builtin.append_ #[77, 77] ty #[.slice ad k cap, .slice (some ⟨W1.heap.size, 0, none⟩) 1 1]).run Tryz.prog (W1.alloc (.cells (entC e).toArray 159)) = .ok (.slice ad2 (k + 1) cap2) w2 ∧
      Kp (fun x => (Value.slice ad k cap).ownBlock = some x) wr w2 ∧ MineR w w2 (.slice ad2 (k + 1) cap2) (xs ++ [e]) := by
  have hRA : Sim.Row (W1.alloc (.cells (entC e).toArray 159)) 159 35 (.slice ad k cap) k (ents xs) := by
    have := hM.1
    rw [hxk] at this
    exact this.kept (hW.alloc _)
  have hSC : Sim.Src (W1.alloc (.cells (entC e).toArray 159)) (.slice (some ⟨W1.heap.size, 0, none⟩) 1 1) 1 35 (entC e) := Sim.Src.one W1 (entC e) 35 159 (entC_length heo) (entC_one _)
  obtain ⟨ad2, cap2, w2, hap, hrow2, hgr2, hown2⟩ := app_runR _ ty (.slice ad k cap) (.slice (some ⟨W1.heap.size, 0, none⟩) 1 1) k 1 _ _ hRA hSC (by omega) (by omega)
  have HKA : Kp (fun x => (Value.slice ad k cap).ownBlock = some x) wr (W1.alloc (.cells (entC e).toArray 159)) := (hW.ofNo).alloc _
  have HK2 : Kp (fun x => (Value.slice ad k cap).ownBlock = some x) wr w2 := HKA.grown hgr2 (fun x hx => .inl hx)
  refine ⟨ad2, cap2, w2, hap, HK2, ?_, fun x hx => ?_, hM.2.2.trans HK2 (fun x hx => .inr (hM.2.1 x hx))⟩
  · rw [List.length_append, hxk, ents_append]
    have : ents [e] = entC e := by simp [ents]
    rw [this]
    exact hrow2
  · rcases hown2 with e1 | e1
    · exact hM.2.1 x (by rw [← e1]; exact hx)
    · rw [e1] at hx
      cases hx
      exact Nat.le_trans hM.2.2.size HKA.size

set_option maxHeartbeats 4000000 in
set_option maxRecDepth 100000 in
theorem back_any (w : World) (v : Value) (d : List Ent) (P : Nat → Prop) (hv : EV P w v d) (hl : d.length ≤ 1000000) :
    Calls Tryz.prog 37 #[v] w fun e w' => ∃ r, e = .returned r ∧ MineR w w' r d := by
  obtain ⟨a, c, rfl, h2, h3, h4, h5, h6⟩ := hv
  obtain ⟨n, hn⟩ : ∃ n, d.length = n := ⟨_, rfl⟩
  have HN := hid hn
  rw [hn] at hl ⊢
  have H6 := hid h6
  have HM0 : Hid (MineR w w (.slice none 0 0) (d.take 0)) := MineR.nil w
  clear hn h2 h3 h4 h5 h6
  go_enter Tryz.func37, Tryz.ntmps37
  go_wp2_with fail
  go_loopw [3, 4] (fun v3 v4 wr => ∃ (k : Nat) (ad : Option Addr) (cap : Nat), v3 = .slice ad k cap ∧ v4 = .int .i64 (k : Int) ∧ k ≤ n ∧ Hid (MineR w wr (.slice ad k cap) (d.take k))) (fun _ v4 _ => n - (intOf v4).toNat)
  case atStart => exact ⟨0, none, 0, rfl, rfl, Nat.zero_le _, HM0.out⟩
  case round =>
    obtain ⟨k, ad, cap, rfl, rfl, hkn, HS⟩ := hrel
    by_cases hlt : k < n
    · have hltI : (k : Int) < (n : Int) := by omega
      have hwk : IntKind.i64.wrap ((k : Int) + 1) = ((k + 1 : Nat) : Int) := by rw [IntKind.wrap_i64]; omega
      obtain ⟨g, o, rfl, _, hr⟩ := H6.out (by intro e; have := HN.out; rw [e] at this; simp at this; omega)
      obtain ⟨e, he⟩ : ∃ e, d[k]? = some e := ⟨_, List.getElem?_eq_getElem (by rw [HN.out]; exact hlt)⟩
      obtain ⟨heo, _⟩ := hr.2 k e he
      obtain ⟨nm, p, q, r⟩ := e
      have hnm : nm.length = 32 := heo.1
      have hgO : (Value.slice ad k cap).ownBlock ≠ some g := fun e => by have := HS.out.2.1 g e; have := hr.1; omega
      have hgw : g < wr.heap.size := Nat.lt_of_lt_of_le hr.1 HS.out.2.2.size
      have hrow : ∀ V, Kp (fun x => (Value.slice ad k cap).ownBlock = some x) wr V → V.rangeAt g (o + k * 35) (entC (nm, p, q, r)) := fun V hV j u hu => (hV.cell (p := ⟨g, _, none⟩) hgw hgO).trans (((hr.kp HS.out.2.2 (fun x => x)).2 k _ he).2 j u hu)
      have HLX : Hid (∀ V, Kp (fun x => (Value.slice ad k cap).ownBlock = some x) wr V → V.rangeAt g (o + k * 35) (b8 nm)) := fun V hV => rng_name (hrow V hV)
      have HLP : Hid (∀ V, Kp (fun x => (Value.slice ad k cap).ownBlock = some x) wr V → V.rangeAt g (o + k * 35 + 32) [.int .i64 p, .int .i64 q, .int .i64 r]) := fun V hV => rng_place heo (hrow V hV)
      have HI1 : Hid ((Tryz.prog.info? 53).map (·.size) = some (b8 nm).length) := by rw [Hid, b8_length, hnm]; exact infH
      have HIW : Hid ((Tryz.prog.info? 51).map (·.size) = some [Value.int .i64 p, .int .i64 q, .int .i64 r].length) := infW (nm, p, q, r)
      have HB1 := hid (builtR nm p q r hnm)
      have HB2 := hid (fun W => run_oneR nm p q r hnm W)
      have hkl : (d.take k).length = k := by rw [List.length_take, HN.out]; omega
      have HNX : Hid (d.take (k + 1) = d.take k ++ [(nm, p, q, r)]) := by rw [Hid, List.take_add_one, he]; rfl
      have HNE : Hid (∀ W1, Kp No wr W1 → ∃ ad2 cap2 w2, (Builtin.append_ #[77, 77] 77 #[.slice ad k cap, .slice (some ⟨W1.heap.size, 0, none⟩) 1 1]).run Tryz.prog (W1.alloc (.cells (entC (nm, p, q, r)).toArray 159)) = .ok (.slice ad2 (k + 1) cap2) w2 ∧
          Kp (fun x => (Value.slice ad k cap).ownBlock = some x) wr w2 ∧ MineR w w2 (.slice ad2 (k + 1) cap2) (d.take (k + 1))) := fun W1 hW => by
        rw [HNX.out]
        exact next_R HS.out hkl hW heo (by omega) _
      obtain ⟨C, hC⟩ : ∃ C, entC (nm, p, q, r) = C := ⟨_, rfl⟩
      rw [hC] at HB1 HB2 HNE
      clear hC hkl hrow hr he heo hgO hgw HNX HS
      generalize b8 nm = bx at *
      go_wp2_with fail
      refine wp_region_held_drew (S := fun V => Kp (fun x => (Value.slice ad k cap).ownBlock = some x) wr V) (by kernel_rfl) ((Kp.refl _ _).drew) (fun hHeld => ?_)
      refine wpAnyH_take (i := 0) (oi := ⟨some 11, .move (.tmp 3), 77, "law.go:28", #[], none⟩) (v := .slice ad k cap) rfl (by kernel_rfl) (by kernel_rfl) (by kernel_rfl) (fun _ _ _ h => h) (Or.inl ⟨by rfl, fun w' hw' => by (clear hw'; go_simp)⟩) hHeld ?_
      simp only [Act.put, sjA, sjB, sjC]
      refine wpAnyH_take (i := 1) (oi := ⟨some 12, .move (.tmp 0), 81, "law.go:28", #[], none⟩) (v := .slice (some ⟨g, o, none⟩) n c) rfl (by kernel_rfl) (by kernel_rfl) (by kernel_rfl) (fun _ _ _ h => h) (Or.inl ⟨by rfl, fun w' hw' => by (clear hw'; go_simp)⟩) hHeld ?_
      simp only [Act.put, sjA, sjB, sjC]
      refine wpAnyH_take (i := 2) (oi := ⟨some 13, .move (.tmp 4), 3, "law.go:28", #[], none⟩) (v := .int .i64 (k : Int)) rfl (by kernel_rfl) (by kernel_rfl) (by kernel_rfl) (fun _ _ _ h => h) (Or.inl ⟨by rfl, fun w' hw' => by (clear hw'; go_simp)⟩) hHeld ?_
      simp only [Act.put, sjA, sjB, sjC]
      refine wpAnyH_take (i := 3) (oi := ⟨some 14, .indexAddr 81 (.tmp 12) (.tmp 13), 0, "law.go:28", #[⟨1, .data⟩, ⟨2, .data⟩], none⟩) (v := .pointer (some ⟨g, o + k * 35, none⟩)) rfl (by kernel_rfl) (by kernel_rfl) (by kernel_rfl) (fun _ _ _ h => h) (Or.inl ⟨by rfl, fun w' hw' => by (clear hw'; go_simp)⟩) hHeld ?_
      simp only [Act.put, sjA, sjB, sjC]
      refine wpAnyH_take (i := 4) (oi := ⟨some 15, .fieldAddr 155 (.tmp 14) 0, 0, "law.go:28", #[⟨3, .data⟩], none⟩) (v := .pointer (some ⟨g, o + k * 35, none⟩)) rfl (by kernel_rfl) (by kernel_rfl) (by kernel_rfl) (fun _ _ _ h => h) (Or.inl ⟨by rfl, fun w' hw' => by (clear hw'; go_simp)⟩) hHeld ?_
      simp only [Act.put, sjA, sjB, sjC]
      refine wpAnyH_take (i := 5) (oi := ⟨some 16, .load 53 (.tmp 15), 53, "law.go:28", #[⟨4, .data⟩], none⟩) (v := .agg bx.toArray) rfl (by kernel_rfl) (by kernel_rfl) (by kernel_rfl) (fun _ _ _ h => h) (yieldsIf_load_mid (by rfl) _ _ rfl g (o + k * 35) rfl bx _ (HLX.out) Tryz.underlying53 rfl HI1.out) hHeld ?_
      simp only [Act.put, sjA, sjB, sjC]
      refine wpAnyH_take (i := 6) (oi := ⟨some 17, .move (.tmp 0), 81, "law.go:28", #[], none⟩) (v := .slice (some ⟨g, o, none⟩) n c) rfl (by kernel_rfl) (by kernel_rfl) (by kernel_rfl) (fun _ _ _ h => h) (Or.inl ⟨by rfl, fun w' hw' => by (clear hw'; go_simp)⟩) hHeld ?_
      simp only [Act.put, sjA, sjB, sjC]
      refine wpAnyH_take (i := 7) (oi := ⟨some 18, .move (.tmp 4), 3, "law.go:28", #[], none⟩) (v := .int .i64 (k : Int)) rfl (by kernel_rfl) (by kernel_rfl) (by kernel_rfl) (fun _ _ _ h => h) (Or.inl ⟨by rfl, fun w' hw' => by (clear hw'; go_simp)⟩) hHeld ?_
      simp only [Act.put, sjA, sjB, sjC]
      refine wpAnyH_take (i := 8) (oi := ⟨some 19, .indexAddr 81 (.tmp 17) (.tmp 18), 0, "law.go:28", #[⟨6, .data⟩, ⟨7, .data⟩], none⟩) (v := .pointer (some ⟨g, o + k * 35, none⟩)) rfl (by kernel_rfl) (by kernel_rfl) (by kernel_rfl) (fun _ _ _ h => h) (Or.inl ⟨by rfl, fun w' hw' => by (clear hw'; go_simp)⟩) hHeld ?_
      simp only [Act.put, sjA, sjB, sjC]
      refine wpAnyH_take (i := 9) (oi := ⟨some 20, .fieldAddr 155 (.tmp 19) 1, 0, "law.go:28", #[⟨8, .data⟩], none⟩) (v := .pointer (some ⟨g, o + k * 35 + 32, none⟩)) rfl (by kernel_rfl) (by kernel_rfl) (by kernel_rfl) (fun _ _ _ h => h) (Or.inl ⟨by rfl, fun w' hw' => by (clear hw'; go_simp)⟩) hHeld ?_
      simp only [Act.put, sjA, sjB, sjC]
      refine wpAnyH_take (i := 10) (oi := ⟨some 21, .load 51 (.tmp 20), 51, "law.go:28", #[⟨9, .data⟩], none⟩) (v := .agg [.int .i64 p, .int .i64 q, .int .i64 r].toArray) rfl (by kernel_rfl) (by kernel_rfl) (by kernel_rfl) (fun _ _ _ h => h) (yieldsIf_load_mid (by rfl) _ _ rfl g (o + k * 35 + 32) rfl [.int .i64 p, .int .i64 q, .int .i64 r] _ (HLP.out) Tryz.underlying51 rfl HIW.out) hHeld ?_
      simp only [Act.put, sjA, sjB, sjC]
      refine wpAnyH_ready (rs := [11]) (by kernel_rfl) (by simp) ?_
      refine AllReadyH.cons (o := ⟨some 22, .call { callee := Callee.value (Operand.func 78), args := #[.tmp 21], argTypes := #[51] }, 157, "law.go:28", #[⟨10, .data⟩], none⟩) rfl (fun K hK => ?_) AllReadyH.nil
      go_simp
      refine (where_any p q r _).mono ?_
      rintro e W1 ⟨rfl, hkW⟩
      have HKW : Hid (Kp No wr W1) := (Kp.refl No wr).drew.andNone hkW
      obtain ⟨ad2, cap2, w2, hap, hk2, hm2⟩ := HNE.out W1 HKW.out
      have HAP := hid hap
      have HK2 := hid hk2
      have HF := hid hm2
      have HKA : Hid (Kp (fun x => (Value.slice ad k cap).ownBlock = some x) wr (W1.alloc (.cells C.toArray 159))) := (HKW.out.ofNo).alloc _
      clear hap hk2 hm2 hkW
      go_wp2_with fail
      refine hK.out _ _ (HKW.out.ofNo) (fun hh => ?_)
      clear hK K hHeld
      have hHeld := hh
      clear hh
      try simp only [Act.put, sjA, sjB, sjC]
      refine wpAnyH_take (i := 12) (oi := ⟨some 23, .build 159 #[(0, .tmp 16), (1, .tmp 22)], 159, "law.go:28", #[⟨5, .data⟩, ⟨11, .data⟩], none⟩) (v := .agg C.toArray) rfl (by kernel_rfl) (by kernel_rfl) (by kernel_rfl) (fun _ _ _ h => h) (yields_two (by rfl) 159 0 1 (.tmp 16) (.tmp 22) rfl (.agg bx.toArray) (.agg #[.int .i64 p, .int .i64 q, .int .i64 r]) rfl rfl _ HB1.out) hHeld ?_
      simp only [Act.put, sjA, sjB, sjC]
      refine wpAnyH_ready (rs := [13]) (by kernel_rfl) (by simp) ?_
      refine AllReadyH.cons (o := ⟨some 24, .buildSlice 77 1 #[(0, .tmp 23)], 77, "law.go:28", #[⟨12, .data⟩], none⟩) rfl (fun K hK => ?_) AllReadyH.nil
      rw [if_pos (by rfl)]
      refine wp_valE (exec_sliceE 77 _ rfl (.agg C.toArray) _ rfl (HB2.out _)) ?_
      refine hK.out _ _ HKA.out (fun hh => ?_)
      clear hK K hHeld
      have hHeld := hh
      clear hh
      try simp only [Act.put, sjA, sjB, sjC]
      refine wpAnyH_ready (rs := [14]) (by kernel_rfl) (by simp) ?_
      refine AllReadyH.cons (o := ⟨some 25, .call { callee := Callee.builtin Builtin.append, args := #[.tmp 11, .tmp 24], argTypes := #[77, 77] }, 77, "law.go:28", #[⟨0, .data⟩, ⟨13, .data⟩, ⟨11, .chain⟩], none⟩) rfl (fun K hK => ?_) AllReadyH.nil
      rw [if_pos (by rfl)]
      refine wp_valE (exec_appE _ _ 77 rfl (.slice ad k cap) (.slice (some ⟨W1.heap.size, 0, none⟩) 1 1) _ rfl rfl HAP.out) ?_
      refine hK.out _ _ HK2.out (fun hh => ?_)
      clear hK K hHeld
      have hHeld := hh
      clear hh
      try simp only [Act.put, sjA, sjB, sjC]
      refine wpAnyH_take (i := 15) (oi := ⟨some 3, .assign (.tmp 25), 77, "law.go:28", #[⟨14, .data⟩, ⟨14, .chain⟩, ⟨0, .phase⟩, ⟨1, .phase⟩, ⟨2, .phase⟩, ⟨3, .phase⟩, ⟨4, .phase⟩, ⟨5, .phase⟩, ⟨6, .phase⟩, ⟨7, .phase⟩, ⟨8, .phase⟩, ⟨9, .phase⟩, ⟨10, .phase⟩, ⟨11, .phase⟩, ⟨12, .phase⟩, ⟨13, .phase⟩, ⟨14, .phase⟩], none⟩) (v := .slice ad2 (k + 1) cap2) rfl (by kernel_rfl) (by kernel_rfl) (by kernel_rfl) (fun _ _ _ h => h) (Or.inl ⟨by rfl, fun w' hw' => by (clear hw'; go_simp)⟩) hHeld ?_
      simp only [Act.put, sjA, sjB, sjC]
      refine wpAnyH_done (by kernel_rfl) ?_ _
      clear hHeld
      go_wp2_with fail
      go_round
      case rel => exact ⟨k + 1, ad2, cap2, rfl, by first | rfl | go_num, by omega, HF.out⟩
      case measure => simp [intOf]; omega
    · have hltI : ¬ (k : Int) < (n : Int) := by omega
      have hkn' : k = n := by omega
      have HF : Hid (MineR w wr (.slice ad k cap) d) := by
        have := HS.out
        rw [hkn', ← HN.out, List.take_length] at this
        rw [Hid, hkn', ← HN.out]
        exact this
      clear hkn'
      go_wp2_with fail
      go_ret
      exact ⟨_, rfl, HF.out⟩
end Go.Proofs.YthmimipoooemjaaGreatDoor.Sg
end

section
/-
  Memory of the tenth law of back: a table, and bytes of which one is turned.
-/
namespace Go.Proofs.YthmimipoooemjaaGreatDoor.Sg
open Go.RowKit
open Tlv (Tr Agree BySlS)
open Crc (Kept Tab)
open Sim (hid Kp No)
theorem form_mem {n : Nat} {t : Tr n} (h0 : 0 ≤ t.hd.1 ∧ t.hd.1 ≤ 255) (hl : (Tlv.bodyOf n t).length ≤ 65535) (hb : ∀ x ∈ Tlv.bodyOf n t, 0 ≤ x ∧ x ≤ 255) : ∀ x ∈ Tlv.formOf n t, 0 ≤ x ∧ x ≤ 255 := by
  intro x hx
  simp only [Tlv.formOf, List.mem_cons] at hx
  rcases hx with rfl | rfl | rfl | hx
  · exact h0
  · omega
  · omega
  · exact hb x hx
theorem num_bytes (p : Int) : ∀ x ∈ Tlv.formOf 1 (Tr.mk 1 p [] [] : Tr 1), 0 ≤ x ∧ x ≤ 255 := by
  have e : Tlv.bodyOf 1 (Tr.mk 1 p [] [] : Tr 1) = Tlv.numB (Tlv.nsz p).toNat p := rfl
  have := Tlv.nsz_bd p
  exact form_mem ⟨(by decide : (0 : Int) ≤ 1), (by decide : (1 : Int) ≤ 255)⟩ (by rw [e, Tlv.numB_length]; omega) (by rw [e]; exact Tlv.numB_byte _ _)
theorem ent_bytes {e : Ent} (he : EOk e) : ∀ x ∈ Tlv.formOf 2 (entT e), 0 ≤ x ∧ x ≤ 255 := by
  obtain ⟨h1, _, h3⟩ := ent_bsz he.1 (room := 68) (deep := 1) (by omega) (by omega)
  have h4 := Tlv.bsz_len 2 _ _ _ h1
  refine form_mem ⟨Int.le_of_lt (by decide : (0 : Int) < 3), (by decide : (3 : Int) ≤ 255)⟩ (by omega) ?_
  rw [Tlv.bodyOf_kids (show (entT e).hd.1 = 3 from rfl)]
  intro x hx
  obtain ⟨l, hl, hxl⟩ := List.mem_flatten.1 hx
  obtain ⟨k, hk, rfl⟩ := List.mem_map.1 hl
  have hk' : k ∈ ([Tr.mk 2 0 e.1 [], Tr.mk 1 e.2.1 [] [], Tr.mk 1 e.2.2.1 [] [], Tr.mk 1 e.2.2.2 [] []] : List (Tr 1)) := hk
  rcases List.mem_cons.1 hk' with rfl | hk1
  · refine form_mem (t := (Tr.mk 2 0 e.1 [] : Tr 1)) ⟨(by decide : (0 : Int) ≤ 2), (by decide : (2 : Int) ≤ 255)⟩ (show e.1.length ≤ 65535 by rw [he.1]; omega) (show ∀ x ∈ e.1, 0 ≤ x ∧ x ≤ 255 from he.2) x hxl
  rcases List.mem_cons.1 hk1 with rfl | hk2
  · exact num_bytes _ x hxl
  rcases List.mem_cons.1 hk2 with rfl | hk3
  · exact num_bytes _ x hxl
  rcases List.mem_cons.1 hk3 with rfl | hk4
  · exact num_bytes _ x hxl
  · cases hk4
theorem formE_bd {d : List Ent} (ho : ∀ e ∈ d, EOk e) (hl : d.length ≤ 900) : ∀ x ∈ formE d, 0 ≤ x ∧ x ≤ 255 := by
  have h1 := entsT_right (fun e he => (ho e he).1) hl
  have h2 := Tlv.bsz_fits 3 _ _ _ h1
  have h3 := Tlv.bsz_len 3 _ _ _ h1
  refine form_mem ⟨Int.le_of_lt (by decide : (0 : Int) < 3), (by decide : (3 : Int) ≤ 255)⟩ (by omega) ?_
  rw [Tlv.bodyOf_kids (show (entsT d).hd.1 = 3 from rfl)]
  intro x hx
  obtain ⟨l, hl, hxl⟩ := List.mem_flatten.1 hx
  obtain ⟨k, hk, rfl⟩ := List.mem_map.1 hl
  obtain ⟨e, he, rfl⟩ := List.mem_map.1 hk
  exact ent_bytes (ho e he) x hxl
theorem sealE_bd {d : List Ent} (ho : ∀ e ∈ d, EOk e) (hl : d.length ≤ 900) : ∀ x ∈ sealE d, 0 ≤ x ∧ x ≤ 255 := sealI_bd _ (formE_bd ho hl)
theorem sealE_length {d : List Ent} (ho : ∀ e ∈ d, EOk e) (hl : d.length ≤ 900) : 4 ≤ (sealE d).length ∧ (sealE d).length ≤ 65542 := by
  have := formE_length (fun e he => (ho e he).1) hl
  rw [sealE, sealI_length]
  omega
end Go.Proofs.YthmimipoooemjaaGreatDoor.Sg
end

section
/-
  Open of an index where no file of it is, and no pack.
-/
namespace Go.Proofs.YthmimipoooemjaaGreatDoor.Ix
open Go.RowKit Go.Shelf
open Stb (Stab Srt)
open Sim (hid Kp No PS Done Blk nm ByP finds pBytes)

/-- Load, where the file is not to be read. -/
theorem load_no {P : Nat → Prop} {N : Nat} (w : World) (s : Nat) (t : Addr) (p : PS) (h : Sim.Sys P N w s p) (hf : finds p nI ≠ 0) :
    Calls Tryz.prog 36 #[.pointer (some ⟨s, 0, none⟩), .pointer (some t)] w fun e w' => e = .returned (.tuple #[.slice none 0 0, .int .i64 (finds p nI : Nat)]) ∧ Kp No w w' := by
  have HC := hid (Sim.read_any w s p sI (by decide) h)
  rw [nm_sI] at HC
  unfold sI at HC
  obtain ⟨F, hF⟩ : ∃ F, finds p nI = F := ⟨_, rfl⟩
  rw [hF] at HC hf ⊢
  have hf' : ¬ ((F : Int) = 0) := by omega
  generalize pBytes nI p = bs at *
  clear hF h
  go_enter Tryz.func36, Tryz.ntmps36
  go_wp2_with fail
  refine HC.out.mono ?_
  rintro e w1 ⟨ad, cap, rfl, _, _, hk⟩
  have HK := hid hk
  clear hk HC
  go_wp2_with fail
  refine bodyPost_ret (v := .tuple #[.slice none 0 0, .int .i64 (F : Nat)]) (by simp [results, Tryz.results36, go_sem]) rfl ⟨rfl, HK.out⟩

theorem nats_lt {d : List Sg.Ent} (ho : ∀ e ∈ d, Sg.EOk e) (hl : d.length ≤ 900) : ∀ x ∈ nats (Sg.sealE d), x < 256 := by
  intro x hx
  have hb := Sg.sealE_bd ho hl
  rw [nats, List.mem_map] at hx
  obtain ⟨y, hy, rfl⟩ := hx
  have := hb y hy
  omega

theorem seal0_len : (nats (Sg.sealE [])).length = 7 := by rw [Sg.seal0]; rfl

/-- What Open leaves: a new index with no entry, its list saved. -/
def Open0P (P : Nat → Prop) (N b : Nat) (w : World) (s : Nat) (p : PS) (e : Ending) (w' : World) : Prop :=
  ∃ r, Saved (nats (Sg.sealE [])) p r ∧ TabX w' b ∧
    ((r.1 ≠ 0 ∧ e = .returned (.tuple #[.pointer none, .bool false, .int .i64 (r.1 : Nat)])) ∨
     (r.1 = 0 ∧ ∃ x v, e = .returned (.tuple #[.pointer (some ⟨x, 0, none⟩), .bool true, .int .i64 0]) ∧ w.heap.size ≤ x ∧ IxAt w' x s b v ∧ Sg.EV (fun g => w.heap.size ≤ g) w' v [] ∧
      ∃ P', Sim.Sys P' N w' s r.2 ∧ Kp (fun y => P y ∨ y = b) w w' ∧ (∀ y, P' y → P y ∨ w.heap.size ≤ y) ∧ ¬ P' x ∧ ¬ P' b))

set_option maxHeartbeats 2000000 in
set_option maxRecDepth 100000 in
theorem open0 {P : Nat → Prop} {N : Nat} (w : World) (s b h : Nat) (k : Int) (p : PS) (hS : Sim.Sys P N w s p) (hN : N + 6 ≤ 1000) (hT : TabX w b) (hb : ¬ P b) (hH : Sh.ShAt w h s b k) (hf : finds p nI = 5) (he : Sim.pList p = []) :
    Calls Tryz.prog 39 #[.pointer (some ⟨s, 0, none⟩), .pointer (some ⟨b, 0, none⟩), .pointer (some ⟨h, 0, none⟩)] w fun e w' => Open0P P (N + 6) b w s p e w' := by
  have HLD := hid (load_no w s ⟨b, 0, none⟩ p hS (by rw [hf]; omega))
  rw [hf] at HLD
  have HRB := hid (fun V (hV : Kp No w V) => rebuild0 V (some ⟨h, 0, none⟩) (fun U hU => Sh.ids_none U h s b k p (hH.kp (hV.andNone hU) (fun h => h)) (hS.kept (hV.andNone hU)) he))
  have HBC := hid (fun V v (hV : Kp No w V) (x : Nat) v0 (hX : IxAt V x s b v0) (hx : w.heap.size ≤ x) (hv : Sg.EV (fun g => w.heap.size ≤ g) V v []) => become_any V s b x p v v0 [] (hS.kept hV) hN (hT.kp hV (fun h => h)) hb hX (fun e => by have := hS.lt _ e; omega) (fun e => by have := hT.lt; omega) hv Sg.right0 (by rw [seal0_len]; omega) (nats_lt (by simp) (by simp)))
  have hbl := hT.lt
  have HPL := hid hS.lt
  have hbP := hb
  clear hS hT hH hf he
  go_enter Tryz.func39, Tryz.ntmps39
  go_wp2_with fail
  refine HLD.out.mono ?_
  rintro e w1 ⟨rfl, hk1⟩
  have HK1 := hid hk1
  clear hk1 HLD
  go_wp2_with fail
  refine (HRB.out w1 HK1.out).mono ?_
  rintro e w2 ⟨v, rfl, hv, hk2⟩
  obtain ⟨ra, rc, hr, _⟩ := id hv
  have hr' : v = .slice ra 0 rc := hr
  clear hr
  subst hr'
  have HV : Hid (Sg.EV (fun g => w.heap.size ≤ g) w2 (.slice ra 0 rc) []) := hv.mono (fun g hg => Nat.le_trans HK1.out.size hg)
  have HK2 := hid (HK1.out.andNone hk2)
  clear hv hk2 HRB HK1
  go_wp2_with fail
  have HK3 : Hid (Kp No w (w2.alloc (.cells (ixC s b (.slice none 0 0)).toArray 169))) := HK2.out.alloc _
  refine (HBC.out (w2.alloc (.cells (ixC s b (.slice none 0 0)).toArray 169)) _ HK3.out w2.heap.size _ (Blk.new w2 _ _) HK2.out.size (HV.out.kept ((Kp.refl _ _).alloc _))).mono ?_
  rintro e w4 ⟨r, hsv, rfl, hX, hT, P', hS, hK, hP⟩
  have hsz : (w2.alloc (.cells (ixC s b (.slice none 0 0)).toArray 169)).heap.size = w2.heap.size + 1 := by simp
  have hw2 := HK2.out.size
  have HF : Hid (TabX w4 b ∧ IxAt w4 w2.heap.size s b (if r.1 = 0 then .slice ra 0 rc else .slice none 0 0) ∧ Sg.EV (fun g => w.heap.size ≤ g) w4 (.slice ra 0 rc) [] ∧ ∃ P', Sim.Sys P' (N + 6) w4 s r.2 ∧ Kp (fun y => P y ∨ y = b) w w4 ∧ (∀ y, P' y → P y ∨ w.heap.size ≤ y) ∧ ¬ P' w2.heap.size ∧ ¬ P' b) := by
    refine ⟨hT, hX, ?_, P', hS, HK3.out.ofNo.trans hK (fun y hy => ?_), fun y hy => ?_, fun e => ?_, fun e => ?_⟩
    · obtain ⟨a', c', h1, h2, h3, h4, h5, _⟩ := HV.out
      exact ⟨a', c', h1, h2, h3, h4, h5, fun h => absurd rfl h⟩
    · rcases hy with e | e | e
      · exact .inl (.inl e)
      · exact .inl (.inr e)
      · right; omega
    · rcases hP y hy with e | e
      · exact .inl e
      · right; omega
    · rcases hP _ e with e | e
      · have := HPL.out _ e; omega
      · omega
    · rcases hP _ e with e | e
      · exact hbP e
      · omega
  have HSV := hid hsv
  clear hsz hX hT hS hK hP hsv HBC HV
  by_cases hz : r.1 = 0
  · have HZ := hid hz
    rw [hz]
    clear hz
    go_wp2_with fail
    refine bodyPost_ret (v := .tuple #[.pointer (some ⟨w2.heap.size, 0, none⟩), .bool true, .int .i64 0]) (by simp [results, Tryz.results39, go_sem]) rfl ?_
    obtain ⟨h1, h2, h3, h4⟩ := HF.out
    rw [if_pos HZ.out] at h2
    exact ⟨r, HSV.out, h1, .inr ⟨HZ.out, w2.heap.size, _, rfl, hw2, h2, h3, h4⟩⟩
  · have HZ := hid hz
    obtain ⟨F, hF⟩ : ∃ F, r.1 = F := ⟨_, rfl⟩
    have HFF := hid hF
    rw [hF] at hz ⊢
    have hz' : ¬ ((F : Int) = 0) := by omega
    clear hF
    go_wp2_with fail
    refine bodyPost_ret (v := .tuple #[.pointer none, .bool false, .int .i64 (F : Nat)]) (by simp [results, Tryz.results39, go_sem]) rfl ?_
    exact ⟨r, HSV.out, HF.out.1, .inl ⟨HZ.out, by rw [HFF.out]⟩⟩

end Go.Proofs.YthmimipoooemjaaGreatDoor.Ix
end

section
/-
  An index: Find.
-/
namespace Go.Proofs.YthmimipoooemjaaGreatDoor.Ix
open Go.RowKit Go.Shelf
open Sim (hid Kp No PS Done Blk nm ByP)

set_option maxHeartbeats 2000000 in
set_option maxRecDepth 100000 in
theorem find_any {Q : Nat → Prop} (w : World) (x s b : Nat) (v : Value) (d : List Sg.Ent) (h : List Int) (hX : IxAt w x s b v) (hv : Sg.EV Q w v d) (hl : d.length ≤ 1000000) (hh : h.length = 32) (hb : ∀ x ∈ h, 0 ≤ x ∧ x ≤ 255) :
    Calls Tryz.prog 43 #[.pointer (some ⟨x, 0, none⟩), .agg (Sg.b8 h).toArray] w fun e w' => Sg.FAns d h e ∧ Kp No w w' := by
  have HFD := hid (fun V (hV : Sg.EV Q V v d) => Sg.find_any V v d Q h hV hl hh hb)
  have HIH : Hid ((Tryz.prog.info? 53).map (·.size) = some (Sg.b8 h).length) := by rw [Hid, Sg.b8_length, hh]; exact Sg.infH
  have HIW := hid (show (Tryz.prog.info? 51).map (·.size) = some 3 by kernel_rfl)
  obtain ⟨bh, hbh⟩ : ∃ y, Sg.b8 h = y := ⟨_, rfl⟩
  rw [hbh] at HIH HFD ⊢
  clear hbh hh hb
  have hxl := hX.lt
  obtain ⟨W0, hW0⟩ : ∃ W0, (w.alloc (.cells bh.toArray 53)).alloc (.cells #[.int .i64 0, .int .i64 0, .int .i64 0] 51) = W0 := ⟨_, rfl⟩
  have hK0 : Kp No w W0 := by rw [← hW0]; exact ((Kp.refl No w).alloc _).alloc _
  have hz0 : W0.heap.size = w.heap.size + 2 := by rw [← hW0]; simp
  have HBX : Hid (∀ V, Kp (fun y => y = w.heap.size + 1) W0 V → V.rangeAt w.heap.size 0 bh) := fun V hV j u hu => (hV.cell (p := ⟨w.heap.size, _, none⟩) (by simp; omega) (by simp)).trans (by
    rw [← hW0, World.cell?_alloc_lt _ _ _ (by simp), World.cell?_alloc_at _ _ _ _ rfl]
    simpa using hu)
  have HTH : Hid (∀ V, Kp No W0 V → V.there (w.heap.size + 1) 0 3) := fun V hV j hj => by
    have e : (w.alloc (.cells bh.toArray 53)).heap.size = w.heap.size + 1 := by simp
    have h2 : W0.there (w.heap.size + 1) 0 3 := by rw [← hW0, ← e]; exact Sg.thereE _ _ _ _ (by simp)
    rw [hV.cell (p := ⟨w.heap.size + 1, _, none⟩) (by simp; omega) (fun x => x), hV.frozen (p := ⟨w.heap.size + 1, _, none⟩) (by simp; omega) (fun x => x)]
    exact h2 j hj
  have HE0 := hid (hv.kept hK0)
  have hX0 := hX.kp hK0 (fun h => h)
  obtain ⟨av, cv, rfl, _⟩ := id hv
  have HN := hid (none_any W0 x s b _ hX0)
  have HL : Hid (∀ V, Kp (fun y => y = w.heap.size + 1) W0 V → V.cell? ⟨x, 2, none⟩ = some (.slice av d.length cv)) := fun V hV => (hV.cell (p := ⟨x, 2, none⟩) (by simp; omega) (by simp; omega)).trans (hX0.cell 2)
  have HO3 : Hid (∀ p q r : Int, (#[.int .i64 p, .int .i64 q, .int .i64 r] : Array Value).all (·.oneCell') = true) := fun p q r => by simp [Value.oneCell']
  have HK0 := hid hK0
  obtain ⟨n, hn⟩ : ∃ n, d.length = n := ⟨_, rfl⟩
  rw [hn] at HL HE0 HFD
  clear hX hv hX0 hK0 hn
  go_enter Tryz.func43, Tryz.ntmps43
  go_wp2_with fail
  refine HN.out.mono ?_
  rintro e w1 ⟨rfl, hw1⟩
  subst w1
  clear hW0 HN
  go_wp2_with fail
  refine wp_region_held_drew (S := fun V => Kp (fun y => y = w.heap.size + 1) W0 V) (by kernel_rfl) ((Kp.refl _ _).drew) (fun hHeld => ?_)
  refine wpAnyH_take (i := 0) (oi := ⟨some 9, .move (.tmp 0), 88, "index.go:58", #[], none⟩) (v := .pointer (some ⟨x, 0, none⟩)) rfl (by kernel_rfl) (by kernel_rfl) (by kernel_rfl) (fun _ _ _ h => h) (Or.inl ⟨by rfl, fun w' hw' => by (clear hw'; go_simp)⟩) hHeld ?_
  simp only [Act.put, sjA, sjB, sjC]
  refine wpAnyH_take (i := 1) (oi := ⟨some 10, .nilCheck (.tmp 9), 0, "index.go:58", #[⟨0, .data⟩], none⟩) (v := .pointer (some ⟨x, 0, none⟩)) rfl (by kernel_rfl) (by kernel_rfl) (by kernel_rfl) (fun _ _ _ h => h) (Or.inl ⟨by rfl, fun w' hw' => by (clear hw'; go_simp)⟩) hHeld ?_
  simp only [Act.put, sjA, sjB, sjC]
  refine wpAnyH_take (i := 2) (oi := ⟨some 11, .fieldAddr 169 (.tmp 10) 2, 0, "index.go:58", #[⟨1, .data⟩], none⟩) (v := .pointer (some ⟨x, 2, none⟩)) rfl (by kernel_rfl) (by kernel_rfl) (by kernel_rfl) (fun _ _ _ h => h) (Or.inl ⟨by rfl, fun w' hw' => by (clear hw'; go_simp)⟩) hHeld ?_
  simp only [Act.put, sjA, sjB, sjC]
  refine wpAnyH_take (i := 3) (oi := ⟨some 12, .load 81 (.tmp 11), 81, "index.go:58", #[⟨2, .data⟩], none⟩) (v := .slice av n cv) rfl (by kernel_rfl) (by kernel_rfl) (by kernel_rfl) (fun _ _ _ h => h) (Or.inl ⟨by rfl, fun w' hw' => by (have q0 := HL.out w' hw'; clear hw'; go_simp)⟩) hHeld ?_
  simp only [Act.put, sjA, sjB, sjC]
  refine wpAnyH_take (i := 4) (oi := ⟨some 13, .load 53 (.tmp 3), 53, "index.go:58", #[], none⟩) (v := .agg bh.toArray) rfl (by kernel_rfl) (by kernel_rfl) (by kernel_rfl) (fun _ _ _ h => h) (yieldsIf_load_mid (by rfl) _ _ rfl w.heap.size 0 rfl bh _ (HBX.out) Tryz.underlying53 rfl HIH.out) hHeld ?_
  simp only [Act.put, sjA, sjB, sjC]
  refine wpAnyH_ready (rs := [5]) (by kernel_rfl) (by simp) ?_
  refine AllReadyH.cons (o := ⟨some 14, .call { callee := Callee.value (Operand.func 83), args := #[.tmp 12, .tmp 13], argTypes := #[81, 53] }, 94, "index.go:58", #[⟨3, .data⟩, ⟨4, .data⟩], none⟩) rfl (fun K hK => ?_) AllReadyH.nil
  go_simp
  refine (HFD.out _ (HE0.out.kept ((Kp.refl _ _).drew))).mono ?_
  rintro e w2 ⟨hfa, hk⟩
  obtain ⟨p, bb, rfl, _⟩ := id hfa
  have HFA := hid hfa
  have HK2 : Hid (Kp No W0 w2) := ((Kp.refl _ _).drew).andNone hk
  have HS2 : Hid (Kp (fun y => y = w.heap.size + 1) W0 w2) := HK2.out.ofNo
  clear hfa hk HFD
  go_wp2_with fail
  refine hK.out _ _ (HS2.out) (fun hh => ?_)
  clear hK K hHeld
  have hHeld := hh
  clear hh
  try simp only [Act.put, sjA, sjB, sjC]
  refine wpAnyH_take (i := 6) (oi := ⟨some 15, .extract (.tmp 14) 0, 51, "index.go:58", #[⟨5, .data⟩], none⟩) (v := .agg #[.int .i64 p.1, .int .i64 p.2.1, .int .i64 p.2.2]) rfl (by kernel_rfl) (by kernel_rfl) (by kernel_rfl) (fun _ _ _ h => h) (Or.inl ⟨by rfl, fun w' hw' => by (clear hw'; go_simp)⟩) hHeld ?_
  simp only [Act.put, sjA, sjB, sjC]
  refine wpAnyH_take (i := 7) (oi := ⟨some 16, .extract (.tmp 14) 1, 4, "index.go:58", #[⟨5, .data⟩], none⟩) (v := .bool bb) rfl (by kernel_rfl) (by kernel_rfl) (by kernel_rfl) (fun _ _ _ h => h) (Or.inl ⟨by rfl, fun w' hw' => by (clear hw'; go_simp)⟩) hHeld ?_
  simp only [Act.put, sjA, sjB, sjC]
  refine wpAnyH_ready (rs := [8]) (by kernel_rfl) (by simp) ?_
  refine AllReadyH.cons (o := ⟨none, .store 51 (.tmp 4) (.tmp 15), 0, "index.go:58", #[⟨6, .data⟩, ⟨5, .chain⟩, ⟨0, .phase⟩, ⟨1, .phase⟩, ⟨2, .phase⟩, ⟨3, .phase⟩, ⟨4, .phase⟩, ⟨5, .phase⟩, ⟨6, .phase⟩, ⟨7, .phase⟩], none⟩) rfl (fun K hK => ?_) AllReadyH.nil
  rw [if_pos (by rfl)]
  refine wp_store_mid 51 _ _ (by rfl) (w.heap.size + 1) 0 #[.int .i64 p.1, .int .i64 p.2.1, .int .i64 p.2.2] (by rfl) (by rfl) (HTH.out w2 HK2.out) HIW.out (HO3.out _ _ _) ?_
  have HS3 : Hid (Kp (fun y => y = w.heap.size + 1) W0 (w2.setCells (w.heap.size + 1) 0 [.int .i64 p.1, .int .i64 p.2.1, .int .i64 p.2.2])) := HS2.out.trans (Sg.setCells_kp w2 _ _ _) (fun y hy => .inl hy)
  refine hK.out _ _ (HS3.out) (fun hh => ?_)
  clear hK K hHeld
  have hHeld := hh
  clear hh
  try simp only [Act.put]
  refine wpAnyH_take (i := 9) (oi := ⟨some 5, .assign (.tmp 16), 4, "index.go:58", #[⟨7, .data⟩, ⟨8, .chain⟩, ⟨0, .phase⟩, ⟨1, .phase⟩, ⟨2, .phase⟩, ⟨3, .phase⟩, ⟨4, .phase⟩, ⟨5, .phase⟩, ⟨6, .phase⟩, ⟨7, .phase⟩, ⟨8, .phase⟩], none⟩) (v := .bool bb) rfl (by kernel_rfl) (by kernel_rfl) (by kernel_rfl) (fun _ _ _ h => h) (Or.inl ⟨by rfl, fun w' hw' => by (clear hw'; go_simp)⟩) hHeld ?_
  simp only [Act.put, sjA, sjB, sjC]
  refine wpAnyH_done (by kernel_rfl) ?_ _
  go_wp2_with fail
  have hr : (w2.setCells (w.heap.size + 1) 0 [.int .i64 p.1, .int .i64 p.2.1, .int .i64 p.2.2]).rangeAt (w.heap.size + 1) 0 [.int .i64 p.1, .int .i64 p.2.1, .int .i64 p.2.2] := World.rangeAt_setCells_same _ _ _ _ (HTH.out w2 HK2.out)
  refine bodyPost_ret (v := .tuple #[.agg #[.int .i64 p.1, .int .i64 p.2.1, .int .i64 p.2.2], .bool bb]) (Sg.results_cell_two Tryz.results43 _ _ (w.heap.size + 1) 0 _ _ rfl hr Tryz.underlying51 rfl HIW.out) rfl ⟨HFA.out, ?_⟩
  exact HK0.out.trans HS3.out (fun y hy => .inr (by omega))

end Go.Proofs.YthmimipoooemjaaGreatDoor.Ix
end
