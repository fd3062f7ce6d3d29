/- Of the proof: the texts ShTells, ShWkM, ShGet, ShNil2, one behind the other. -/
import Derived.Test.YtaaioaocjfpajaaGreatDoorB14
import Derived.Test.YtaaioaocjfpajaaGreatDoorB10
import Derived.Test.YtaaioaocjfpajaaGreatDoorB12
import Derived.Test.YtaaioaocjfpajaaGreatDoorB13
section
/-
  records: what the iterator over packs tells.
-/
namespace Go.Proofs.YtaaioaocjfpajaaGreatDoor.Sh
open Go.RowKit Go.Shelf
open Tlv (BySlS)
open Crc (Kept)
open Sim (hid Kp No PS Blk nm)
attribute [local go_sem] Oper.semAt_some

/-- An item of a walk: the pack, a fault, what is placed there. -/
abbrev WI : Type := Nat × Nat × Item
def noIt : Item := (0, 0, (0, List.replicate 32 0, []), 0)
def fC (id : Nat) (x : Item) (u : Value) : List Value := .int .i64 (id : Int) :: .int .i64 (x.1 : Int) :: .int .i64 (x.2.2.2 : Int) :: recA x.2.2.1.1 x.2.2.1.2.1 u
def packI (id F : Nat) (S : List Item × Nat × Int) : List WI := if F ≠ 0 then [(id, F, noIt)] else if S.2.2 ≠ 0 ∨ S.1 = [] then [(id, 4, noIt)] else S.1.map fun x => (id, 0, x)
def allI (F : Nat → Nat) (S : Nat → List Item × Nat × Int) (ids : List Nat) : List WI := ids.flatMap fun id => packI id (F id) (S id)
def Vr (b : Nat) (X : List WI) (k : Nat) (O : Nat → Prop) (vs : Array Value) (U : World) : Prop :=
  ∃ (y : WI) (a : Option Addr) (c : Nat), X[k]? = some y ∧ vs = #[.agg (fC y.1 y.2.2 (.slice a y.2.2.2.2.1.2.2.length c)).toArray, .int .i64 (y.2.1 : Int)] ∧
    BySlS (fun g => ¬ O g ∧ g ≠ b ∧ g < U.heap.size) U (.slice a y.2.2.2.2.1.2.2.length c) y.2.2.2.2.1.2.2 ∧ nmOk y.2.2

theorem allI_take (F : Nat → Nat) (S : Nat → List Item × Nat × Int) (ids : List Nat) (j id : Nat) (h : ids[j]? = some id) : allI F S (ids.take (j + 1)) = allI F S (ids.take j) ++ packI id (F id) (S id) := by
  simp [allI, List.take_add_one, h]
theorem allI_at (F : Nat → Nat) (S : Nat → List Item × Nat × Int) (ids : List Nat) (j id i : Nat) (y : WI) (h : ids[j]? = some id) (hy : (packI id (F id) (S id))[i]? = some y) : (allI F S ids)[(allI F S (ids.take j)).length + i]? = some y := by
  have e : ids = ids.take j ++ id :: ids.drop (j + 1) := by
    rw [← List.getElem_eq_iff (h := (List.getElem?_eq_some_iff.1 h).1)] at h
    rw [← h, List.getElem_cons_drop, List.take_append_drop]
  have e2 : allI F S ids = allI F S (ids.take j) ++ (packI id (F id) (S id) ++ allI F S (ids.drop (j + 1))) := by
    conv => lhs; rw [e]
    simp [allI]
  rw [e2, List.getElem?_append_right (by omega), Nat.add_sub_cancel_left, List.getElem?_append_left (List.getElem?_eq_some_iff.1 hy).1]
  exact hy

/-- A row of what is placed, outside the body's blocks. -/
def RowO (b : Nat) (O : Nat → Prop) (W : World) (a : Option Addr) (L : List Item) : Prop :=
  ∀ i x, L[i]? = some x → ∃ gr a' c', a = some ⟨gr, 0, none⟩ ∧ gr < W.heap.size ∧ ¬ O gr ∧ nmOk x ∧ W.rangeAt gr (i * 36) (plI x (.slice a' x.2.2.1.2.2.length c')) ∧ BySlS (fun q => ¬ O q ∧ q ≠ b ∧ q < W.heap.size) W (.slice a' x.2.2.1.2.2.length c') x.2.2.1.2.2
theorem RowO.of {b base c : Nat} {O : Nat → Prop} {W : World} {a : Option Addr} {L : List Item} (h : PRow 60 base b W (.slice a L.length c) L) (hO : ∀ x, O x → x < base) : RowO b O W a L := fun i x hx => by
  obtain ⟨g, cap, a', c', e, h1, h2, h3, h4, h5⟩ := h.get i x hx
  simp only [Value.slice.injEq, true_and] at e
  obtain ⟨rfl, _⟩ := e
  exact ⟨g, a', c', rfl, h2, fun e => by have := hO _ e; omega, h3, h4, BySlS.mono h5 (fun q hq => ⟨fun e => by have := hO _ e; omega, hq.2.1, hq.2.2.1⟩)⟩
theorem RowO.stay {b : Nat} {O O' : Nat → Prop} {U W : World} {a : Option Addr} {L : List Item} (h : RowO b O U a L) (hs : StayO O U W) (hO : ∀ x, O' x → O x ∨ U.heap.size ≤ x) : RowO b O' W a L := fun i x hx => by
  obtain ⟨gr, a', c', e, h1, h2, h3, h4, h5⟩ := h i x hx
  refine ⟨gr, a', c', e, Nat.lt_of_lt_of_le h1 hs.size, fun e => ?_, h3, hs.range h4 h2, hs.bytes h5 (fun q hq => ⟨hq.1, fun e => ?_, hq.2.1, Nat.lt_of_lt_of_le hq.2.2 hs.size⟩)⟩
  · rcases hO _ e with e | e
    · exact h2 e
    · omega
  · rcases hO _ e with e | e
    · exact hq.1 e
    · have := hq.2.2
      omega
theorem exec_build2 {P : Program} {o : Oper} {a : Act} {w : World} (ty : TypeId) (x y : Operand) (ho : o.op = .build ty #[(0, x), (1, y)]) (vx vy : Value) (hx : a.eval x = vx) (hy : a.eval y = vy) (C : Array Value)
    (hb : P.built ty [(0, vx), (1, vy)] = some C) : (execOp a.eval o).run P w = .ok (.value (.agg C)) w := by
  have e : P.built ty ((#[(0, x), (1, y)] : Array (Nat × Operand)).map fun (i, x) => (i, a.eval x)).toList = some C := by
    rw [← hb]
    simp only [List.map_toArray, List.map_cons, List.map_nil, hx, hy]
  unfold execOp
  simp only [ho, Sem.run_bind, run_build w ty _ C e, Result.andThen_ok, Sem.run_pure]
theorem builtF (i p n : Nat) (k : Int) (nm : List Int) (h : nm.length = 32) (a : Option Addr) (l c : Nat) : Tryz.prog.built 58 [(0, .agg #[.int .i64 (i : Int), .int .i64 (p : Int), .int .i64 (n : Int)]), (1, .agg (recA k nm (.slice a l c)).toArray)] = some (.int .i64 (i : Int) :: .int .i64 (p : Int) :: .int .i64 (n : Int) :: recA k nm (.slice a l c)).toArray := by
  obtain ⟨x0, x1, x2, x3, x4, x5, x6, x7, x8, x9, x10, x11, x12, x13, x14, x15, x16, x17, x18, x19, x20, x21, x22, x23, x24, x25, x26, x27, x28, x29, x30, x31, rfl⟩ := ex32 h
  kernel_rfl

set_option maxHeartbeats 4000000 in
set_option maxRecDepth 100000 in
theorem tells_recs (n b p q h : Nat) (ids : List Nat) (ai : Option Addr) (ci : Nat) (F : Nat → Nat) (S : Nat → List Item × Nat × Int) (T : World → Prop) (O0 : Nat → Prop)
    (hT1 : ∀ W, T W → W.cell? ⟨p, 0, none⟩ = some (.slice ai ids.length ci) ∧ W.cell? ⟨q, 0, none⟩ = some (.func (.func 16) #[.pointer (some ⟨h, 0, none⟩)] #[]))
    (hT4 : ∀ W, T W → ∀ (i id : Nat), ids[i]? = some id → ∃ g o, ai = some ⟨g, o, none⟩ ∧ W.cell? ⟨g, o + i, none⟩ = some (.int .i64 (id : Int)))
    (hT2 : ∀ U W, T U → Kept b U W → TabX W b → T W) (hT3 : ∀ U W, T U → Below U.heap.size U W → T W)
    (hL : ∀ (W : World) (id : Nat), T W → id ∈ ids → Calls Tryz.prog 16 #[.pointer (some ⟨h, 0, none⟩), .int .i64 (id : Int)] W fun e W' => Loaded W W' b e (F id) (S id)) (hn : ids.length ≤ 1000) (hsl : ∀ id ∈ ids, (S id).1.length ≤ 20000000) :
    TellsO n 59 #[.pointer (some ⟨p, 0, none⟩), .pointer (some ⟨q, 0, none⟩)] b T (Vr b (allI F S ids)) (allI F S ids).length O0 := by
  intro l J Jx W hT hJ hY h0 hO
  obtain ⟨hp, hq⟩ := hT1 W hT
  have HT := hid hT
  have HJ := hid hJ
  have HY := hid hY
  have H0 := hid h0
  have HO := hid hO
  have HT1 := hid hT1
  have HT2 := hid hT2
  have HT3 := hid hT3
  have HT4 := hid hT4
  have HL := hid hL
  have HSL0 := hid hsl
  clear hsl
  clear hT hJ hY h0 hT1 hT2 hT3 hT4 hL hO hq
  refine callsIn_of_wp Tryz.func59 rfl trivial ?_ rfl
  simp only [Tryz.ntmps59, List.size_toArray, List.length_cons, List.length_nil, Nat.reduceAdd, Nat.reduceSub, Array.replicate_succ, Array.replicate_zero, List.push_toArray, List.append_toArray, List.nil_append, List.cons_append]
  gi_wp2_with fail
  clear hp
  gi_loopw [12] (fun i wr => ∃ (j : Nat) (O : Nat → Prop), j ≤ ids.length ∧ i = .int .i64 (j : Int) ∧ Hid (J (allI F S (ids.take j)).length O wr) ∧ Hid (T wr) ∧ Hid (∀ x, O x → x < wr.heap.size)) (fun i _ => ids.length - (intOf i).toNat)
  case atStart => exact ⟨0, O0, Nat.zero_le _, rfl, H0.out, HT, HO⟩
  case round =>
    obtain ⟨j, O, hj, rfl, HJk, HTk, HOk⟩ := hrel
    by_cases hlt : j < ids.length
    · obtain ⟨id, hid'⟩ : ∃ id, ids[j]? = some id := ⟨_, List.getElem?_eq_getElem hlt⟩
      obtain ⟨g, o, rfl, hcid⟩ := HT4.out wr HTk.out j id hid'
      obtain ⟨_, hq⟩ := HT1.out wr HTk.out
      have HID := hid hid'
      have hji : (j : Int) < (ids.length : Int) := by omega
      clear hid'
      gi_wp2_with fail
      refine ⟨trivial, wide_d, (callsIn_wide.2 (HL.out wr id HTk.out (List.mem_of_getElem? HID.out))).mono ?_⟩
      rintro e W2 ⟨hld, hkb, htb⟩
      have HT2' := hid (HT2.out wr W2 HTk.out hkb htb)
      have HJ2 := hid (HJ.out _ O wr W2 HJk.out HT2'.out hkb)
      have hs2 := hkb.size
      have HO2 : Hid (∀ x, O x → x < W2.heap.size) := fun x hx => Nat.lt_of_lt_of_le (HOk.out x hx) hs2
      have HTAKE := hid (allI_take F S ids j id HID.out)
      have HAT := hid (fun i y => allI_at F S ids j id i y HID.out)
      obtain ⟨Fi, hFi⟩ : ∃ f, F id = f := ⟨_, rfl⟩
      obtain ⟨Si, hSi⟩ : ∃ f, S id = f := ⟨_, rfl⟩
      have HSL : Hid ((S id).1.length ≤ 20000000) := HSL0.out id (List.mem_of_getElem? HID.out)
      rw [hFi, hSi] at hld HTAKE HAT
      rw [hSi] at HSL
      clear hFi hSi hcid hq
      by_cases hbad : Fi ≠ 0 ∨ Si.2.2 ≠ 0 ∨ Si.1 = []
      · have hbad' : ∃ f : Nat, f ≠ 0 ∧ e = .returned (.tuple #[.slice none 0 0, .int .i64 (f : Int)]) ∧ packI id Fi Si = [(id, f, noIt)] := by
          rcases hld with ⟨h1, h2⟩ | ⟨h1, h2, h3⟩ | ⟨h1, h2, h3, _⟩
          · exact ⟨Fi, h1, h2, by rw [packI, if_pos h1]⟩
          · exact ⟨4, by omega, h3, by rw [packI, if_neg (by omega), if_pos h2]⟩
          · rcases hbad with e | e | e
            · exact absurd h1 e
            · exact absurd h2 e
            · exact absurd e h3
        obtain ⟨f, hf0, rfl, hpk⟩ := hbad'
        rw [hpk] at HTAKE HAT
        have hf0I : ¬ ((f : Int) = 0) := by omega
        have HVS : Hid (Vr b (allI F S ids) (allI F S (ids.take j)).length O #[.agg (fC id noIt (.slice none 0 0)).toArray, .int .i64 (f : Int)] W2) := ⟨(id, f, noIt), none, 0, by have h := HAT.out 0 _ rfl; simpa using h, rfl, BySlS.none _ _, rfl, fun y hy => by have := List.eq_of_mem_replicate (show y ∈ List.replicate 32 (0 : Int) from hy); omega⟩
        have hkN : (allI F S (ids.take j)).length < (allI F S ids).length := (List.getElem?_eq_some_iff.1 (HAT.out 0 _ rfl)).1
        obtain ⟨fn, tmps, assign, body, hy, hR⟩ := HY.out _ O W2 _ hkN HO2.out HJ2.out HT2'.out HVS.out
        have HR := hid hR
        simp [fC, noIt, recA, u8s, List.replicate] at hy
        have HKN : Hid ((allI F S (ids.take j)).length + 1 ≤ (allI F S ids).length) := hkN
        clear hR hld hbad hf0 hpk hkN HVS HJk HTk HAT
        gi_wp2_with fail
        refine ⟨wide_d, HR.out.mono ?_⟩
        rintro e W3 (⟨rfl, O', hJ3, hT3, hO3, _⟩ | ⟨rfl, hJx3⟩)
        · have HN : Hid ((allI F S (ids.take j)).length + 1 = (allI F S (ids.take (j + 1))).length) := by rw [Hid, HTAKE.out, List.length_append]; rfl
          have HJ3 : Hid (J (allI F S (ids.take (j + 1))).length O' W3) := by rw [Hid, ← HN.out]; exact hJ3
          have HT3' := hid hT3
          have HO3 : Hid (∀ x, O' x → x < W3.heap.size) := fun x hx => (hO3 x hx).2
          clear hJ3 hT3 hO3 HR
          gi_wp2_with fail
          gi_loopw [35] (fun i wr => i = .int .i64 0 ∧ wr = W3) (fun _ _ => 0)
          case atStart => exact ⟨rfl, rfl⟩
          case round =>
            obtain ⟨rfl, rfl⟩ := hrel
            gi_wp2
            go_roundw
            case rel => exact ⟨j + 1, O', by omega, by go_num, HJ3.out, HT3'.out, HO3.out⟩
            case measure => simp [intOf]; omega
        · have HJx := hid hJx3
          clear hJx3
          gi_wp2
          refine bodyPost_ret (results_none rfl _ _ _) rfl ?_
          exact ⟨⟨_, rfl⟩, .inr ⟨_, HKN.out, HJx.out⟩⟩
      · obtain ⟨hFz, hSz, hSn⟩ : Fi = 0 ∧ Si.2.2 = 0 ∧ Si.1 ≠ [] := ⟨Classical.byContradiction fun e => hbad (.inl e), Classical.byContradiction fun e => hbad (.inr (.inl e)), fun e => hbad (.inr (.inr e))⟩
        obtain ⟨a, c, rfl, hrow⟩ : ∃ a c, e = .returned (.tuple #[.slice a Si.1.length c, .int .i64 0]) ∧ PRow 60 wr.heap.size b W2 (.slice a Si.1.length c) Si.1 := by
          rcases hld with ⟨h1, _⟩ | ⟨_, h1, _⟩ | ⟨_, _, _, a, c, h1, h2⟩
          · exact absurd hFz h1
          · rcases h1 with h1 | h1
            · exact absurd hSz h1
            · exact absurd h1 hSn
          · exact ⟨a, c, h1, h2⟩
        have hpk : packI id Fi Si = Si.1.map fun x => (id, 0, x) := by rw [packI, if_neg (by omega), if_neg (by intro e; rcases e with e | e; exact e hSz; exact hSn e)]
        rw [hpk] at HTAKE HAT
        have HRW : Hid (RowO b O W2 a Si.1) := RowO.of hrow HOk.out
        obtain ⟨L, hL⟩ : ∃ L, Si.1 = L := ⟨_, rfl⟩
        rw [hL] at HRW HTAKE HAT HSL ⊢
        have HLL := hid HSL.out
        clear hrow hld hbad hFz hSz hSn hpk hL HJk HTk
        gi_wp2_with fail
        refine ⟨(fun _ h => by cases h), ?_⟩
        gi_wp2_with fail
        gi_loopw [35] (fun i wr => ∃ (m : Nat) (O2 : Nat → Prop), m ≤ L.length ∧ i = .int .i64 (m : Int) ∧ Hid (J ((allI F S (ids.take j)).length + m) O2 wr) ∧ Hid (T wr) ∧ Hid (∀ x, O2 x → x < wr.heap.size) ∧ Hid (RowO b O2 wr a L)) (fun i _ => L.length - (intOf i).toNat)
        case atStart => exact ⟨0, O, Nat.zero_le _, rfl, HJ2.out, HT2'.out, HO2.out, HRW.out⟩
        case round =>
          obtain ⟨m, O2, hm, rfl, HJm, HTm, HOm, HRm⟩ := hrel
          by_cases hml : m < L.length
          · obtain ⟨x, hx⟩ : ∃ x, L[m]? = some x := ⟨_, List.getElem?_eq_getElem hml⟩
            obtain ⟨gr, ar, cr, rfl, hgl, hgo, hnx, hrg, hby⟩ := HRm.out m x hx
            have hml2 := HLL.out
            have hmi : (m : Int) < (L.length : Int) := by omega
            have hz0 := zero62
            obtain ⟨Zp, hZp⟩ : ∃ Zp, zPl = Zp := ⟨_, rfl⟩
            have HZL : Hid (Zp.length = 36) := by rw [← hZp]; rfl
            rw [hZp] at hz0
            have HBF := hid (builtF id x.1 x.2.2.2 x.2.2.1.1 x.2.2.1.2.1 hnx.1 ar x.2.2.1.2.2.length cr)
            obtain ⟨R34, hR34⟩ : ∃ R, recA x.2.2.1.1 x.2.2.1.2.1 (.slice ar x.2.2.1.2.2.length cr) = R := ⟨_, rfl⟩
            have hRL : R34.length = 34 := by rw [← hR34]; exact recA_length _ _ _ hnx.1
            have hC36 : plI x (.slice ar x.2.2.1.2.2.length cr) = .int .i64 (x.1 : Int) :: .int .i64 (x.2.2.2 : Int) :: R34 := by rw [← hR34]; rfl
            have hone := plI_one x ar x.2.2.1.2.2.length cr
            obtain ⟨C36, hC⟩ : ∃ C, plI x (.slice ar x.2.2.1.2.2.length cr) = C := ⟨_, rfl⟩
            rw [hC] at hrg hC36 hone
            have hCL : C36.length = 36 := by rw [hC36]; simp [hRL]
            have HRG := hid hrg
            have HI36 : Hid ((Tryz.prog.info? 60).map (·.size) = some C36.length) := by rw [hCL]; exact Tryz.info62
            have HIA : Hid ((Tryz.prog.info? 60).map (·.size) = some C36.toArray.size) := HI36.out
            have HI34 : Hid ((Tryz.prog.info? 56).map (·.size) = some R34.length) := by rw [hRL]; exact Tryz.info35
            have H1 : Hid (C36.toArray.all (·.oneCell') = true) := all_oneCell_toArray hone
            have HT9 : Hid (World.there (wr.alloc (.cells Zp.toArray 60)) wr.heap.size 0 C36.toArray.size) := by
              have h := there_new wr Zp 60
              rw [HZL.out] at h
              show World.there _ _ _ C36.length
              rw [hCL]
              exact h
            obtain ⟨W9, hW9⟩ : ∃ W9, (wr.alloc (.cells Zp.toArray 60)).setCells wr.heap.size 0 C36 = W9 := ⟨_, rfl⟩
            have hb9 : Below wr.heap.size wr W9 := by rw [← hW9]; exact ((Below.refl _ _).alloc (Nat.le_refl _) _).trans (setCells_below (Nat.le_refl _) _ _ _)
            have hr9 : W9.rangeAt wr.heap.size 0 C36 := by rw [← hW9]; exact World.rangeAt_setCells_same _ _ _ _ HT9.out
            have c90 : W9.cell? ⟨wr.heap.size, 0, none⟩ = some (.int .i64 (x.1 : Int)) := by have h := hr9 0 (.int .i64 (x.1 : Int)) (by rw [hC36]; rfl); simpa using h
            have c91 : W9.cell? ⟨wr.heap.size, 1, none⟩ = some (.int .i64 (x.2.2.2 : Int)) := by have h := hr9 1 (.int .i64 (x.2.2.2 : Int)) (by rw [hC36]; rfl); simpa using h
            have HR9 : Hid (W9.rangeAt wr.heap.size 2 R34) := fun r v hv => by
              have h := hr9 (2 + r) v (by rw [hC36, Nat.add_comm]; exact hv)
              rwa [Nat.zero_add] at h
            have HT9' : Hid (T W9) := HT3.out _ _ HTm.out hb9
            have HJ9 : Hid (J ((allI F S (ids.take j)).length + m) O2 W9) := HJ.out _ O2 wr W9 HJm.out HT9'.out (Kept.below hb9)
            have hst9 : StayO O2 wr W9 := .of_below hb9
            have HRow9 : Hid (RowO b O2 W9 (some ⟨gr, 0, none⟩) L) := HRm.out.stay hst9 (fun _ h => .inl h)
            have hs9 := hb9.size
            have HO9 : Hid (∀ y, O2 y → y < W9.heap.size) := fun y hy => Nat.lt_of_lt_of_le (HOm.out y hy) hs9
            have hAt := HAT.out m (id, 0, x) (by rw [List.getElem?_map, hx]; rfl)
            have HVS : Hid (Vr b (allI F S ids) ((allI F S (ids.take j)).length + m) O2 #[.agg (fC id x (.slice ar x.2.2.1.2.2.length cr)).toArray, .int .i64 ((0 : Nat) : Int)] W9) := ⟨(id, 0, x), ar, cr, hAt, rfl, hst9.bytes hby (fun q hq => ⟨hq.1, hq.1, hq.2.1, Nat.lt_of_lt_of_le hq.2.2 hs9⟩), hnx⟩
            have hkN := (List.getElem?_eq_some_iff.1 hAt).1
            have HKN : Hid ((allI F S (ids.take j)).length + m + 1 ≤ (allI F S ids).length) := hkN
            obtain ⟨fn, tmps, assign, body, hy, hR⟩ := HY.out _ O2 W9 _ hkN HO9.out HJ9.out HT9'.out HVS.out
            have HR := hid hR
            have HS9 := hid hs9
            have hfC : fC id x (.slice ar x.2.2.1.2.2.length cr) = .int .i64 (id : Int) :: .int .i64 (x.1 : Int) :: .int .i64 (x.2.2.2 : Int) :: R34 := by rw [← hR34]; rfl
            obtain ⟨CF, hCF⟩ : ∃ CF, (.int .i64 (id : Int) :: .int .i64 (x.1 : Int) :: .int .i64 (x.2.2.2 : Int) :: R34 : List Value) = CF := ⟨_, rfl⟩
            rw [hR34, hCF] at HBF
            rw [hfC, hCF, show ((0 : Nat) : Int) = 0 from rfl] at hy
            clear hR HVS hkN hAt hfC hCF hC36 hC hR34 hone hrg hby hnx hgo hr9 hst9 hs9 hb9 hZp hx hRL hCL
            gi_wp2_with (first
              | (refine wpListIn_val (by rfl) (fun _ h => by cases h) (fun _ => trivial) (exec_load 60 _ (by rfl) gr (m * 36) (by rfl) C36 _ HRG.out Tryz.underlying60 rfl HI36.out) ?_)
              | (refine wpListIn_skip (by rfl) (fun _ h => by cases h) (fun _ => trivial) (exec_store 60 _ _ (by rfl) wr.heap.size 0 C36.toArray (by rfl) (by rfl) HT9.out HIA.out H1.out) ?_)
              | (refine wpListIn_val (by rfl) (fun _ h => by cases h) (fun _ => trivial) (exec_load 56 _ (by rfl) wr.heap.size 2 (by rfl) R34 _ HR9.out Tryz.underlying56 rfl HI34.out) ?_)
              | (refine wpListIn_val (by rfl) (fun _ h => by cases h) (fun _ => trivial) (exec_build2 58 _ _ (by rfl) _ _ (by rfl) (by rfl) CF.toArray HBF.out) ?_))
            refine ⟨wide_d, HR.out.mono ?_⟩
            rintro e W3 (⟨rfl, O', hJ3, hT3, hO3, hst⟩ | ⟨rfl, hJx3⟩)
            · have HJ3 := hid hJ3
              have HT3' := hid hT3
              have HO3 : Hid (∀ y, O' y → y < W3.heap.size) := fun y hy => (hO3 y hy).2
              have HR3 : Hid (RowO b O' W3 (some ⟨gr, 0, none⟩) L) := HRow9.out.stay hst (fun y hy => (hO3 y hy).1)
              clear hJ3 hT3 hO3 hst HR
              gi_wp2_with fail
              go_roundw
              case rel => exact ⟨m + 1, O', by omega, by go_num, HJ3.out, HT3'.out, HO3.out, HR3.out⟩
              case measure => simp [intOf]; omega
            · have HJx := hid hJx3
              clear hJx3
              gi_wp2
              refine bodyPost_ret (results_none rfl _ _ _) rfl ?_
              exact ⟨⟨_, rfl⟩, .inr ⟨_, HKN.out, HJx.out⟩⟩
          · have hmL : m = L.length := by omega
            subst hmL
            have HN : Hid ((allI F S (ids.take j)).length + L.length = (allI F S (ids.take (j + 1))).length) := by rw [Hid, HTAKE.out, List.length_append, List.length_map]
            have HJN : Hid (J (allI F S (ids.take (j + 1))).length O2 wr) := by rw [Hid, ← HN.out]; exact HJm.out
            clear HJm
            gi_wp2
            go_roundw
            case rel => exact ⟨j + 1, O2, by omega, by go_num, HJN.out, HTm.out, HOm.out⟩
            case measure => simp [intOf]; omega
    · have HLL : Hid (ids.take j = ids) := List.take_of_length_le (by omega)
      gi_wp2
      go_end0
      exact ⟨⟨_, rfl⟩, .inl ⟨O, by rw [← HLL.out]; exact HJk.out, HTk.out⟩⟩

end Go.Proofs.YtaaioaocjfpajaaGreatDoor.Sh
end

section
/-
  A walk's two rows: what was found, what was lost; how they grow.
-/
namespace Go.Proofs.YtaaioaocjfpajaaGreatDoor.Sh
open Go.RowKit Go.Shelf
open Tlv (BySlS)
open Crc (Kept)
open Sim (hid Kp No PS Blk nm Row)

/-- What was found, and where its body is. -/
abbrev UI : Type := WI × Option Addr × Nat
def uB (z : UI) : List Int := z.1.2.2.2.2.1.2.2
def uV (z : UI) : Value := .slice z.2.1 (uB z).length z.2.2
def uC (z : UI) : List Value := fC z.1.1 z.1.2.2 (uV z)
def fcs (Us : List UI) : List Value := Us.flatMap uC
def okF (y : WI) : Bool := y.2.1 == 0
def fsOf (X : List WI) (k : Nat) : List WI := (X.take k).filter okF
def lsOf (X : List WI) (k : Nat) : List Int := ((X.take k).filter fun y => !okF y).map fun y => (y.1 : Int)

theorem fsOf_yes {X : List WI} {k : Nat} {y : WI} (h : X[k]? = some y) (hf : y.2.1 = 0) : fsOf X (k + 1) = fsOf X k ++ [y] ∧ lsOf X (k + 1) = lsOf X k := by
  simp [fsOf, lsOf, List.take_add_one, h, okF, hf]
theorem fsOf_no {X : List WI} {k : Nat} {y : WI} (h : X[k]? = some y) (hf : y.2.1 ≠ 0) : fsOf X (k + 1) = fsOf X k ∧ lsOf X (k + 1) = lsOf X k ++ [(y.1 : Int)] := by
  simp [fsOf, lsOf, List.take_add_one, h, okF, hf]
theorem lsOf_len (X : List WI) (k : Nat) : (lsOf X k).length ≤ X.length := by
  unfold lsOf
  rw [List.length_map]
  exact Nat.le_trans (List.length_filter_le _ _) (by rw [List.length_take]; omega)

theorem fC_len (id : Nat) (x : Item) (u : Value) (h : nmOk x) : (fC id x u).length = 37 := by
  unfold fC
  rw [List.length_cons, List.length_cons, List.length_cons, recA_length _ _ _ h.1]
theorem fC_one (id : Nat) (x : Item) (a : Option Addr) (l c : Nat) : ∀ v ∈ fC id x (.slice a l c), v.oneCell' = true := by
  intro v hv
  rcases List.mem_cons.1 hv with rfl | hv
  · rfl
  · rcases List.mem_cons.1 hv with rfl | hv
    · rfl
    · rcases List.mem_cons.1 hv with rfl | hv
      · rfl
      · exact recA_one _ _ _ _ _ v hv
theorem fcs_app (Us : List UI) (z : UI) : fcs (Us ++ [z]) = fcs Us ++ uC z := by simp [fcs]
theorem Row.putl {B : Nat} {U W : World} {e : TypeId} {sz n : Nat} {v : Value} {xs : List Value} (h : Row U e sz v n xs) (hp : Putl B U W) : Row W e sz v n xs := by
  refine ⟨h.1, ?_⟩
  rcases h.2 with hn | ⟨g, cap, cur, rfl, hb, hgg, rest⟩
  · exact .inl hn
  · exact .inr ⟨g, cap, cur, rfl, hb, hp.block hgg, rest⟩
theorem Row.isCells {U : World} {e : TypeId} {sz n : Nat} {v : Value} {xs : List Value} (h : Row U e sz v n xs) {x : Nat} (hx : v.ownBlock = some x) : ∃ cs fr, U.heap[x]? = some (.cells cs e fr) := by
  rcases h.2 with ⟨rfl, _⟩ | ⟨g, cap, cur, rfl, hb, hgg, rest⟩
  · simp [Value.ownBlock] at hx
  · simp only [Value.ownBlock, Option.some.injEq] at hx
    subst hx
    exact ⟨_, _, hgg⟩

/-- Behind k items: the rows at their boxes, in blocks of which O (but for new ones from B on, the two boxes). -/
structure WkS (w : World) (B b m : Nat) (X : List WI) (k : Nat) (O : Nat → Prop) (W : World) (Us : List UI) (u1 u2 : Value) : Prop where
  bm : Boxed W w.heap.size 3 (.int .i64 (m : Int))
  b1 : Boxed W (w.heap.size + 1) 43 u1
  b2 : Boxed W (w.heap.size + 2) 23 u2
  us : Us.map (·.1) = fsOf X k
  r1 : Row W 58 37 u1 Us.length (fcs Us)
  r2 : RowZ W u2 (lsOf X k)
  bs : ∀ z ∈ Us, nmOk z.1.2.2 ∧ BySlS (fun g => ¬ O g ∧ g ≠ b ∧ g < W.heap.size) W (uV z) (uB z)
  o1 : ∀ x, u1.ownBlock = some x → O x ∧ B ≤ x
  o2 : ∀ x, u2.ownBlock = some x → O x ∧ B ≤ x ∧ u1.ownBlock ≠ some x
  g1 : O (w.heap.size + 1)
  g2 : O (w.heap.size + 2)
  oo : ∀ x, O x → x = w.heap.size + 1 ∨ x = w.heap.size + 2 ∨ B ≤ x
  kp : Kp (fun x => x = b) w W

theorem Boxed.kp {L : Nat → Prop} {U W : World} {g : Nat} {t : TypeId} {v : Value} (h : Boxed U g t v) (k : Kp L U W) (hg : ¬ L g) : Boxed W g t v := (k.block g h.lt hg).trans h

theorem WkS.kept {w U W : World} {B b m k : Nat} {X : List WI} {O : Nat → Prop} {Us : List UI} {u1 u2 : Value} (h : WkS w B b m X k O U Us u1 u2) (hk : Kept b U W) (hb : b < w.heap.size) (hB : w.heap.size ≤ B) : WkS w B b m X k O W Us u1 u2 := by
  have kb := kp_kept hk
  exact ⟨Boxed.kp h.bm kb (by omega), Boxed.kp h.b1 kb (by omega), Boxed.kp h.b2 kb (by omega), h.us, Sim.Row.kp h.r1 kb (fun x hx e => by have := (h.o1 x hx).2; omega), Sim.Row.kp h.r2 kb (fun x hx e => by have := (h.o2 x hx).2.1; omega),
    fun z hz => ⟨(h.bs z hz).1, (h.bs z hz).2.agree (fun g hg => kb.block g hg.2.2 hg.2.1) (fun g hg => ⟨hg.1, hg.2.1, Nat.lt_of_lt_of_le hg.2.2 kb.size⟩)⟩, h.o1, h.o2, h.g1, h.g2, h.oo, h.kp.trans kb (fun x hx => .inl hx)⟩
theorem WkS.putl {w U W : World} {B C b m k : Nat} {X : List WI} {O : Nat → Prop} {Us : List UI} {u1 u2 : Value} (h : WkS w B b m X k O U Us u1 u2) (hp : Putl C U W) (hC : w.heap.size ≤ C) : WkS w B b m X k O W Us u1 u2 := by
  have hb := hp.below
  refine ⟨hp.block h.bm, hp.block h.b1, hp.block h.b2, h.us, Row.putl h.r1 hp, Row.putl h.r2 hp,
    fun z hz => ⟨(h.bs z hz).1, BySlS.mono (BySlS.putl (h.bs z hz).2 hp) (fun g hg => ⟨hg.1, hg.2.1, by rw [hp.size]; exact hg.2.2⟩)⟩, h.o1, h.o2, h.g1, h.g2, h.oo, ?_⟩
  have h3 := h.kp
  exact ⟨by rw [hb.os, h3.os], by rw [hb.tape, h3.tape], by rw [hb.output, h3.output], Nat.le_trans h3.size hb.size, fun i hi hn => (hb.block i (by omega)).trans (h3.block i hi hn)⟩

/-- What a row's growing leaves, behind a new block, at the box gb. -/
structure Grew (W V : World) (v : Value) (gb g : Nat) : Prop where
  kp : Kp (fun x => v.ownBlock = some x ∨ x = gb) W V
  lt : g < V.heap.size
  at' : v.ownBlock = some g ∨ W.heap.size ≤ g
theorem grew {W W2 V : World} {C : Array Value} {e : TypeId} {v x : Value} {gb g : Nat} (hgr : (W.alloc (.cells C e)).grownBy W2 v.ownBlock) (hat : v.ownBlock = some g ∨ g = W.heap.size + 1) (hl : g < W2.heap.size) (hV : W2.setCell ⟨gb, 0, none⟩ x = V) : Grew W V v gb g := by
  subst hV
  have k1 : Kp (fun x => v.ownBlock = some x) (W.alloc (.cells C e)) W2 := Kp.ofGrown hgr
  have k2 : Kp (fun x => v.ownBlock = some x ∨ x = gb) W W2 := ((Kp.refl _ W).alloc _).trans k1 (fun x hx => .inl (.inl hx))
  refine ⟨k2.setCell (p := ⟨gb, 0, none⟩) (.inl (.inr rfl)) x, by simpa using hl, ?_⟩
  rcases hat with h | h
  · exact .inl h
  · exact .inr (by omega)
theorem Grew.from {W V : World} {v : Value} {gb g B : Nat} {e : TypeId} {sz n : Nat} {xs : List Value} (h : Grew W V v gb g) (hr : Row W e sz v n xs) (hgb : gb < B) : KeepsFrom B W V := by
  refine ⟨h.kp.size, fun i ob hi hio hc => (h.kp.block i (Array.getElem?_eq_some_iff.1 hio).1 ?_).trans hio⟩
  rintro (e | e)
  · obtain ⟨cs, fr, hcs⟩ := Row.isCells hr e
    rw [hio] at hcs
    cases hcs
    cases hc
  · omega

theorem WkS.found {w W W2 V : World} {B b m k g cap : Nat} {X : List WI} {O : Nat → Prop} {Us : List UI} {u1 u2 : Value} (h : WkS w B b m X k O W Us u1 u2) {y : WI} {a : Option Addr} {c : Nat} (hy : X[k]? = some y) (hf : y.2.1 = 0) (hn : nmOk y.2.2)
    (hby : BySlS (fun g => ¬ O g ∧ g ≠ b ∧ g < W.heap.size) W (uV (y, a, c)) (uB (y, a, c))) (_ : b < w.heap.size) (hB : w.heap.size + 3 ≤ B) (hBW : B ≤ W.heap.size) (hO : ∀ x, O x → x < W.heap.size) {C : Array Value} {e : TypeId}
    (hgr : (W.alloc (.cells C e)).grownBy W2 u1.ownBlock) (hat : u1.ownBlock = some g ∨ g = W.heap.size + 1) (hl : g < W2.heap.size) (hrow : Row W2 58 37 (.slice (some ⟨g, 0, none⟩) (Us.length + 1) cap) (Us.length + 1) (fcs Us ++ uC (y, a, c)))
    (hV : W2.setCell ⟨w.heap.size + 1, 0, none⟩ (.slice (some ⟨g, 0, none⟩) (Us.length + 1) cap) = V) :
    KeepsFrom B W V ∧ WkS w B b m X (k + 1) (fun x => O x ∨ x = g) V (Us ++ [(y, a, c)]) (.slice (some ⟨g, 0, none⟩) (Us.length + 1) cap) u2 ∧ (∀ x, (O x ∨ x = g) → (O x ∨ W.heap.size ≤ x) ∧ x < V.heap.size) ∧ StayO O W V ∧ Kp (fun x => O x) W V := by
  have G := grew hgr hat hl hV
  have hLO : ∀ x, (u1.ownBlock = some x ∨ x = w.heap.size + 1) → O x := fun x hx => by
    rcases hx with hx | hx
    · exact (h.o1 x hx).1
    · rw [hx]; exact h.g1
  have kO : Kp (fun x => O x) W V := G.kp.mono (fun x hx => .inl (hLO x hx))
  have hO' : ∀ x, (O x ∨ x = g) → (O x ∨ W.heap.size ≤ x) ∧ x < V.heap.size := fun x hx => by
    rcases hx with hx | rfl
    · exact ⟨.inl hx, Nat.lt_of_lt_of_le (hO x hx) G.kp.size⟩
    · refine ⟨?_, G.lt⟩
      rcases G.at' with e | e
      · exact .inl (h.o1 _ e).1
      · exact .inr e
  obtain ⟨q1, q2⟩ := fsOf_yes hy hf
  have hst : StayO O W V := .of_kp kO (fun x hx => hx)
  have hBg : B ≤ g := by
    rcases G.at' with e | e
    · exact (h.o1 _ e).2
    · omega
  have hs1 := h.b1.lt
  have hbB : Boxed W2 (w.heap.size + 1) 43 u1 := by
    have k1 : Kp (fun x => u1.ownBlock = some x) W W2 := ((Kp.refl _ W).alloc _).trans (Kp.ofGrown hgr) (fun x hx => .inl hx)
    exact Boxed.kp h.b1 k1 (fun e => by have := (h.o1 _ e).2; omega)
  have byt : ∀ z, BySlS (fun g => ¬ O g ∧ g ≠ b ∧ g < W.heap.size) W (uV z) (uB z) → BySlS (fun q => ¬ (O q ∨ q = g) ∧ q ≠ b ∧ q < V.heap.size) V (uV z) (uB z) := fun z hz => hst.bytes hz (fun q hq => ⟨hq.1, fun e => by
    rcases e with e | rfl
    · exact hq.1 e
    · rcases G.at' with e | e
      · exact hq.1 (h.o1 _ e).1
      · have := hq.2.2
        omega, hq.2.1, Nat.lt_of_lt_of_le hq.2.2 G.kp.size⟩)
  refine ⟨G.from h.r1 (by omega), ⟨Boxed.kp h.bm G.kp ?_, ?_, Boxed.kp h.b2 G.kp ?_, ?_, ?_, ?_, ?_, ?_, ?_, .inl h.g1, .inl h.g2, ?_, ?_⟩, hO', hst, kO⟩
  · rintro (e | e)
    · have := (h.o1 _ e).2; omega
    · omega
  · rw [← hV]; exact Boxed.set _ hbB
  · rintro (e | e)
    · have := (h.o1 _ e).2; omega
    · omega
  · rw [List.map_append, h.us, q1]; rfl
  · have hr : Row V 58 37 (.slice (some ⟨g, 0, none⟩) (Us.length + 1) cap) (Us.length + 1) (fcs Us ++ uC (y, a, c)) := by
      rw [← hV]
      exact Sim.Row.kp hrow ((Kp.refl (fun x => x = w.heap.size + 1) W2).setCell (p := ⟨w.heap.size + 1, 0, none⟩) (.inl rfl) _) (fun x hx e => by
        simp only [Value.ownBlock, Option.some.injEq] at hx
        omega)
    rw [List.length_append, List.length_singleton, fcs_app]
    exact hr
  · rw [q2]
    exact Sim.Row.kp h.r2 G.kp (fun x hx e => by
      have := h.o2 x hx
      rcases e with e | e
      · exact this.2.2 e
      · omega)
  · intro z hz
    rcases List.mem_append.1 hz with hz | hz
    · exact ⟨(h.bs z hz).1, byt z (h.bs z hz).2⟩
    · rw [List.mem_singleton.1 hz]
      exact ⟨hn, byt _ hby⟩
  · intro x hx
    simp only [Value.ownBlock, Option.some.injEq] at hx
    subst hx
    exact ⟨.inr rfl, hBg⟩
  · intro x hx
    obtain ⟨p1, p2, p3⟩ := h.o2 x hx
    refine ⟨.inl p1, p2, fun e => ?_⟩
    simp only [Value.ownBlock, Option.some.injEq] at e
    subst e
    rcases G.at' with e | e
    · exact p3 e
    · have := hO _ p1
      omega
  · intro x hx
    rcases hx with hx | rfl
    · exact h.oo x hx
    · exact .inr (.inr hBg)
  · refine h.kp.trans G.kp (fun x hx => .inr ?_)
    rcases hx with hx | hx
    · have := (h.o1 x hx).2; omega
    · omega

theorem WkS.lost {w W W2 V : World} {B b m k g cap : Nat} {X : List WI} {O : Nat → Prop} {Us : List UI} {u1 u2 : Value} (h : WkS w B b m X k O W Us u1 u2) {y : WI} (hy : X[k]? = some y) (hf : y.2.1 ≠ 0)
    (_ : b < w.heap.size) (hB : w.heap.size + 3 ≤ B) (hBW : B ≤ W.heap.size) (hO : ∀ x, O x → x < W.heap.size) {C : Array Value} {e : TypeId}
    (hgr : (W.alloc (.cells C e)).grownBy W2 u2.ownBlock) (hat : u2.ownBlock = some g ∨ g = W.heap.size + 1) (hl : g < W2.heap.size) (hrow : Row W2 3 1 (.slice (some ⟨g, 0, none⟩) ((lsOf X k).length + 1) cap) ((lsOf X k).length + 1) (ic (lsOf X k) ++ [.int .i64 (y.1 : Int)]))
    (hV : W2.setCell ⟨w.heap.size + 1 + 1, 0, none⟩ (.slice (some ⟨g, 0, none⟩) ((lsOf X k).length + 1) cap) = V) :
    KeepsFrom B W V ∧ WkS w B b m X (k + 1) (fun x => O x ∨ x = g) V Us u1 (.slice (some ⟨g, 0, none⟩) ((lsOf X k).length + 1) cap) ∧ (∀ x, (O x ∨ x = g) → (O x ∨ W.heap.size ≤ x) ∧ x < V.heap.size) ∧ StayO O W V ∧ Kp (fun x => O x) W V := by
  have G := grew hgr hat hl hV
  have hLO : ∀ x, (u2.ownBlock = some x ∨ x = w.heap.size + 1 + 1) → O x := fun x hx => by
    rcases hx with hx | hx
    · exact (h.o2 x hx).1
    · rw [hx]; exact h.g2
  have kO : Kp (fun x => O x) W V := G.kp.mono (fun x hx => .inl (hLO x hx))
  have hO' : ∀ x, (O x ∨ x = g) → (O x ∨ W.heap.size ≤ x) ∧ x < V.heap.size := fun x hx => by
    rcases hx with hx | rfl
    · exact ⟨.inl hx, Nat.lt_of_lt_of_le (hO x hx) G.kp.size⟩
    · refine ⟨?_, G.lt⟩
      rcases G.at' with e | e
      · exact .inl (h.o2 _ e).1
      · exact .inr e
  obtain ⟨q1, q2⟩ := fsOf_no hy hf
  have hst : StayO O W V := .of_kp kO (fun x hx => hx)
  have hBg : B ≤ g := by
    rcases G.at' with e | e
    · exact (h.o2 _ e).2.1
    · omega
  have hs1 := h.b2.lt
  have hbB : Boxed W2 (w.heap.size + 2) 23 u2 := by
    have k1 : Kp (fun x => u2.ownBlock = some x) W W2 := ((Kp.refl _ W).alloc _).trans (Kp.ofGrown hgr) (fun x hx => .inl hx)
    exact Boxed.kp h.b2 k1 (fun e => by have := (h.o2 _ e).2.1; omega)
  have byt : ∀ z, BySlS (fun g => ¬ O g ∧ g ≠ b ∧ g < W.heap.size) W (uV z) (uB z) → BySlS (fun q => ¬ (O q ∨ q = g) ∧ q ≠ b ∧ q < V.heap.size) V (uV z) (uB z) := fun z hz => hst.bytes hz (fun q hq => ⟨hq.1, fun e => by
    rcases e with e | rfl
    · exact hq.1 e
    · rcases G.at' with e | e
      · exact hq.1 (h.o2 _ e).1
      · have := hq.2.2
        omega, hq.2.1, Nat.lt_of_lt_of_le hq.2.2 G.kp.size⟩)
  refine ⟨G.from h.r2 (by omega), ⟨Boxed.kp h.bm G.kp ?_, Boxed.kp h.b1 G.kp ?_, ?_, ?_, ?_, ?_, ?_, ?_, ?_, .inl h.g1, .inl h.g2, ?_, ?_⟩, hO', hst, kO⟩
  · rintro (e | e)
    · have := (h.o2 _ e).2.1; omega
    · omega
  · rintro (e | e)
    · have := (h.o2 _ e).2.1; omega
    · omega
  · rw [← hV]; exact Boxed.set _ hbB
  · rw [h.us, q1]
  · exact Sim.Row.kp h.r1 G.kp (fun x hx e => by
      rcases e with e | e
      · exact (h.o2 x e).2.2 hx
      · have := (h.o1 x hx).2
        omega)
  · have hr : Row V 3 1 (.slice (some ⟨g, 0, none⟩) ((lsOf X k).length + 1) cap) ((lsOf X k).length + 1) (ic (lsOf X k) ++ [.int .i64 (y.1 : Int)]) := by
      rw [← hV]
      exact Sim.Row.kp hrow ((Kp.refl (fun x => x = w.heap.size + 1 + 1) W2).setCell (p := ⟨w.heap.size + 1 + 1, 0, none⟩) (.inl rfl) _) (fun x hx e => by
        simp only [Value.ownBlock, Option.some.injEq] at hx
        omega)
    rw [q2]
    unfold RowZ
    rw [List.length_append, List.length_singleton, ic, List.map_append]
    exact hr
  · intro z hz
    exact ⟨(h.bs z hz).1, byt z (h.bs z hz).2⟩
  · intro x hx
    exact ⟨.inl (h.o1 x hx).1, (h.o1 x hx).2⟩
  · intro x hx
    simp only [Value.ownBlock, Option.some.injEq] at hx
    subst hx
    refine ⟨.inr rfl, hBg, fun e => ?_⟩
    rcases G.at' with e' | e'
    · exact (h.o2 _ e').2.2 e
    · have := hO _ (h.o1 _ e).1
      omega
  · intro x hx
    rcases hx with hx | rfl
    · exact h.oo x hx
    · exact .inr (.inr hBg)
  · refine h.kp.trans G.kp (fun x hx => .inr ?_)
    rcases hx with hx | hx
    · have := (h.o2 x hx).2.1; omega
    · omega

/-! ### What the packs' iterator asks of the world -/
def TW (P : Nat → Prop) (N h s b p q B : Nat) (n : Int) (ps : PS) (ids : List Nat) (ai : Option Addr) (ci : Nat) (O0 : Nat → Prop) (W : World) : Prop :=
  ShAt W h s b n ∧ Sim.Sys P N W s ps ∧ TabX W b ∧ W.cell? ⟨p, 0, none⟩ = some (.slice ai ids.length ci) ∧ W.cell? ⟨q, 0, none⟩ = some (.func (.func 16) #[.pointer (some ⟨h, 0, none⟩)] #[]) ∧
    ∀ (i id : Nat), ids[i]? = some id → ∃ g o, ai = some ⟨g, o, none⟩ ∧ (g < B ∧ g ≠ b ∧ ¬ O0 g) ∧ W.cell? ⟨g, o + i, none⟩ = some (.int .i64 (id : Int))
theorem TW.kp {P : Nat → Prop} {N h s b p q B : Nat} {n : Int} {ps : PS} {ids : List Nat} {ai : Option Addr} {ci : Nat} {O0 L : Nat → Prop} {U W : World} (hT : TW P N h s b p q B n ps ids ai ci O0 U) (k : Kp L U W) (hx : TabX W b) (hL : ∀ x, x < B → x ≠ b → ¬ O0 x → ¬ L x)
    (hh : h < B ∧ h ≠ b ∧ ¬ O0 h) (hP : ∀ x, P x → x < B ∧ x ≠ b ∧ ¬ O0 x) (hp : p < B ∧ p ≠ b ∧ ¬ O0 p) (hq : q < B ∧ q ≠ b ∧ ¬ O0 q) : TW P N h s b p q B n ps ids ai ci O0 W := by
  obtain ⟨h1, h2, h3, h4, h5, h6⟩ := hT
  have cl : ∀ {g o : Nat} {v : Value}, U.cell? ⟨g, o, none⟩ = some v → (g < B ∧ g ≠ b ∧ ¬ O0 g) → W.cell? ⟨g, o, none⟩ = some v := fun hc hg => (k.cell (p := ⟨_, _, none⟩) (cell_lt hc) (hL _ hg.1 hg.2.1 hg.2.2)).trans hc
  refine ⟨h1.kp k (hL _ hh.1 hh.2.1 hh.2.2), h2.kp k (fun x hx hp => hL _ (hP x hp).1 (hP x hp).2.1 (hP x hp).2.2 hx), hx, cl h4 hp, cl h5 hq, fun i id hi => ?_⟩
  obtain ⟨g, o, e, hg, hc⟩ := h6 i id hi
  exact ⟨g, o, e, hg, cl hc hg⟩

end Go.Proofs.YtaaioaocjfpajaaGreatDoor.Sh
end

section
/-
  What pack.Get answers, as one record and one fault.
-/
namespace Go.Proofs.YtaaioaocjfpajaaGreatDoor.Sh
open Go.RowKit Go.Shelf
open Tlv (BySlS)
open Sim (hid Kp No PS Blk nm finds pBytes)

/-- No record. -/
def zE : El := ((0, List.replicate 32 0, []), none, 0)
theorem zE_cells : elC zE = zRec := by rfl
theorem zE_ok : elOk zE := ⟨by rfl, fun y hy => by have := List.eq_of_mem_replicate hy; omega⟩
/-- F: whether the pack is found; its bytes; where: the record y, the fault f. -/
def GSpec (F : Nat) (bs : List Int) (z : Int) (y : El) (f : Nat) : Prop :=
  (F ≠ 0 ∧ f = F ∧ y = zE) ∨ (F = 0 ∧ (z < 0 ∨ (bs.length : Int) ≤ z) ∧ f = 1 ∧ y = zE) ∨ (∃ k : Nat, F = 0 ∧ z = k ∧ k < bs.length ∧ (takeF (bs.drop k)).1 ≠ 0 ∧ f = 4 ∧ y = zE) ∨
  (∃ k : Nat, F = 0 ∧ z = k ∧ k < bs.length ∧ (takeF (bs.drop k)).1 = 0 ∧ f = 0 ∧ y.1 = (takeF (bs.drop k)).2.1)

theorem get_one {P : Nat → Prop} {N : Nat} (w : World) (s b : Nat) (p : PS) (i : Nat) (z : Int) (h1 : 1 ≤ i) (h2 : i < 100) (h : Sim.Sys P N w s p) (hT : TabX w b) (hb : ∀ x ∈ pBytes (nm (nameP i)) p, x < 256) (hl : (pBytes (nm (nameP i)) p).length ≤ 20000000) :
    Calls Tryz.prog 43 #[.pointer (some ⟨s, 0, none⟩), .pointer (some ⟨b, 0, none⟩), .int .i64 (i : Int), .int .i64 z] w fun e w' =>
      ∃ (y : El) (f : Nat), e = .returned (.tuple #[.agg (elC y).toArray, .int .i64 (f : Int)]) ∧ elOk y ∧ BySlS (fun g => w.heap.size ≤ g ∧ g < w'.heap.size) w' (elV y) y.1.2.2 ∧ GSpec (finds p (nm (nameP i))) (ints (pBytes (nm (nameP i)) p)) z y f ∧ Crc.Kept b w w' ∧ TabX w' b := by
  refine (get_any w s b p i z h1 h2 h hT hb hl).mono ?_
  rintro e w' ⟨hc, hk, ht⟩
  rcases hc with ⟨hf, rfl⟩ | ⟨hf, hz, rfl⟩ | ⟨k, hf, hz, hk', hn, rfl⟩ | ⟨k, hf, hz, hk', h0, a, c, rfl, hb, ho⟩
  · exact ⟨zE, _, by rw [zE_cells], zE_ok, BySlS.none _ _, .inl ⟨hf, rfl, rfl⟩, hk, ht⟩
  · exact ⟨zE, 1, by rw [zE_cells]; rfl, zE_ok, BySlS.none _ _, .inr (.inl ⟨hf, hz, rfl, rfl⟩), hk, ht⟩
  · exact ⟨zE, 4, by rw [zE_cells]; rfl, zE_ok, BySlS.none _ _, .inr (.inr (.inl ⟨k, hf, hz, hk', hn, rfl, rfl⟩)), hk, ht⟩
  · exact ⟨((takeF ((ints (pBytes (nm (nameP i)) p)).drop k)).2.1, a, c), 0, rfl, ho, hb, .inr (.inr (.inr ⟨k, hf, hz, hk', h0, rfl, rfl⟩)), hk, ht⟩

end Go.Proofs.YtaaioaocjfpajaaGreatDoor.Sh
end

section
/-
  Read and Drop of no shelf.
-/
namespace Go.Proofs.YtaaioaocjfpajaaGreatDoor.Sh
open Go.RowKit Go.Shelf
open Sim (hid Kp No)
end Go.Proofs.YtaaioaocjfpajaaGreatDoor.Sh
end
