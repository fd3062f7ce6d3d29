/- Of the proof: the texts ShTells, ShIds, ShMax, ShWkM, ShWalk, one behind the other. -/
import Derived.Test.YtaaioaocjfpajaaGreatDoorB8
import Derived.Test.YtaaioaocjfpajaaGreatDoorB12
import Derived.Test.YtaaioaocjfpajaaGreatDoorB10
import Derived.Test.YtaaioaocjfpajaaGreatDoorPkShelf
import Derived.Sort.OwnSortedInts
section
/-
  records: what the iterator over packs tells.
-/
namespace Go.Proofs.YtaaioaocjfpajaaGreatDoor.Sh
open Go.RowKit Go.Shelf
open Tlv (BySlS)
open Crc (Kept)
open Sim (hid Kp No PS Blk nm)
attribute [local go_sem] Oper.semAt_some

/-- An item of a walk: the pack, a fault, what is placed there. -/
abbrev WI : Type := Nat × Nat × Item
def noIt : Item := (0, 0, (0, List.replicate 32 0, []), 0)
def fC (id : Nat) (x : Item) (u : Value) : List Value := .int .i64 (id : Int) :: .int .i64 (x.1 : Int) :: .int .i64 (x.2.2.2 : Int) :: recA x.2.2.1.1 x.2.2.1.2.1 u
def packI (id F : Nat) (S : List Item × Nat × Int) : List WI := if F ≠ 0 then [(id, F, noIt)] else if S.2.2 ≠ 0 ∨ S.1 = [] then [(id, 4, noIt)] else S.1.map fun x => (id, 0, x)
def allI (F : Nat → Nat) (S : Nat → List Item × Nat × Int) (ids : List Nat) : List WI := ids.flatMap fun id => packI id (F id) (S id)
def Vr (b : Nat) (X : List WI) (k : Nat) (O : Nat → Prop) (vs : Array Value) (U : World) : Prop :=
  ∃ (y : WI) (a : Option Addr) (c : Nat), X[k]? = some y ∧ vs = #[.agg (fC y.1 y.2.2 (.slice a y.2.2.2.2.1.2.2.length c)).toArray, .int .i64 (y.2.1 : Int)] ∧
    BySlS (fun g => ¬ O g ∧ g ≠ b ∧ g < U.heap.size) U (.slice a y.2.2.2.2.1.2.2.length c) y.2.2.2.2.1.2.2 ∧ nmOk y.2.2

theorem allI_take (F : Nat → Nat) (S : Nat → List Item × Nat × Int) (ids : List Nat) (j id : Nat) (h : ids[j]? = some id) : allI F S (ids.take (j + 1)) = allI F S (ids.take j) ++ packI id (F id) (S id) := by
  simp [allI, List.take_add_one, h]
theorem allI_at (F : Nat → Nat) (S : Nat → List Item × Nat × Int) (ids : List Nat) (j id i : Nat) (y : WI) (h : ids[j]? = some id) (hy : (packI id (F id) (S id))[i]? = some y) : (allI F S ids)[(allI F S (ids.take j)).length + i]? = some y := by
  have e : ids = ids.take j ++ id :: ids.drop (j + 1) := by
    rw [← List.getElem_eq_iff (h := (List.getElem?_eq_some_iff.1 h).1)] at h
    rw [← h, List.getElem_cons_drop, List.take_append_drop]
  have e2 : allI F S ids = allI F S (ids.take j) ++ (packI id (F id) (S id) ++ allI F S (ids.drop (j + 1))) := by
    conv => lhs; rw [e]
    simp [allI]
  rw [e2, List.getElem?_append_right (by omega), Nat.add_sub_cancel_left, List.getElem?_append_left (List.getElem?_eq_some_iff.1 hy).1]
  exact hy

/-- A row of what is placed, outside the body's blocks. -/
def RowO (b : Nat) (O : Nat → Prop) (W : World) (a : Option Addr) (L : List Item) : Prop :=
  ∀ i x, L[i]? = some x → ∃ gr a' c', a = some ⟨gr, 0, none⟩ ∧ gr < W.heap.size ∧ ¬ O gr ∧ nmOk x ∧ W.rangeAt gr (i * 36) (plI x (.slice a' x.2.2.1.2.2.length c')) ∧ BySlS (fun q => ¬ O q ∧ q ≠ b ∧ q < W.heap.size) W (.slice a' x.2.2.1.2.2.length c') x.2.2.1.2.2
theorem RowO.of {b base c : Nat} {O : Nat → Prop} {W : World} {a : Option Addr} {L : List Item} (h : PRow 60 base b W (.slice a L.length c) L) (hO : ∀ x, O x → x < base) : RowO b O W a L := fun i x hx => by
  obtain ⟨g, cap, a', c', e, h1, h2, h3, h4, h5⟩ := h.get i x hx
  simp only [Value.slice.injEq, true_and] at e
  obtain ⟨rfl, _⟩ := e
  exact ⟨g, a', c', rfl, h2, fun e => by have := hO _ e; omega, h3, h4, BySlS.mono h5 (fun q hq => ⟨fun e => by have := hO _ e; omega, hq.2.1, hq.2.2.1⟩)⟩
theorem RowO.stay {b : Nat} {O O' : Nat → Prop} {U W : World} {a : Option Addr} {L : List Item} (h : RowO b O U a L) (hs : StayO O U W) (hO : ∀ x, O' x → O x ∨ U.heap.size ≤ x) : RowO b O' W a L := fun i x hx => by
  obtain ⟨gr, a', c', e, h1, h2, h3, h4, h5⟩ := h i x hx
  refine ⟨gr, a', c', e, Nat.lt_of_lt_of_le h1 hs.size, fun e => ?_, h3, hs.range h4 h2, hs.bytes h5 (fun q hq => ⟨hq.1, fun e => ?_, hq.2.1, Nat.lt_of_lt_of_le hq.2.2 hs.size⟩)⟩
  · rcases hO _ e with e | e
    · exact h2 e
    · omega
  · rcases hO _ e with e | e
    · exact hq.1 e
    · have := hq.2.2
      omega
theorem exec_build2 {P : Program} {o : Oper} {a : Act} {w : World} (ty : TypeId) (x y : Operand) (ho : o.op = .build ty #[(0, x), (1, y)]) (vx vy : Value) (hx : a.eval x = vx) (hy : a.eval y = vy) (C : Array Value)
    (hb : P.built ty [(0, vx), (1, vy)] = some C) : (execOp a.eval o).run P w = .ok (.value (.agg C)) w := by
  have e : P.built ty ((#[(0, x), (1, y)] : Array (Nat × Operand)).map fun (i, x) => (i, a.eval x)).toList = some C := by
    rw [← hb]
    simp only [List.map_toArray, List.map_cons, List.map_nil, hx, hy]
  unfold execOp
  simp only [ho, Sem.run_bind, run_build w ty _ C e, Result.andThen_ok, Sem.run_pure]
theorem builtF (i p n : Nat) (k : Int) (nm : List Int) (h : nm.length = 32) (a : Option Addr) (l c : Nat) : Tryz.prog.built 58 [(0, .agg #[.int .i64 (i : Int), .int .i64 (p : Int), .int .i64 (n : Int)]), (1, .agg (recA k nm (.slice a l c)).toArray)] = some (.int .i64 (i : Int) :: .int .i64 (p : Int) :: .int .i64 (n : Int) :: recA k nm (.slice a l c)).toArray := by
  obtain ⟨x0, x1, x2, x3, x4, x5, x6, x7, x8, x9, x10, x11, x12, x13, x14, x15, x16, x17, x18, x19, x20, x21, x22, x23, x24, x25, x26, x27, x28, x29, x30, x31, rfl⟩ := ex32 h
  kernel_rfl

set_option maxHeartbeats 4000000 in
set_option maxRecDepth 100000 in
theorem tells_recs (n b p q h : Nat) (ids : List Nat) (ai : Option Addr) (ci : Nat) (F : Nat → Nat) (S : Nat → List Item × Nat × Int) (T : World → Prop) (O0 : Nat → Prop)
    (hT1 : ∀ W, T W → W.cell? ⟨p, 0, none⟩ = some (.slice ai ids.length ci) ∧ W.cell? ⟨q, 0, none⟩ = some (.func (.func 16) #[.pointer (some ⟨h, 0, none⟩)] #[]))
    (hT4 : ∀ W, T W → ∀ (i id : Nat), ids[i]? = some id → ∃ g o, ai = some ⟨g, o, none⟩ ∧ W.cell? ⟨g, o + i, none⟩ = some (.int .i64 (id : Int)))
    (hT2 : ∀ U W, T U → Kept b U W → TabX W b → T W) (hT3 : ∀ U W, T U → Below U.heap.size U W → T W)
    (hL : ∀ (W : World) (id : Nat), T W → id ∈ ids → Calls Tryz.prog 16 #[.pointer (some ⟨h, 0, none⟩), .int .i64 (id : Int)] W fun e W' => Loaded W W' b e (F id) (S id)) (hn : ids.length ≤ 1000) (hsl : ∀ id ∈ ids, (S id).1.length ≤ 20000000) :
    TellsO n 59 #[.pointer (some ⟨p, 0, none⟩), .pointer (some ⟨q, 0, none⟩)] b T (Vr b (allI F S ids)) (allI F S ids).length O0 := by
  intro l J Jx W hT hJ hY h0 hO
  obtain ⟨hp, hq⟩ := hT1 W hT
  have HT := hid hT
  have HJ := hid hJ
  have HY := hid hY
  have H0 := hid h0
  have HO := hid hO
  have HT1 := hid hT1
  have HT2 := hid hT2
  have HT3 := hid hT3
  have HT4 := hid hT4
  have HL := hid hL
  have HSL0 := hid hsl
  clear hsl
  clear hT hJ hY h0 hT1 hT2 hT3 hT4 hL hO hq
  refine callsIn_of_wp Tryz.func59 rfl trivial ?_ rfl
  simp only [Tryz.ntmps59, List.size_toArray, List.length_cons, List.length_nil, Nat.reduceAdd, Nat.reduceSub, Array.replicate_succ, Array.replicate_zero, List.push_toArray, List.append_toArray, List.nil_append, List.cons_append]
  gi_wp2_with fail
  clear hp
  gi_loopw [12] (fun i wr => ∃ (j : Nat) (O : Nat → Prop), j ≤ ids.length ∧ i = .int .i64 (j : Int) ∧ Hid (J (allI F S (ids.take j)).length O wr) ∧ Hid (T wr) ∧ Hid (∀ x, O x → x < wr.heap.size)) (fun i _ => ids.length - (intOf i).toNat)
  case atStart => exact ⟨0, O0, Nat.zero_le _, rfl, H0.out, HT, HO⟩
  case round =>
    obtain ⟨j, O, hj, rfl, HJk, HTk, HOk⟩ := hrel
    by_cases hlt : j < ids.length
    · obtain ⟨id, hid'⟩ : ∃ id, ids[j]? = some id := ⟨_, List.getElem?_eq_getElem hlt⟩
      obtain ⟨g, o, rfl, hcid⟩ := HT4.out wr HTk.out j id hid'
      obtain ⟨_, hq⟩ := HT1.out wr HTk.out
      have HID := hid hid'
      have hji : (j : Int) < (ids.length : Int) := by omega
      clear hid'
      gi_wp2_with fail
      refine ⟨trivial, wide_d, (callsIn_wide.2 (HL.out wr id HTk.out (List.mem_of_getElem? HID.out))).mono ?_⟩
      rintro e W2 ⟨hld, hkb, htb⟩
      have HT2' := hid (HT2.out wr W2 HTk.out hkb htb)
      have HJ2 := hid (HJ.out _ O wr W2 HJk.out HT2'.out hkb)
      have hs2 := hkb.size
      have HO2 : Hid (∀ x, O x → x < W2.heap.size) := fun x hx => Nat.lt_of_lt_of_le (HOk.out x hx) hs2
      have HTAKE := hid (allI_take F S ids j id HID.out)
      have HAT := hid (fun i y => allI_at F S ids j id i y HID.out)
      obtain ⟨Fi, hFi⟩ : ∃ f, F id = f := ⟨_, rfl⟩
      obtain ⟨Si, hSi⟩ : ∃ f, S id = f := ⟨_, rfl⟩
      have HSL : Hid ((S id).1.length ≤ 20000000) := HSL0.out id (List.mem_of_getElem? HID.out)
      rw [hFi, hSi] at hld HTAKE HAT
      rw [hSi] at HSL
      clear hFi hSi hcid hq
      by_cases hbad : Fi ≠ 0 ∨ Si.2.2 ≠ 0 ∨ Si.1 = []
      · have hbad' : ∃ f : Nat, f ≠ 0 ∧ e = .returned (.tuple #[.slice none 0 0, .int .i64 (f : Int)]) ∧ packI id Fi Si = [(id, f, noIt)] := by
          rcases hld with ⟨h1, h2⟩ | ⟨h1, h2, h3⟩ | ⟨h1, h2, h3, _⟩
          · exact ⟨Fi, h1, h2, by rw [packI, if_pos h1]⟩
          · exact ⟨4, by omega, h3, by rw [packI, if_neg (by omega), if_pos h2]⟩
          · rcases hbad with e | e | e
            · exact absurd h1 e
            · exact absurd h2 e
            · exact absurd e h3
        obtain ⟨f, hf0, rfl, hpk⟩ := hbad'
        rw [hpk] at HTAKE HAT
        have hf0I : ¬ ((f : Int) = 0) := by omega
        have HVS : Hid (Vr b (allI F S ids) (allI F S (ids.take j)).length O #[.agg (fC id noIt (.slice none 0 0)).toArray, .int .i64 (f : Int)] W2) := ⟨(id, f, noIt), none, 0, by have h := HAT.out 0 _ rfl; simpa using h, rfl, BySlS.none _ _, rfl, fun y hy => by have := List.eq_of_mem_replicate (show y ∈ List.replicate 32 (0 : Int) from hy); omega⟩
        have hkN : (allI F S (ids.take j)).length < (allI F S ids).length := (List.getElem?_eq_some_iff.1 (HAT.out 0 _ rfl)).1
        obtain ⟨fn, tmps, assign, body, hy, hR⟩ := HY.out _ O W2 _ hkN HO2.out HJ2.out HT2'.out HVS.out
        have HR := hid hR
        simp [fC, noIt, recA, u8s, List.replicate] at hy
        have HKN : Hid ((allI F S (ids.take j)).length + 1 ≤ (allI F S ids).length) := hkN
        clear hR hld hbad hf0 hpk hkN HVS HJk HTk HAT
        gi_wp2_with fail
        refine ⟨wide_d, HR.out.mono ?_⟩
        rintro e W3 (⟨rfl, O', hJ3, hT3, hO3, _⟩ | ⟨rfl, hJx3⟩)
        · have HN : Hid ((allI F S (ids.take j)).length + 1 = (allI F S (ids.take (j + 1))).length) := by rw [Hid, HTAKE.out, List.length_append]; rfl
          have HJ3 : Hid (J (allI F S (ids.take (j + 1))).length O' W3) := by rw [Hid, ← HN.out]; exact hJ3
          have HT3' := hid hT3
          have HO3 : Hid (∀ x, O' x → x < W3.heap.size) := fun x hx => (hO3 x hx).2
          clear hJ3 hT3 hO3 HR
          gi_wp2_with fail
          gi_loopw [35] (fun i wr => i = .int .i64 0 ∧ wr = W3) (fun _ _ => 0)
          case atStart => exact ⟨rfl, rfl⟩
          case round =>
            obtain ⟨rfl, rfl⟩ := hrel
            gi_wp2
            go_roundw
            case rel => exact ⟨j + 1, O', by omega, by go_num, HJ3.out, HT3'.out, HO3.out⟩
            case measure => simp [intOf]; omega
        · have HJx := hid hJx3
          clear hJx3
          gi_wp2
          refine bodyPost_ret (results_none rfl _ _ _) rfl ?_
          exact ⟨⟨_, rfl⟩, .inr ⟨_, HKN.out, HJx.out⟩⟩
      · obtain ⟨hFz, hSz, hSn⟩ : Fi = 0 ∧ Si.2.2 = 0 ∧ Si.1 ≠ [] := ⟨Classical.byContradiction fun e => hbad (.inl e), Classical.byContradiction fun e => hbad (.inr (.inl e)), fun e => hbad (.inr (.inr e))⟩
        obtain ⟨a, c, rfl, hrow⟩ : ∃ a c, e = .returned (.tuple #[.slice a Si.1.length c, .int .i64 0]) ∧ PRow 60 wr.heap.size b W2 (.slice a Si.1.length c) Si.1 := by
          rcases hld with ⟨h1, _⟩ | ⟨_, h1, _⟩ | ⟨_, _, _, a, c, h1, h2⟩
          · exact absurd hFz h1
          · rcases h1 with h1 | h1
            · exact absurd hSz h1
            · exact absurd h1 hSn
          · exact ⟨a, c, h1, h2⟩
        have hpk : packI id Fi Si = Si.1.map fun x => (id, 0, x) := by rw [packI, if_neg (by omega), if_neg (by intro e; rcases e with e | e; exact e hSz; exact hSn e)]
        rw [hpk] at HTAKE HAT
        have HRW : Hid (RowO b O W2 a Si.1) := RowO.of hrow HOk.out
        obtain ⟨L, hL⟩ : ∃ L, Si.1 = L := ⟨_, rfl⟩
        rw [hL] at HRW HTAKE HAT HSL ⊢
        have HLL := hid HSL.out
        clear hrow hld hbad hFz hSz hSn hpk hL HJk HTk
        gi_wp2_with fail
        refine ⟨(fun _ h => by cases h), ?_⟩
        gi_wp2_with fail
        gi_loopw [35] (fun i wr => ∃ (m : Nat) (O2 : Nat → Prop), m ≤ L.length ∧ i = .int .i64 (m : Int) ∧ Hid (J ((allI F S (ids.take j)).length + m) O2 wr) ∧ Hid (T wr) ∧ Hid (∀ x, O2 x → x < wr.heap.size) ∧ Hid (RowO b O2 wr a L)) (fun i _ => L.length - (intOf i).toNat)
        case atStart => exact ⟨0, O, Nat.zero_le _, rfl, HJ2.out, HT2'.out, HO2.out, HRW.out⟩
        case round =>
          obtain ⟨m, O2, hm, rfl, HJm, HTm, HOm, HRm⟩ := hrel
          by_cases hml : m < L.length
          · obtain ⟨x, hx⟩ : ∃ x, L[m]? = some x := ⟨_, List.getElem?_eq_getElem hml⟩
            obtain ⟨gr, ar, cr, rfl, hgl, hgo, hnx, hrg, hby⟩ := HRm.out m x hx
            have hml2 := HLL.out
            have hmi : (m : Int) < (L.length : Int) := by omega
            have hz0 := zero62
            obtain ⟨Zp, hZp⟩ : ∃ Zp, zPl = Zp := ⟨_, rfl⟩
            have HZL : Hid (Zp.length = 36) := by rw [← hZp]; rfl
            rw [hZp] at hz0
            have HBF := hid (builtF id x.1 x.2.2.2 x.2.2.1.1 x.2.2.1.2.1 hnx.1 ar x.2.2.1.2.2.length cr)
            obtain ⟨R34, hR34⟩ : ∃ R, recA x.2.2.1.1 x.2.2.1.2.1 (.slice ar x.2.2.1.2.2.length cr) = R := ⟨_, rfl⟩
            have hRL : R34.length = 34 := by rw [← hR34]; exact recA_length _ _ _ hnx.1
            have hC36 : plI x (.slice ar x.2.2.1.2.2.length cr) = .int .i64 (x.1 : Int) :: .int .i64 (x.2.2.2 : Int) :: R34 := by rw [← hR34]; rfl
            have hone := plI_one x ar x.2.2.1.2.2.length cr
            obtain ⟨C36, hC⟩ : ∃ C, plI x (.slice ar x.2.2.1.2.2.length cr) = C := ⟨_, rfl⟩
            rw [hC] at hrg hC36 hone
            have hCL : C36.length = 36 := by rw [hC36]; simp [hRL]
            have HRG := hid hrg
            have HI36 : Hid ((Tryz.prog.info? 60).map (·.size) = some C36.length) := by rw [hCL]; exact Tryz.info62
            have HIA : Hid ((Tryz.prog.info? 60).map (·.size) = some C36.toArray.size) := HI36.out
            have HI34 : Hid ((Tryz.prog.info? 56).map (·.size) = some R34.length) := by rw [hRL]; exact Tryz.info35
            have H1 : Hid (C36.toArray.all (·.oneCell') = true) := all_oneCell_toArray hone
            have HT9 : Hid (World.there (wr.alloc (.cells Zp.toArray 60)) wr.heap.size 0 C36.toArray.size) := by
              have h := there_new wr Zp 60
              rw [HZL.out] at h
              show World.there _ _ _ C36.length
              rw [hCL]
              exact h
            obtain ⟨W9, hW9⟩ : ∃ W9, (wr.alloc (.cells Zp.toArray 60)).setCells wr.heap.size 0 C36 = W9 := ⟨_, rfl⟩
            have hb9 : Below wr.heap.size wr W9 := by rw [← hW9]; exact ((Below.refl _ _).alloc (Nat.le_refl _) _).trans (setCells_below (Nat.le_refl _) _ _ _)
            have hr9 : W9.rangeAt wr.heap.size 0 C36 := by rw [← hW9]; exact World.rangeAt_setCells_same _ _ _ _ HT9.out
            have c90 : W9.cell? ⟨wr.heap.size, 0, none⟩ = some (.int .i64 (x.1 : Int)) := by have h := hr9 0 (.int .i64 (x.1 : Int)) (by rw [hC36]; rfl); simpa using h
            have c91 : W9.cell? ⟨wr.heap.size, 1, none⟩ = some (.int .i64 (x.2.2.2 : Int)) := by have h := hr9 1 (.int .i64 (x.2.2.2 : Int)) (by rw [hC36]; rfl); simpa using h
            have HR9 : Hid (W9.rangeAt wr.heap.size 2 R34) := fun r v hv => by
              have h := hr9 (2 + r) v (by rw [hC36, Nat.add_comm]; exact hv)
              rwa [Nat.zero_add] at h
            have HT9' : Hid (T W9) := HT3.out _ _ HTm.out hb9
            have HJ9 : Hid (J ((allI F S (ids.take j)).length + m) O2 W9) := HJ.out _ O2 wr W9 HJm.out HT9'.out (Kept.below hb9)
            have hst9 : StayO O2 wr W9 := .of_below hb9
            have HRow9 : Hid (RowO b O2 W9 (some ⟨gr, 0, none⟩) L) := HRm.out.stay hst9 (fun _ h => .inl h)
            have hs9 := hb9.size
            have HO9 : Hid (∀ y, O2 y → y < W9.heap.size) := fun y hy => Nat.lt_of_lt_of_le (HOm.out y hy) hs9
            have hAt := HAT.out m (id, 0, x) (by rw [List.getElem?_map, hx]; rfl)
            have HVS : Hid (Vr b (allI F S ids) ((allI F S (ids.take j)).length + m) O2 #[.agg (fC id x (.slice ar x.2.2.1.2.2.length cr)).toArray, .int .i64 ((0 : Nat) : Int)] W9) := ⟨(id, 0, x), ar, cr, hAt, rfl, hst9.bytes hby (fun q hq => ⟨hq.1, hq.1, hq.2.1, Nat.lt_of_lt_of_le hq.2.2 hs9⟩), hnx⟩
            have hkN := (List.getElem?_eq_some_iff.1 hAt).1
            have HKN : Hid ((allI F S (ids.take j)).length + m + 1 ≤ (allI F S ids).length) := hkN
            obtain ⟨fn, tmps, assign, body, hy, hR⟩ := HY.out _ O2 W9 _ hkN HO9.out HJ9.out HT9'.out HVS.out
            have HR := hid hR
            have HS9 := hid hs9
            have hfC : fC id x (.slice ar x.2.2.1.2.2.length cr) = .int .i64 (id : Int) :: .int .i64 (x.1 : Int) :: .int .i64 (x.2.2.2 : Int) :: R34 := by rw [← hR34]; rfl
            obtain ⟨CF, hCF⟩ : ∃ CF, (.int .i64 (id : Int) :: .int .i64 (x.1 : Int) :: .int .i64 (x.2.2.2 : Int) :: R34 : List Value) = CF := ⟨_, rfl⟩
            rw [hR34, hCF] at HBF
            rw [hfC, hCF, show ((0 : Nat) : Int) = 0 from rfl] at hy
            clear hR HVS hkN hAt hfC hCF hC36 hC hR34 hone hrg hby hnx hgo hr9 hst9 hs9 hb9 hZp hx hRL hCL
            gi_wp2_with (first
              | (refine wpListIn_val (by rfl) (fun _ h => by cases h) (fun _ => trivial) (exec_load 60 _ (by rfl) gr (m * 36) (by rfl) C36 _ HRG.out Tryz.underlying60 rfl HI36.out) ?_)
              | (refine wpListIn_skip (by rfl) (fun _ h => by cases h) (fun _ => trivial) (exec_store 60 _ _ (by rfl) wr.heap.size 0 C36.toArray (by rfl) (by rfl) HT9.out HIA.out H1.out) ?_)
              | (refine wpListIn_val (by rfl) (fun _ h => by cases h) (fun _ => trivial) (exec_load 56 _ (by rfl) wr.heap.size 2 (by rfl) R34 _ HR9.out Tryz.underlying56 rfl HI34.out) ?_)
              | (refine wpListIn_val (by rfl) (fun _ h => by cases h) (fun _ => trivial) (exec_build2 58 _ _ (by rfl) _ _ (by rfl) (by rfl) CF.toArray HBF.out) ?_))
            refine ⟨wide_d, HR.out.mono ?_⟩
            rintro e W3 (⟨rfl, O', hJ3, hT3, hO3, hst⟩ | ⟨rfl, hJx3⟩)
            · have HJ3 := hid hJ3
              have HT3' := hid hT3
              have HO3 : Hid (∀ y, O' y → y < W3.heap.size) := fun y hy => (hO3 y hy).2
              have HR3 : Hid (RowO b O' W3 (some ⟨gr, 0, none⟩) L) := HRow9.out.stay hst (fun y hy => (hO3 y hy).1)
              clear hJ3 hT3 hO3 hst HR
              gi_wp2_with fail
              go_roundw
              case rel => exact ⟨m + 1, O', by omega, by go_num, HJ3.out, HT3'.out, HO3.out, HR3.out⟩
              case measure => simp [intOf]; omega
            · have HJx := hid hJx3
              clear hJx3
              gi_wp2
              refine bodyPost_ret (results_none rfl _ _ _) rfl ?_
              exact ⟨⟨_, rfl⟩, .inr ⟨_, HKN.out, HJx.out⟩⟩
          · have hmL : m = L.length := by omega
            subst hmL
            have HN : Hid ((allI F S (ids.take j)).length + L.length = (allI F S (ids.take (j + 1))).length) := by rw [Hid, HTAKE.out, List.length_append, List.length_map]
            have HJN : Hid (J (allI F S (ids.take (j + 1))).length O2 wr) := by rw [Hid, ← HN.out]; exact HJm.out
            clear HJm
            gi_wp2
            go_roundw
            case rel => exact ⟨j + 1, O2, by omega, by go_num, HJN.out, HTm.out, HOm.out⟩
            case measure => simp [intOf]; omega
    · have HLL : Hid (ids.take j = ids) := List.take_of_length_le (by omega)
      gi_wp2
      go_end0
      exact ⟨⟨_, rfl⟩, .inl ⟨O, by rw [← HLL.out]; exact HJk.out, HTk.out⟩⟩

end Go.Proofs.YtaaioaocjfpajaaGreatDoor.Sh
end

section
/-
  The ids of the packs that are seen, rising.
-/
namespace Go.Proofs.YtaaioaocjfpajaaGreatDoor.Sh
open Go.RowKit Go.Shelf
open Sim (hid Kp No PS Done Blk nm pList OwnN Row Nm)

def packS : ByteArray := ⟨#[112, 97, 99, 107, 46]⟩
/-- The id that a name tells. -/
def idN (n : Nm) : Option Int := if (idOf packS ⟨n.toArray⟩).2 = true then some (idOf packS ⟨n.toArray⟩).1 else none
def ic (zs : List Int) : List Value := zs.map (Value.int .i64)
def RowZ (w : World) (v : Value) (zs : List Int) : Prop := Row w 3 1 v zs.length (ic zs)
theorem infoI : (Tryz.prog.info? 3).map (fun i => (i.zero, i.size, i.bytes)) = some (some (.int .i64 0), 1, 8) := by kernel_rfl
theorem run_oneI (n : Int) (w : World) : (Instr.buildSlice 23 1 #[(0, .int .i64 n)]).run Tryz.prog w = .ok (.slice (some ⟨w.heap.size, 0, none⟩) 1 1) (w.alloc (.cells #[.int .i64 n] 3)) := by kernel_rfl
theorem RowZ.form {w : World} {v : Value} {zs : List Int} (h : RowZ w v zs) : ∃ a c, v = .slice a zs.length c ∧ zs.length ≤ c ∧ c ≤ maxLen ∧ (zs ≠ [] → ∃ g, a = some ⟨g, 0, none⟩ ∧ g < w.heap.size) := by
  obtain ⟨a, c, rfl, h1, h2, h3, h4⟩ := Row.shape h
  refine ⟨a, c, rfl, h1, h2, fun hne => ?_⟩
  cases a with
  | none =>
    have := (h3 rfl).1
    exact absurd (List.length_eq_zero_iff.1 this) hne
  | some x =>
    obtain ⟨hs, ho⟩ := h4 x rfl
    obtain ⟨b, o, s⟩ := x
    simp only at hs ho
    subst hs ho
    exact ⟨b, rfl, Row.lt h b rfl⟩
theorem RowZ.cell {w : World} {g n c : Nat} {zs : List Int} (h : RowZ w (.slice (some ⟨g, 0, none⟩) n c) zs) (hn : n = zs.length) (i : Nat) {z : Int} (hi : zs[i]? = some z) : w.cell? ⟨g, i, none⟩ = some (.int .i64 z) := by
  subst hn
  have hl := (List.getElem?_eq_some_iff.1 hi).1
  have := Row.cellAt h i (by omega)
  rw [this, ic, List.getElem?_map, hi]
  rfl

theorem Vars.kept {w w' : World} (h : Vars w) (k : Kp No w w') : Vars w' := h.below k.toBelow'

set_option maxHeartbeats 1000000 in
theorem pickI_any {P : Nat → Prop} {N : Nat} (w : World) (s : Nat) (p : PS) (h : Sim.Sys P N w s p) (hV : Vars w) (hnl : ∀ n ∈ pList p, n.length ≤ 20000000) :
    Calls Tryz.prog 60 #[.pointer (some ⟨s, 0, none⟩), .func (.func 61) #[.string ⟨#[112, 97, 99, 107, 46]⟩] #[]] w fun e w' => ∃ u, e = .returned u ∧ RowZ w' u ((pList p).filterMap idN) ∧ (∀ x, u.ownBlock = some x → w.heap.size ≤ x) ∧ Kp No w w' := by
  have HL := hid (Sim.list_any w s p h)
  have hlen : (pList p).length ≤ 1000 := by
    have h1 := h.inv.lseen
    have h2 := h.inv.big
    unfold pList
    split
    · simp
    · rw [List.length_map]; omega
  have HV := hid hV
  obtain ⟨L, hL⟩ : ∃ L, pList p = L := ⟨_, rfl⟩
  rw [hL] at HL hlen hnl ⊢
  have HNL := hid hnl
  clear hL h hV hnl
  go_enter Tryz.func60, Tryz.ntmps60
  go_wp2_with fail
  refine HL.out.mono ?_
  rintro e w1 ⟨u, rfl, hu, hub, hk⟩
  obtain ⟨ua, uc, rfl, hform⟩ := OwnN.form hu
  have HU := hid (And.intro hu (And.intro hub (And.intro hk hform)))
  have HK1 := hid hk
  have HV1 := hid (Vars.kept HV.out hk)
  clear hu hub hk hform HV
  go_wp2_with fail
  go_loopw [5, 13] (fun v i wr => ∃ (k : Nat) (a : Option Addr) (m c : Nat), k ≤ L.length ∧ i = .int .i64 (k : Int) ∧ v = .slice a m c ∧ m ≤ k ∧ Hid (m = ((L.take k).filterMap idN).length ∧ RowZ wr (.slice a m c) ((L.take k).filterMap idN) ∧ (∀ x, (Value.slice a m c).ownBlock = some x → w1.heap.size ≤ x) ∧ Kp No w1 wr)) (fun _ i _ => L.length - (intOf i).toNat)
  case atStart => exact ⟨0, none, 0, 0, Nat.zero_le _, rfl, rfl, Nat.le_refl _, by simp, Row.nil _ _ _, (by intro x hx; cases hx), Kp.refl _ _⟩
  case round =>
    obtain ⟨k, a, m, c, hk, rfl, rfl, hmk, HS⟩ := hrel
    by_cases hlt : k < L.length
    · have hltI : (k : Int) < (L.length : Int) := by omega
      obtain ⟨n, hn⟩ : ∃ n, L[k]? = some n := ⟨_, List.getElem?_eq_getElem hlt⟩
      obtain ⟨hu, hub, hk1, hform⟩ := HU.out
      obtain ⟨gu, rfl⟩ := hform (by intro e; rw [e] at hlt; simp at hlt)
      obtain ⟨hm, hrow, hblk, hkr⟩ := HS.out
      have cu : wr.cell? ⟨gu, k, none⟩ = some (.string ⟨n.toArray⟩) := OwnN.cell (Row.kept hu hkr) rfl k hn
      have hsz : (⟨n.toArray⟩ : ByteArray).size ≤ 20000000 := by
        have := HNL.out n (List.mem_of_getElem? hn)
        have e : (⟨n.toArray⟩ : ByteArray).size = n.length := by rw [Lib.size_eq]
        omega
      have HOWN := hid (pid_any ⟨#[112, 97, 99, 107, 46]⟩ (by decide) ⟨n.toArray⟩ hsz wr (Vars.kept HV1.out hkr))
      have HN := hid hn
      have HX := hid (And.intro hm (And.intro hrow (And.intro hblk hkr)))
      clear hu hub hk1 hform hm hrow hblk hkr hn HS hsz
      obtain ⟨I, hI⟩ : ∃ I, idOf ⟨#[112, 97, 99, 107, 46]⟩ ⟨n.toArray⟩ = I := ⟨_, rfl⟩
      rw [hI] at HOWN
      have HIN : Hid (idN n = if I.2 = true then some I.1 else none) := by rw [Hid, idN, packS, hI]
      clear hI
      obtain ⟨z, b⟩ := I
      cases b with
      | false =>
        go_wp2_with fail
        refine HOWN.out.mono ?_
        rintro e w2 ⟨rfl, hb2⟩
        have HF : Hid (m = ((L.take (k + 1)).filterMap idN).length ∧ RowZ w2 (.slice a m c) ((L.take (k + 1)).filterMap idN) ∧ (∀ x, (Value.slice a m c).ownBlock = some x → w1.heap.size ≤ x) ∧ Kp No w1 w2) := by
          have e : (L.take (k + 1)).filterMap idN = (L.take k).filterMap idN := by
            have hin := HIN.out
            rw [List.take_add_one, HN.out, List.filterMap_append]
            simp [hin]
          rw [Hid, e]
          obtain ⟨q1, q2, q3, q4⟩ := HX.out
          exact ⟨q1, Row.kept q2 (Kp.below hb2), q3, q4.andNone (Kp.below hb2)⟩
        clear hb2 HOWN
        go_wp2_with fail
        go_round
        case rel => exact ⟨k + 1, a, m, c, by omega, by go_num, rfl, by omega, HF⟩
        case measure => simp [intOf]; omega
      | true =>
        go_wp2_with fail
        refine HOWN.out.mono ?_
        rintro e w2 ⟨rfl, hb2⟩
        have HK2 : Hid (Kp No wr w2) := Kp.below hb2
        clear hb2 HOWN
        have hal : Kp No w2 (w2.alloc (.cells #[.int .i64 z] 3)) := (Kp.refl _ _).alloc _
        have HR5 : Hid (Row (w2.alloc (.cells #[.int .i64 z] 3)) 3 1 (.slice a m c) m (ic ((L.take k).filterMap idN))) := by
          have h : Row wr 3 1 (.slice a m c) ((L.take k).filterMap idN).length (ic ((L.take k).filterMap idN)) := HX.out.2.1
          rw [← HX.out.1] at h
          exact (h.kept HK2.out).kept hal
        have HSRC : Hid (Sim.Src (w2.alloc (.cells #[.int .i64 z] 3)) (.slice (some ⟨w2.heap.size, 0, none⟩) 1 1) 1 1 [.int .i64 z]) := Sim.Src.one w2 [.int .i64 z] 1 3 rfl (by intro u hu; rw [List.mem_singleton.1 hu]; rfl)
        have HN1 := hid (fun V => run_oneI z V)
        have HAL := hid hal
        clear hal
        go_wp2_with (first
          | (refine wpList_val (by rfl) (exec_slice1 23 _ (by rfl) (.int .i64 z) _ (by rfl) (HN1.out _)) ?_)
          | (refine Sim.app_row _ (by rfl) _ _ 23 3 (.int .i64 0) 1 8 (by rfl) Tryz.underlying23 infoI rfl (by omega) (.slice a m c) (.slice (some ⟨w2.heap.size, 0, none⟩) 1 1) m 1 (ic ((L.take k).filterMap idN)) [.int .i64 z] (by rfl) (by rfl) HR5.out HSRC.out (by omega) (by omega) ?_; intro ad2 cap2 w6 hrow6 hgr6 hown6))
        have HF : Hid (m + 1 = ((L.take (k + 1)).filterMap idN).length ∧ RowZ w6 (.slice ad2 (m + 1) cap2) ((L.take (k + 1)).filterMap idN) ∧ (∀ x, (Value.slice ad2 (m + 1) cap2).ownBlock = some x → w1.heap.size ≤ x) ∧ Kp No w1 w6) := by
          obtain ⟨hm, hrow, hblk, hkr⟩ := HX.out
          have e : (L.take (k + 1)).filterMap idN = (L.take k).filterMap idN ++ [z] := by
            have hin := HIN.out
            rw [List.take_add_one, HN.out, List.filterMap_append]
            simp [hin]
          have hs := hkr.size
          have hs2 := HK2.out.size
          rw [Hid, e, List.length_append, ← hm]
          refine ⟨rfl, ?_, fun x hx => ?_, ?_⟩
          · unfold RowZ
            rw [List.length_append, ← hm, ic, List.map_append]
            exact hrow6
          · rcases hown6 with h | h
            · exact hblk x (by rw [← h]; exact hx)
            · rw [h] at hx
              have := Option.some.inj hx
              simp at this
              omega
          · exact ((hkr.andNone HK2.out).andNone HAL.out).grown hgr6 (fun x hx => .inr (hblk x hx))
        clear hrow6 hgr6 hown6 HX
        go_wp2_with fail
        go_round
        case rel => exact ⟨k + 1, _, m + 1, _, by omega, by go_num, rfl, by omega, HF⟩
        case measure => simp [intOf]; omega
    · have hltI : ¬ (k : Int) < (L.length : Int) := by omega
      have hkn : k = L.length := by omega
      subst hkn
      go_wp2_with fail
      go_ret
      obtain ⟨hm, hrow, hblk, hkr⟩ := HS.out
      rw [List.take_length] at hrow
      exact ⟨_, rfl, hrow, fun x hx => Nat.le_trans HK1.out.size (hblk x hx), HK1.out.andNone hkr⟩

def leI (x y : Int) : Bool := decide (x ≤ y)
/-- The ids that are seen, rising. -/
def idsP (p : PS) : List Int := ((pList p).filterMap idN).mergeSort leI

theorem sort_row (w u : World) (v : Value) (zs : List Int) (h : RowZ w v zs) (ho : ∀ x, v.ownBlock = some x → u.heap.size ≤ x) (hl : zs.length ≤ 1000) :
    Calls Tryz.prog 62 #[v] w fun e w' => e = .returned (.tuple #[]) ∧ RowZ w' v (zs.mergeSort leI) ∧ Kp (fun x => u.heap.size ≤ x) w w' := by
  obtain ⟨a, c, rfl, h1, h2, h3⟩ := h.form
  by_cases hz : zs = []
  · subst hz
    have hc := Any.slices_Sort_int_none Sim.Tryz.sortI a c w
    refine Calls.mono hc ?_
    rintro e w' ⟨rfl, rfl⟩
    exact ⟨rfl, by simpa using h, Kp.refl _ _⟩
  · obtain ⟨g, rfl, hg⟩ := h3 hz
    rcases h.2 with ⟨h0, _⟩ | ⟨g', cap', cur, hv, _, hb, hn, hcap, hsz, ht⟩
    · cases h0
    cases hv
    have ht' : cur.toList.take zs.length = zs.map (Value.int .i64) := by rw [Nat.mul_one] at ht; exact ht
    refine (Any.slices_Sort_int Sim.Tryz.sortI g 0 c zs w (holds_of_blockI hb ht') hg (by omega)).mono ?_
    rintro e w' ⟨rfl, n, os, rfl⟩
    have hlen : (zs.mergeSort fun x y => decide (x ≤ y)).length = zs.length := List.length_mergeSort zs
    refine ⟨rfl, ?_, ?_⟩
    · have hr := ownsRow_sortedI (n := n) (os := os) (base := 0) hlen (Nat.zero_le _) hb hn hcap hsz
      show Sim.Row _ 3 1 _ (zs.mergeSort leI).length (ic (zs.mergeSort leI))
      rw [show (zs.mergeSort leI).length = zs.length from hlen]
      exact hr
    · have hgr := grownBy_sortedI (w := w) (g := g) (n := n) (os := os) (zs.mergeSort fun x y => decide (x ≤ y)).toArray
      exact (Kp.ofGrown hgr).mono (fun x hx => .inl (by have := ho x (by rw [← hx]; rfl); exact this))

set_option maxHeartbeats 1000000 in
theorem pids_any {P : Nat → Prop} {N : Nat} (w : World) (s : Nat) (p : PS) (h : Sim.Sys P N w s p) (hV : Vars w) (hnl : ∀ n ∈ pList p, n.length ≤ 20000000) :
    Calls Tryz.prog 35 #[.pointer (some ⟨s, 0, none⟩)] w fun e w' => ∃ u, e = .returned u ∧ RowZ w' u (idsP p) ∧ (∀ x, u.ownBlock = some x → w.heap.size ≤ x) ∧ Kp No w w' := by
  have hmf : ∀ (fn : Fn) (first cap : Array Value) (w : World), (Instr.makeFunc fn first cap).run Tryz.prog w = .ok (.func fn first cap) w := fun _ _ _ _ => rfl
  have HP := hid (pickI_any w s p h hV hnl)
  have hlen : ((pList p).filterMap idN).length ≤ 1000 := by
    have h1 := h.inv.lseen
    have h2 := h.inv.big
    refine Nat.le_trans (List.length_filterMap_le _ _) ?_
    unfold pList
    split
    · simp
    · rw [List.length_map]; omega
  have HS := hid (fun V v (hv : RowZ V v ((pList p).filterMap idN)) (ho : ∀ x, v.ownBlock = some x → w.heap.size ≤ x) => sort_row V w v _ hv ho hlen)
  unfold idsP
  obtain ⟨Z, hZ⟩ : ∃ Z, (pList p).filterMap idN = Z := ⟨_, rfl⟩
  rw [hZ] at HP HS ⊢
  clear hZ h hV hnl hlen
  go_enter Tryz.func35, Tryz.ntmps35
  go_wp2_with fail
  refine HP.out.mono ?_
  rintro e w1 ⟨u, rfl, hu, hub, hk⟩
  obtain ⟨a, c, rfl, _⟩ := hu.form
  have HSS := hid (HS.out w1 _ hu hub)
  have HK := hid (And.intro hub hk)
  clear hu hub hk HS HP
  generalize hn : Z.length = n at *
  clear hn
  go_wp2_with fail
  refine HSS.out.mono ?_
  rintro e w2 ⟨rfl, hr, hk2⟩
  have HF : Hid (RowZ w2 (.slice a n c) (Z.mergeSort leI) ∧ (∀ x, (Value.slice a n c).ownBlock = some x → w.heap.size ≤ x) ∧ Kp No w w2) := ⟨hr, HK.out.1, HK.out.2.trans hk2 (fun x hx => .inr hx)⟩
  clear hr hk2
  go_wp2_with fail
  go_ret
  exact ⟨_, rfl, HF.out⟩

end Go.Proofs.YtaaioaocjfpajaaGreatDoor.Sh
end

section
/-
  The greatest of some numbers; the ids of a shelf.
-/
namespace Go.Proofs.YtaaioaocjfpajaaGreatDoor.Sh
open Go.RowKit Go.Shelf
open Sim (hid Kp No PS Done Blk nm pList OwnN Row Nm)

def maxZ : List Int → Int
  | [] => 0
  | z :: r => r.foldl max z
theorem maxZ_snoc (zs : List Int) (z : Int) (h : zs ≠ []) : maxZ (zs ++ [z]) = max (maxZ zs) z := by
  cases zs with
  | nil => exact absurd rfl h
  | cons y r => simp [maxZ, List.foldl_append]

set_option maxHeartbeats 1000000 in
theorem max_any (w : World) (v : Value) (zs : List Int) (h : RowZ w v zs) (hne : zs ≠ []) (hl : zs.length ≤ 100000) :
    Calls Tryz.prog 48 #[v] w fun e w' => e = .returned (.int .i64 (maxZ zs)) ∧ w' = w := by
  obtain ⟨a, c, rfl, h1, h2, h3⟩ := h.form
  obtain ⟨g, rfl, hg⟩ := h3 hne
  have HC : Hid (∀ i z, zs[i]? = some z → w.cell? ⟨g, i, none⟩ = some (.int .i64 z)) := fun i z hi => h.cell rfl i hi
  have hpos : 0 < zs.length := List.length_pos_iff.2 hne
  obtain ⟨z0, hz0⟩ : ∃ z, zs[0]? = some z := ⟨_, List.getElem?_eq_getElem hpos⟩
  have c0 := HC.out 0 z0 hz0
  obtain ⟨n, hn⟩ : ∃ n, zs.length = n := ⟨_, rfl⟩
  have HN := hid hn
  have H0 : Hid (maxZ (zs.take 1) = z0) := by
    rw [Hid, List.take_add_one, hz0]
    rfl
  obtain ⟨M, hM⟩ : ∃ M, maxZ zs = M := ⟨_, rfl⟩
  have HM := hid hM
  rw [hn] at h1 hpos hl ⊢
  rw [hM]
  have hlt1 : ¬ ((n : Int) < 1) := by omega
  clear h h3 hne hz0 hn hM
  go_enter Tryz.func48, Tryz.ntmps48
  go_wp2_with fail
  go_loopw [3, 4] (fun m i wr => ∃ (k : Nat) (z : Int), 1 ≤ k ∧ k ≤ n ∧ i = .int .i64 (k : Int) ∧ m = .int .i64 z ∧ wr = w ∧ Hid (maxZ (zs.take k) = z)) (fun _ i _ => n - (intOf i).toNat)
  case atStart => exact ⟨1, z0, Nat.le_refl _, by omega, rfl, rfl, rfl, H0⟩
  case round =>
    obtain ⟨k, z, hk1, hk2, rfl, rfl, hwr, HZ⟩ := hrel
    subst hwr
    by_cases hlt : k < n
    · have hltI : (k : Int) < (n : Int) := by omega
      obtain ⟨y, hy⟩ : ∃ y, zs[k]? = some y := ⟨_, List.getElem?_eq_getElem (by rw [HN.out]; exact hlt)⟩
      have cy := HC.out k y hy
      have HF : Hid (maxZ (zs.take (k + 1)) = max z y) := by
        rw [Hid, List.take_add_one, hy, ← HZ.out]
        exact maxZ_snoc _ _ (fun e => by
          have := congrArg List.length e
          rw [List.length_take, HN.out] at this
          simp at this
          omega)
      clear hy
      go_wp2_with fail
      exact ⟨⟨k + 1, max z y, by omega, by omega, by go_num, rfl, trivial, HF⟩, by simp [intOf]; omega⟩
    · have hltI : ¬ (k : Int) < (n : Int) := by omega
      have hkn : k = n := by omega
      subst hkn
      go_wp2_with fail
      go_ret
      have hz := HZ.out
      rw [← HN.out, List.take_length, HM.out] at hz
      exact ⟨by rw [hz]; rfl, rfl⟩

theorem ids_any {P : Nat → Prop} {N : Nat} (w : World) (h s b : Nat) (n : Int) (p : PS) (hH : ShAt w h s b n) (hS : Sim.Sys P N w s p) (hV : Vars w) (hnl : ∀ n ∈ pList p, n.length ≤ 20000000) :
    Calls Tryz.prog 15 #[.pointer (some ⟨h, 0, none⟩)] w fun e w' => ∃ u, e = .returned u ∧ RowZ w' u (idsP p) ∧ (∀ x, u.ownBlock = some x → w.heap.size ≤ x) ∧ Kp No w w' := by
  have c0 : w.cell? ⟨h, 0, none⟩ = some (.pointer (some ⟨s, 0, none⟩)) := hH.cell 0
  have HN := hid (none_any w h s b n hH)
  have HI := hid (pids_any w s p hS hV hnl)
  clear hH hS hV hnl
  generalize idsP p = Z at *
  go_enter Tryz.func15, Tryz.ntmps15
  go_wp2_with fail
  refine HN.out.mono ?_
  rintro e w1 ⟨rfl, rfl⟩
  go_wp2_with fail
  refine HI.out.mono ?_
  rintro e w2 ⟨u, rfl, hu, ho, hk⟩
  obtain ⟨a, c, rfl, _⟩ := hu.form
  have HF := hid (And.intro hu (And.intro ho hk))
  clear hu ho hk
  go_wp2_with fail
  go_ret
  exact ⟨_, rfl, HF.out⟩

/-- A number is laid behind a row of one's own. -/
theorem app_oneI (W V : World) (t : TypeId) (v : Value) (zs : List Int) (z : Int) (g : Nat) (h : RowZ W v zs) (hV : Kp No W V) (hc : V.cell? ⟨g, 0, none⟩ = some (.int .i64 z)) (hl : zs.length ≤ 100000) :
    ∃ ad cap w', (Builtin.append_ #[23, 23] t #[v, .slice (some ⟨g, 0, none⟩) 1 1]).run Tryz.prog V = .ok (.slice ad (zs.length + 1) cap) w' ∧ RowZ w' (.slice ad (zs.length + 1) cap) (zs ++ [z]) ∧ V.grownBy w' v.ownBlock := by
  obtain ⟨i, hi, hiz⟩ : ∃ i, Tryz.prog.info? 3 = some i ∧ (i.zero, i.size, i.bytes) = (some (.int .i64 0), 1, 8) := Option.map_eq_some_iff.1 infoI
  simp only [Prod.mk.injEq] at hiz
  obtain ⟨z1, z2, z3⟩ := hiz
  have hr : V.ownsRow 0 3 1 v zs.length (ic zs) := Row.kept h hV
  obtain ⟨gg, cap, W2, hap, hown2, hgrow, _, _⟩ := run_append_lies (P := Tryz.prog) V 23 t 0 3 i (.int .i64 0) 1 8 Tryz.underlying23 hi z1 z2 z3 rfl (by omega)
    v zs.length _ hr ⟨g, 0, none⟩ 1 1 [.int .i64 z] rfl (fun j u hj => by
      match j, hj with
      | 0, hj =>
        simp at hj
        subst hj
        exact hc) (by intro u hu; rw [List.mem_singleton.1 hu]; rfl) (by omega) (by unfold maxLen; omega) (by omega) (Nat.zero_le _) _ rfl
  refine ⟨_, cap, W2, hap, ?_, hgrow⟩
  show Sim.Row _ _ _ _ (zs ++ [z]).length (ic (zs ++ [z]))
  rw [List.length_append, ic, List.map_append]
  exact hown2

end Go.Proofs.YtaaioaocjfpajaaGreatDoor.Sh
end

section
/-
  A walk's two rows: what was found, what was lost; how they grow.
-/
namespace Go.Proofs.YtaaioaocjfpajaaGreatDoor.Sh
open Go.RowKit Go.Shelf
open Tlv (BySlS)
open Crc (Kept)
open Sim (hid Kp No PS Blk nm Row)

/-- What was found, and where its body is. -/
abbrev UI : Type := WI × Option Addr × Nat
def uB (z : UI) : List Int := z.1.2.2.2.2.1.2.2
def uV (z : UI) : Value := .slice z.2.1 (uB z).length z.2.2
def uC (z : UI) : List Value := fC z.1.1 z.1.2.2 (uV z)
def fcs (Us : List UI) : List Value := Us.flatMap uC
def okF (y : WI) : Bool := y.2.1 == 0
def fsOf (X : List WI) (k : Nat) : List WI := (X.take k).filter okF
def lsOf (X : List WI) (k : Nat) : List Int := ((X.take k).filter fun y => !okF y).map fun y => (y.1 : Int)

theorem fsOf_yes {X : List WI} {k : Nat} {y : WI} (h : X[k]? = some y) (hf : y.2.1 = 0) : fsOf X (k + 1) = fsOf X k ++ [y] ∧ lsOf X (k + 1) = lsOf X k := by
  simp [fsOf, lsOf, List.take_add_one, h, okF, hf]
theorem fsOf_no {X : List WI} {k : Nat} {y : WI} (h : X[k]? = some y) (hf : y.2.1 ≠ 0) : fsOf X (k + 1) = fsOf X k ∧ lsOf X (k + 1) = lsOf X k ++ [(y.1 : Int)] := by
  simp [fsOf, lsOf, List.take_add_one, h, okF, hf]
theorem lsOf_len (X : List WI) (k : Nat) : (lsOf X k).length ≤ X.length := by
  unfold lsOf
  rw [List.length_map]
  exact Nat.le_trans (List.length_filter_le _ _) (by rw [List.length_take]; omega)

theorem fC_len (id : Nat) (x : Item) (u : Value) (h : nmOk x) : (fC id x u).length = 37 := by
  unfold fC
  rw [List.length_cons, List.length_cons, List.length_cons, recA_length _ _ _ h.1]
theorem fC_one (id : Nat) (x : Item) (a : Option Addr) (l c : Nat) : ∀ v ∈ fC id x (.slice a l c), v.oneCell' = true := by
  intro v hv
  rcases List.mem_cons.1 hv with rfl | hv
  · rfl
  · rcases List.mem_cons.1 hv with rfl | hv
    · rfl
    · rcases List.mem_cons.1 hv with rfl | hv
      · rfl
      · exact recA_one _ _ _ _ _ v hv
theorem fcs_app (Us : List UI) (z : UI) : fcs (Us ++ [z]) = fcs Us ++ uC z := by simp [fcs]
theorem fcs_at : ∀ (Us : List UI) (j : Nat) (z : UI) (r : Nat), (∀ y ∈ Us, nmOk y.1.2.2) → Us[j]? = some z → r < 37 → (fcs Us)[j * 37 + r]? = (uC z)[r]?
  | [], _, _, _, _, h, _ => by simp at h
  | y :: L, 0, z, r, hn, h1, h3 => by
    simp only [List.getElem?_cons_zero, Option.some.injEq] at h1
    subst h1
    have hl : (uC y).length = 37 := fC_len _ _ _ (hn y (List.mem_cons_self ..))
    show (uC y ++ fcs L)[_]? = _
    rw [List.getElem?_append_left (by omega), Nat.zero_mul, Nat.zero_add]
  | y :: L, j + 1, z, r, hn, h1, h3 => by
    simp only [List.getElem?_cons_succ] at h1
    have hl : (uC y).length = 37 := fC_len _ _ _ (hn y (List.mem_cons_self ..))
    show (uC y ++ fcs L)[_]? = _
    rw [List.getElem?_append_right (by omega), hl, ← fcs_at L j z r (fun q hq => hn q (List.mem_cons_of_mem _ hq)) h1 h3]
    congr 1
    omega

theorem Row.putl {B : Nat} {U W : World} {e : TypeId} {sz n : Nat} {v : Value} {xs : List Value} (h : Row U e sz v n xs) (hp : Putl B U W) : Row W e sz v n xs := by
  refine ⟨h.1, ?_⟩
  rcases h.2 with hn | ⟨g, cap, cur, rfl, hb, hgg, rest⟩
  · exact .inl hn
  · exact .inr ⟨g, cap, cur, rfl, hb, hp.block hgg, rest⟩
theorem Row.isCells {U : World} {e : TypeId} {sz n : Nat} {v : Value} {xs : List Value} (h : Row U e sz v n xs) {x : Nat} (hx : v.ownBlock = some x) : ∃ cs fr, U.heap[x]? = some (.cells cs e fr) := by
  rcases h.2 with ⟨rfl, _⟩ | ⟨g, cap, cur, rfl, hb, hgg, rest⟩
  · simp [Value.ownBlock] at hx
  · simp only [Value.ownBlock, Option.some.injEq] at hx
    subst hx
    exact ⟨_, _, hgg⟩

/-- Behind k items: the rows at their boxes, in blocks of which O (but for new ones from B on, the two boxes). -/
structure WkS (w : World) (B b m : Nat) (X : List WI) (k : Nat) (O : Nat → Prop) (W : World) (Us : List UI) (u1 u2 : Value) : Prop where
  bm : Boxed W w.heap.size 3 (.int .i64 (m : Int))
  b1 : Boxed W (w.heap.size + 1) 43 u1
  b2 : Boxed W (w.heap.size + 2) 23 u2
  us : Us.map (·.1) = fsOf X k
  r1 : Row W 58 37 u1 Us.length (fcs Us)
  r2 : RowZ W u2 (lsOf X k)
  bs : ∀ z ∈ Us, nmOk z.1.2.2 ∧ BySlS (fun g => ¬ O g ∧ g ≠ b ∧ g < W.heap.size) W (uV z) (uB z)
  o1 : ∀ x, u1.ownBlock = some x → O x ∧ B ≤ x
  o2 : ∀ x, u2.ownBlock = some x → O x ∧ B ≤ x ∧ u1.ownBlock ≠ some x
  g1 : O (w.heap.size + 1)
  g2 : O (w.heap.size + 2)
  oo : ∀ x, O x → x = w.heap.size + 1 ∨ x = w.heap.size + 2 ∨ B ≤ x
  kp : Kp (fun x => x = b) w W

theorem Boxed.kp {L : Nat → Prop} {U W : World} {g : Nat} {t : TypeId} {v : Value} (h : Boxed U g t v) (k : Kp L U W) (hg : ¬ L g) : Boxed W g t v := (k.block g h.lt hg).trans h

theorem WkS.kept {w U W : World} {B b m k : Nat} {X : List WI} {O : Nat → Prop} {Us : List UI} {u1 u2 : Value} (h : WkS w B b m X k O U Us u1 u2) (hk : Kept b U W) (hb : b < w.heap.size) (hB : w.heap.size ≤ B) : WkS w B b m X k O W Us u1 u2 := by
  have kb := kp_kept hk
  exact ⟨Boxed.kp h.bm kb (by omega), Boxed.kp h.b1 kb (by omega), Boxed.kp h.b2 kb (by omega), h.us, Sim.Row.kp h.r1 kb (fun x hx e => by have := (h.o1 x hx).2; omega), Sim.Row.kp h.r2 kb (fun x hx e => by have := (h.o2 x hx).2.1; omega),
    fun z hz => ⟨(h.bs z hz).1, (h.bs z hz).2.agree (fun g hg => kb.block g hg.2.2 hg.2.1) (fun g hg => ⟨hg.1, hg.2.1, Nat.lt_of_lt_of_le hg.2.2 kb.size⟩)⟩, h.o1, h.o2, h.g1, h.g2, h.oo, h.kp.trans kb (fun x hx => .inl hx)⟩
theorem WkS.putl {w U W : World} {B C b m k : Nat} {X : List WI} {O : Nat → Prop} {Us : List UI} {u1 u2 : Value} (h : WkS w B b m X k O U Us u1 u2) (hp : Putl C U W) (hC : w.heap.size ≤ C) : WkS w B b m X k O W Us u1 u2 := by
  have hb := hp.below
  refine ⟨hp.block h.bm, hp.block h.b1, hp.block h.b2, h.us, Row.putl h.r1 hp, Row.putl h.r2 hp,
    fun z hz => ⟨(h.bs z hz).1, BySlS.mono (BySlS.putl (h.bs z hz).2 hp) (fun g hg => ⟨hg.1, hg.2.1, by rw [hp.size]; exact hg.2.2⟩)⟩, h.o1, h.o2, h.g1, h.g2, h.oo, ?_⟩
  have h3 := h.kp
  exact ⟨by rw [hb.os, h3.os], by rw [hb.tape, h3.tape], by rw [hb.output, h3.output], Nat.le_trans h3.size hb.size, fun i hi hn => (hb.block i (by omega)).trans (h3.block i hi hn)⟩

/-- What a row's growing leaves, behind a new block, at the box gb. -/
structure Grew (W V : World) (v : Value) (gb g : Nat) : Prop where
  kp : Kp (fun x => v.ownBlock = some x ∨ x = gb) W V
  lt : g < V.heap.size
  at' : v.ownBlock = some g ∨ W.heap.size ≤ g
theorem grew {W W2 V : World} {C : Array Value} {e : TypeId} {v x : Value} {gb g : Nat} (hgr : (W.alloc (.cells C e)).grownBy W2 v.ownBlock) (hat : v.ownBlock = some g ∨ g = W.heap.size + 1) (hl : g < W2.heap.size) (hV : W2.setCell ⟨gb, 0, none⟩ x = V) : Grew W V v gb g := by
  subst hV
  have k1 : Kp (fun x => v.ownBlock = some x) (W.alloc (.cells C e)) W2 := Kp.ofGrown hgr
  have k2 : Kp (fun x => v.ownBlock = some x ∨ x = gb) W W2 := ((Kp.refl _ W).alloc _).trans k1 (fun x hx => .inl (.inl hx))
  refine ⟨k2.setCell (p := ⟨gb, 0, none⟩) (.inl (.inr rfl)) x, by simpa using hl, ?_⟩
  rcases hat with h | h
  · exact .inl h
  · exact .inr (by omega)
theorem Grew.from {W V : World} {v : Value} {gb g B : Nat} {e : TypeId} {sz n : Nat} {xs : List Value} (h : Grew W V v gb g) (hr : Row W e sz v n xs) (hgb : gb < B) : KeepsFrom B W V := by
  refine ⟨h.kp.size, fun i ob hi hio hc => (h.kp.block i (Array.getElem?_eq_some_iff.1 hio).1 ?_).trans hio⟩
  rintro (e | e)
  · obtain ⟨cs, fr, hcs⟩ := Row.isCells hr e
    rw [hio] at hcs
    cases hcs
    cases hc
  · omega

theorem WkS.found {w W W2 V : World} {B b m k g cap : Nat} {X : List WI} {O : Nat → Prop} {Us : List UI} {u1 u2 : Value} (h : WkS w B b m X k O W Us u1 u2) {y : WI} {a : Option Addr} {c : Nat} (hy : X[k]? = some y) (hf : y.2.1 = 0) (hn : nmOk y.2.2)
    (hby : BySlS (fun g => ¬ O g ∧ g ≠ b ∧ g < W.heap.size) W (uV (y, a, c)) (uB (y, a, c))) (_ : b < w.heap.size) (hB : w.heap.size + 3 ≤ B) (hBW : B ≤ W.heap.size) (hO : ∀ x, O x → x < W.heap.size) {C : Array Value} {e : TypeId}
    (hgr : (W.alloc (.cells C e)).grownBy W2 u1.ownBlock) (hat : u1.ownBlock = some g ∨ g = W.heap.size + 1) (hl : g < W2.heap.size) (hrow : Row W2 58 37 (.slice (some ⟨g, 0, none⟩) (Us.length + 1) cap) (Us.length + 1) (fcs Us ++ uC (y, a, c)))
    (hV : W2.setCell ⟨w.heap.size + 1, 0, none⟩ (.slice (some ⟨g, 0, none⟩) (Us.length + 1) cap) = V) :
    KeepsFrom B W V ∧ WkS w B b m X (k + 1) (fun x => O x ∨ x = g) V (Us ++ [(y, a, c)]) (.slice (some ⟨g, 0, none⟩) (Us.length + 1) cap) u2 ∧ (∀ x, (O x ∨ x = g) → (O x ∨ W.heap.size ≤ x) ∧ x < V.heap.size) ∧ StayO O W V ∧ Kp (fun x => O x) W V := by
  have G := grew hgr hat hl hV
  have hLO : ∀ x, (u1.ownBlock = some x ∨ x = w.heap.size + 1) → O x := fun x hx => by
    rcases hx with hx | hx
    · exact (h.o1 x hx).1
    · rw [hx]; exact h.g1
  have kO : Kp (fun x => O x) W V := G.kp.mono (fun x hx => .inl (hLO x hx))
  have hO' : ∀ x, (O x ∨ x = g) → (O x ∨ W.heap.size ≤ x) ∧ x < V.heap.size := fun x hx => by
    rcases hx with hx | rfl
    · exact ⟨.inl hx, Nat.lt_of_lt_of_le (hO x hx) G.kp.size⟩
    · refine ⟨?_, G.lt⟩
      rcases G.at' with e | e
      · exact .inl (h.o1 _ e).1
      · exact .inr e
  obtain ⟨q1, q2⟩ := fsOf_yes hy hf
  have hst : StayO O W V := .of_kp kO (fun x hx => hx)
  have hBg : B ≤ g := by
    rcases G.at' with e | e
    · exact (h.o1 _ e).2
    · omega
  have hs1 := h.b1.lt
  have hbB : Boxed W2 (w.heap.size + 1) 43 u1 := by
    have k1 : Kp (fun x => u1.ownBlock = some x) W W2 := ((Kp.refl _ W).alloc _).trans (Kp.ofGrown hgr) (fun x hx => .inl hx)
    exact Boxed.kp h.b1 k1 (fun e => by have := (h.o1 _ e).2; omega)
  have byt : ∀ z, BySlS (fun g => ¬ O g ∧ g ≠ b ∧ g < W.heap.size) W (uV z) (uB z) → BySlS (fun q => ¬ (O q ∨ q = g) ∧ q ≠ b ∧ q < V.heap.size) V (uV z) (uB z) := fun z hz => hst.bytes hz (fun q hq => ⟨hq.1, fun e => by
    rcases e with e | rfl
    · exact hq.1 e
    · rcases G.at' with e | e
      · exact hq.1 (h.o1 _ e).1
      · have := hq.2.2
        omega, hq.2.1, Nat.lt_of_lt_of_le hq.2.2 G.kp.size⟩)
  refine ⟨G.from h.r1 (by omega), ⟨Boxed.kp h.bm G.kp ?_, ?_, Boxed.kp h.b2 G.kp ?_, ?_, ?_, ?_, ?_, ?_, ?_, .inl h.g1, .inl h.g2, ?_, ?_⟩, hO', hst, kO⟩
  · rintro (e | e)
    · have := (h.o1 _ e).2; omega
    · omega
  · rw [← hV]; exact Boxed.set _ hbB
  · rintro (e | e)
    · have := (h.o1 _ e).2; omega
    · omega
  · rw [List.map_append, h.us, q1]; rfl
  · have hr : Row V 58 37 (.slice (some ⟨g, 0, none⟩) (Us.length + 1) cap) (Us.length + 1) (fcs Us ++ uC (y, a, c)) := by
      rw [← hV]
      exact Sim.Row.kp hrow ((Kp.refl (fun x => x = w.heap.size + 1) W2).setCell (p := ⟨w.heap.size + 1, 0, none⟩) (.inl rfl) _) (fun x hx e => by
        simp only [Value.ownBlock, Option.some.injEq] at hx
        omega)
    rw [List.length_append, List.length_singleton, fcs_app]
    exact hr
  · rw [q2]
    exact Sim.Row.kp h.r2 G.kp (fun x hx e => by
      have := h.o2 x hx
      rcases e with e | e
      · exact this.2.2 e
      · omega)
  · intro z hz
    rcases List.mem_append.1 hz with hz | hz
    · exact ⟨(h.bs z hz).1, byt z (h.bs z hz).2⟩
    · rw [List.mem_singleton.1 hz]
      exact ⟨hn, byt _ hby⟩
  · intro x hx
    simp only [Value.ownBlock, Option.some.injEq] at hx
    subst hx
    exact ⟨.inr rfl, hBg⟩
  · intro x hx
    obtain ⟨p1, p2, p3⟩ := h.o2 x hx
    refine ⟨.inl p1, p2, fun e => ?_⟩
    simp only [Value.ownBlock, Option.some.injEq] at e
    subst e
    rcases G.at' with e | e
    · exact p3 e
    · have := hO _ p1
      omega
  · intro x hx
    rcases hx with hx | rfl
    · exact h.oo x hx
    · exact .inr (.inr hBg)
  · refine h.kp.trans G.kp (fun x hx => .inr ?_)
    rcases hx with hx | hx
    · have := (h.o1 x hx).2; omega
    · omega

theorem WkS.lost {w W W2 V : World} {B b m k g cap : Nat} {X : List WI} {O : Nat → Prop} {Us : List UI} {u1 u2 : Value} (h : WkS w B b m X k O W Us u1 u2) {y : WI} (hy : X[k]? = some y) (hf : y.2.1 ≠ 0)
    (_ : b < w.heap.size) (hB : w.heap.size + 3 ≤ B) (hBW : B ≤ W.heap.size) (hO : ∀ x, O x → x < W.heap.size) {C : Array Value} {e : TypeId}
    (hgr : (W.alloc (.cells C e)).grownBy W2 u2.ownBlock) (hat : u2.ownBlock = some g ∨ g = W.heap.size + 1) (hl : g < W2.heap.size) (hrow : Row W2 3 1 (.slice (some ⟨g, 0, none⟩) ((lsOf X k).length + 1) cap) ((lsOf X k).length + 1) (ic (lsOf X k) ++ [.int .i64 (y.1 : Int)]))
    (hV : W2.setCell ⟨w.heap.size + 1 + 1, 0, none⟩ (.slice (some ⟨g, 0, none⟩) ((lsOf X k).length + 1) cap) = V) :
    KeepsFrom B W V ∧ WkS w B b m X (k + 1) (fun x => O x ∨ x = g) V Us u1 (.slice (some ⟨g, 0, none⟩) ((lsOf X k).length + 1) cap) ∧ (∀ x, (O x ∨ x = g) → (O x ∨ W.heap.size ≤ x) ∧ x < V.heap.size) ∧ StayO O W V ∧ Kp (fun x => O x) W V := by
  have G := grew hgr hat hl hV
  have hLO : ∀ x, (u2.ownBlock = some x ∨ x = w.heap.size + 1 + 1) → O x := fun x hx => by
    rcases hx with hx | hx
    · exact (h.o2 x hx).1
    · rw [hx]; exact h.g2
  have kO : Kp (fun x => O x) W V := G.kp.mono (fun x hx => .inl (hLO x hx))
  have hO' : ∀ x, (O x ∨ x = g) → (O x ∨ W.heap.size ≤ x) ∧ x < V.heap.size := fun x hx => by
    rcases hx with hx | rfl
    · exact ⟨.inl hx, Nat.lt_of_lt_of_le (hO x hx) G.kp.size⟩
    · refine ⟨?_, G.lt⟩
      rcases G.at' with e | e
      · exact .inl (h.o2 _ e).1
      · exact .inr e
  obtain ⟨q1, q2⟩ := fsOf_no hy hf
  have hst : StayO O W V := .of_kp kO (fun x hx => hx)
  have hBg : B ≤ g := by
    rcases G.at' with e | e
    · exact (h.o2 _ e).2.1
    · omega
  have hs1 := h.b2.lt
  have hbB : Boxed W2 (w.heap.size + 2) 23 u2 := by
    have k1 : Kp (fun x => u2.ownBlock = some x) W W2 := ((Kp.refl _ W).alloc _).trans (Kp.ofGrown hgr) (fun x hx => .inl hx)
    exact Boxed.kp h.b2 k1 (fun e => by have := (h.o2 _ e).2.1; omega)
  have byt : ∀ z, BySlS (fun g => ¬ O g ∧ g ≠ b ∧ g < W.heap.size) W (uV z) (uB z) → BySlS (fun q => ¬ (O q ∨ q = g) ∧ q ≠ b ∧ q < V.heap.size) V (uV z) (uB z) := fun z hz => hst.bytes hz (fun q hq => ⟨hq.1, fun e => by
    rcases e with e | rfl
    · exact hq.1 e
    · rcases G.at' with e | e
      · exact hq.1 (h.o2 _ e).1
      · have := hq.2.2
        omega, hq.2.1, Nat.lt_of_lt_of_le hq.2.2 G.kp.size⟩)
  refine ⟨G.from h.r2 (by omega), ⟨Boxed.kp h.bm G.kp ?_, Boxed.kp h.b1 G.kp ?_, ?_, ?_, ?_, ?_, ?_, ?_, ?_, .inl h.g1, .inl h.g2, ?_, ?_⟩, hO', hst, kO⟩
  · rintro (e | e)
    · have := (h.o2 _ e).2.1; omega
    · omega
  · rintro (e | e)
    · have := (h.o2 _ e).2.1; omega
    · omega
  · rw [← hV]; exact Boxed.set _ hbB
  · rw [h.us, q1]
  · exact Sim.Row.kp h.r1 G.kp (fun x hx e => by
      rcases e with e | e
      · exact (h.o2 x e).2.2 hx
      · have := (h.o1 x hx).2
        omega)
  · have hr : Row V 3 1 (.slice (some ⟨g, 0, none⟩) ((lsOf X k).length + 1) cap) ((lsOf X k).length + 1) (ic (lsOf X k) ++ [.int .i64 (y.1 : Int)]) := by
      rw [← hV]
      exact Sim.Row.kp hrow ((Kp.refl (fun x => x = w.heap.size + 1 + 1) W2).setCell (p := ⟨w.heap.size + 1 + 1, 0, none⟩) (.inl rfl) _) (fun x hx e => by
        simp only [Value.ownBlock, Option.some.injEq] at hx
        omega)
    rw [q2]
    unfold RowZ
    rw [List.length_append, List.length_singleton, ic, List.map_append]
    exact hr
  · intro z hz
    exact ⟨(h.bs z hz).1, byt z (h.bs z hz).2⟩
  · intro x hx
    exact ⟨.inl (h.o1 x hx).1, (h.o1 x hx).2⟩
  · intro x hx
    simp only [Value.ownBlock, Option.some.injEq] at hx
    subst hx
    refine ⟨.inr rfl, hBg, fun e => ?_⟩
    rcases G.at' with e' | e'
    · exact (h.o2 _ e').2.2 e
    · have := hO _ (h.o1 _ e).1
      omega
  · intro x hx
    rcases hx with hx | rfl
    · exact h.oo x hx
    · exact .inr (.inr hBg)
  · refine h.kp.trans G.kp (fun x hx => .inr ?_)
    rcases hx with hx | hx
    · have := (h.o2 x hx).2.1; omega
    · omega

/-! ### What the packs' iterator asks of the world -/
def TW (P : Nat → Prop) (N h s b p q B : Nat) (n : Int) (ps : PS) (ids : List Nat) (ai : Option Addr) (ci : Nat) (O0 : Nat → Prop) (W : World) : Prop :=
  ShAt W h s b n ∧ Sim.Sys P N W s ps ∧ TabX W b ∧ W.cell? ⟨p, 0, none⟩ = some (.slice ai ids.length ci) ∧ W.cell? ⟨q, 0, none⟩ = some (.func (.func 16) #[.pointer (some ⟨h, 0, none⟩)] #[]) ∧
    ∀ (i id : Nat), ids[i]? = some id → ∃ g o, ai = some ⟨g, o, none⟩ ∧ (g < B ∧ g ≠ b ∧ ¬ O0 g) ∧ W.cell? ⟨g, o + i, none⟩ = some (.int .i64 (id : Int))
theorem TW.kp {P : Nat → Prop} {N h s b p q B : Nat} {n : Int} {ps : PS} {ids : List Nat} {ai : Option Addr} {ci : Nat} {O0 L : Nat → Prop} {U W : World} (hT : TW P N h s b p q B n ps ids ai ci O0 U) (k : Kp L U W) (hx : TabX W b) (hL : ∀ x, x < B → x ≠ b → ¬ O0 x → ¬ L x)
    (hh : h < B ∧ h ≠ b ∧ ¬ O0 h) (hP : ∀ x, P x → x < B ∧ x ≠ b ∧ ¬ O0 x) (hp : p < B ∧ p ≠ b ∧ ¬ O0 p) (hq : q < B ∧ q ≠ b ∧ ¬ O0 q) : TW P N h s b p q B n ps ids ai ci O0 W := by
  obtain ⟨h1, h2, h3, h4, h5, h6⟩ := hT
  have cl : ∀ {g o : Nat} {v : Value}, U.cell? ⟨g, o, none⟩ = some v → (g < B ∧ g ≠ b ∧ ¬ O0 g) → W.cell? ⟨g, o, none⟩ = some v := fun hc hg => (k.cell (p := ⟨_, _, none⟩) (cell_lt hc) (hL _ hg.1 hg.2.1 hg.2.2)).trans hc
  refine ⟨h1.kp k (hL _ hh.1 hh.2.1 hh.2.2), h2.kp k (fun x hx hp => hL _ (hP x hp).1 (hP x hp).2.1 (hP x hp).2.2 hx), hx, cl h4 hp, cl h5 hq, fun i id hi => ?_⟩
  obtain ⟨g, o, e, hg, hc⟩ := h6 i id hi
  exact ⟨g, o, e, hg, cl hc hg⟩

end Go.Proofs.YtaaioaocjfpajaaGreatDoor.Sh
end

section
/-
  What Walk tells.
-/
namespace Go.Proofs.YtaaioaocjfpajaaGreatDoor.Sh
open Go.RowKit Go.Shelf
open Tlv (BySlS)
open Crc (Kept)
open Sim (hid Kp No PS Blk nm finds pBytes pList Row)
attribute [local go_sem] Oper.semAt_some

/-- A find of nothing. -/
def zF : List Value := fC 0 noIt (.slice none 0 0)
theorem zeroS (w : World) : (zeroValue 58).run Tryz.prog w = .ok (.agg zF.toArray) w := by kernel_rfl
theorem infoS3 : (Tryz.prog.info? 58).map (fun i => (i.zero, i.size, i.bytes)) = some (some (.agg zF.toArray), 37, 88) := by kernel_rfl
theorem Tryz.infoSF : (Tryz.prog.info? 58).map (·.size) = some 37 := by kernel_rfl
theorem run_oneS (i p n : Nat) (k : Int) (nm : List Int) (a : Option Addr) (l c : Nat) (hn : nm.length = 32) (w : World) :
    (Instr.buildSlice 43 1 #[(0, .agg (.int .i64 (i : Int) :: .int .i64 (p : Int) :: .int .i64 (n : Int) :: recA k nm (.slice a l c)).toArray)]).run Tryz.prog w =
      .ok (.slice (some ⟨w.heap.size, 0, none⟩) 1 1) (w.alloc (.cells (.int .i64 (i : Int) :: .int .i64 (p : Int) :: .int .i64 (n : Int) :: recA k nm (.slice a l c)).toArray 58)) := by
  obtain ⟨x0, x1, x2, x3, x4, x5, x6, x7, x8, x9, x10, x11, x12, x13, x14, x15, x16, x17, x18, x19, x20, x21, x22, x23, x24, x25, x26, x27, x28, x29, x30, x31, rfl⟩ := ex32 hn
  kernel_rfl

/-- The loop's variable, as it is made anew for each round. -/
def asgF (vs : Array Value) (U : World) : World := (U.alloc (.cells zF.toArray 58)).setCells U.heap.size 0 (aggL vs)
theorem asgF_below (vs : Array Value) (U : World) : Below U.heap.size U (asgF vs U) := ((Below.refl _ _).alloc (Nat.le_refl _) _).trans (setCells_below (Nat.le_refl _) _ _ _)
theorem asgF_size (vs : Array Value) (U : World) : (asgF vs U).heap.size = U.heap.size + 1 := by rw [asgF, setCells_size]; simp

/-- What a walk answers: of the items X the first K. -/
def Walked (m b : Nat) (w W : World) (X : List WI) (e : Ending) : Prop :=
  ∃ (K : Nat) (Us : List UI) (u1 u2 : Value), e = .returned (.tuple #[u1, u2]) ∧ K ≤ X.length ∧ Us.map (·.1) = fsOf X K ∧ Row W 58 37 u1 Us.length (fcs Us) ∧ RowZ W u2 (lsOf X K) ∧
    (∀ z ∈ Us, nmOk z.1.2.2 ∧ BySlS (fun g => g ≠ b ∧ g < W.heap.size) W (uV z) (uB z)) ∧ (∀ x, u1.ownBlock = some x → w.heap.size ≤ x) ∧ (∀ x, u2.ownBlock = some x → w.heap.size ≤ x) ∧ Kp (fun x => x = b) w W ∧ TabX W b ∧
    ((K = X.length ∧ Us.length < m) ∨ (Us.length = m ∧ 1 ≤ K ∧ ∃ y, X[K - 1]? = some y ∧ y.2.1 = 0))

/-- The way out of a loop over an iterator: the deferred calls are taken. -/
theorem walked_end {w W : World} {B b m K D : Nat} {X : List WI} {O : Nat → Prop} {Us : List UI} {u1 u2 : Value} (h : WkS w B b m X K O W Us u1 u2) (hx : TabX W b) (hd : W.heap[D]? = some (.deferred (some []))) (hD : w.heap.size ≤ D) (hb : b < w.heap.size) (hB : w.heap.size ≤ B) (hK : K ≤ X.length)
    (hc : (K = X.length ∧ Us.length < m) ∨ (Us.length = m ∧ 1 ≤ K ∧ ∃ y, X[K - 1]? = some y ∧ y.2.1 = 0)) : Walked m b w (W.drew.putObj D (.deferred none)) X (.returned (.tuple #[u1, u2])) := by
  have hd' : W.drew.heap[D]? = some (.deferred (some [])) := hd
  have hDl := (Array.getElem?_eq_some_iff.1 hd').1
  have hpb := put_below (B := w.heap.size) W.drew (.deferred none) (l := D) hD hDl
  have hsz : (W.drew.putObj D (.deferred none)).heap.size = W.heap.size := by simp [World.putObj]
  have kd : Kp (fun x => x = D) W (W.drew.putObj D (.deferred none)) := by
    have k : Kp (fun x => x = D) W.drew (W.drew.putObj D (.deferred none)) := ⟨rfl, rfl, rfl, by simp [World.putObj], fun i _ hi => World.putObj_heap_other (fun e => hi e)⟩
    exact (Kp.refl _ W).drew.trans k (fun x hx => .inl hx)
  have hne : ∀ {e : TypeId} {sz n : Nat} {v : Value} {xs : List Value}, Row W e sz v n xs → ∀ x, v.ownBlock = some x → ¬ x = D := fun hr x hx e => by
    obtain ⟨cs, fr, hcs⟩ := Row.isCells hr hx
    rw [e, hd] at hcs
    cases hcs
  refine ⟨K, Us, u1, u2, rfl, hK, h.us, Sim.Row.kp h.r1 kd (hne h.r1), Sim.Row.kp h.r2 kd (hne h.r2), fun z hz => ⟨(h.bs z hz).1, ?_⟩, fun x hx => Nat.le_trans hB (h.o1 x hx).2, fun x hx => Nat.le_trans hB (h.o2 x hx).2.1, ?_, tabX_below hx ((Below.refl _ _).drew.trans hpb) hb, hc⟩
  · refine BySlS.mono (bySlS_cells (base := 0) (b := b) (w := W.drew) (show BySlS (fun g => ¬ O g ∧ g ≠ b ∧ g < W.heap.size) W.drew (uV z) (uB z) from (h.bs z hz).2) (put_kept (F := W.drew) hd') (fun g hg => ⟨Nat.zero_le _, hg.2.1⟩)) (fun g hg => ⟨hg.2.1, by rw [hsz]; exact hg.2.2⟩)
  · exact h.kp.drew.trans (L := fun x => x = b) (M := fun x => x = D) ⟨rfl, rfl, rfl, by simp [World.putObj], fun i _ hi => World.putObj_heap_other (fun e => hi e)⟩ (fun x hx => .inr (by omega))

set_option maxHeartbeats 8000000 in
set_option maxRecDepth 100000 in
theorem walk_over (w : World) (h s b m : Nat) (n : Int) (ps : PS) (P : Nat → Prop) (N : Nat) (ids : List Nat) (F : Nat → Nat) (S : Nat → List Item × Nat × Int) (hm1 : 1 ≤ m) (hm2 : m ≤ 100) (hH : ShAt w h s b n) (hS : Sim.Sys P N w s ps) (hT : TabX w b) (hPb : ¬ P b) (hhb : h ≠ b)
    (hI : ∀ V, Kp No w V → Calls Tryz.prog 15 #[.pointer (some ⟨h, 0, none⟩)] V fun e w' => ∃ u, e = .returned u ∧ RowZ w' u (ids.map fun (i : Nat) => (i : Int)) ∧ (∀ x, u.ownBlock = some x → V.heap.size ≤ x) ∧ Kp No V w')
    (hL : ∀ (W : World) (id : Nat), ShAt W h s b n → Sim.Sys P N W s ps → TabX W b → id ∈ ids → Calls Tryz.prog 16 #[.pointer (some ⟨h, 0, none⟩), .int .i64 (id : Int)] W fun e W' => Loaded W W' b e (F id) (S id))
    (hn : ids.length ≤ 1000) (hsl : ∀ id ∈ ids, (S id).1.length ≤ 20000000) (hX : (allI F S ids).length ≤ 100000000000) :
    Calls Tryz.prog 14 #[.pointer (some ⟨h, 0, none⟩), .int .i64 (m : Int)] w fun e w' => Walked m b w w' (allI F S ids) e := by
  have hm0 : ¬ ((m : Int) < 1) := by omega
  have HI := hid hI
  have HL := hid hL
  have HX := hid hX
  have HN := hid hn
  have HSL := hid hsl
  have hhl := hH.lt
  have hbl := hT.lt
  have HP : Hid (∀ x, P x → x < w.heap.size) := hS.lt
  have HPB := hid hPb
  have HST := hid (And.intro hH (And.intro hS hT))
  have hmf : ∀ (fn : Fn) (first cap : Array Value) (w : World), (Instr.makeFunc fn first cap).run Tryz.prog w = .ok (.func fn first cap) w := fun _ _ _ _ => rfl
  obtain ⟨X, hXX⟩ : ∃ X, allI F S ids = X := ⟨_, rfl⟩
  have HXX := hid hXX
  rw [hXX] at HX ⊢
  clear hI hL hX hn hsl hPb hH hS hT hXX
  refine (callsIn_wide (n := 3)).1 ?_
  refine callsIn_of_wp_marks Tryz.func14 rfl trivial ?_ rfl
  simp only [Tryz.ntmps14, List.size_toArray, List.length_cons, List.length_nil, Nat.reduceAdd, Nat.reduceSub, Array.replicate_succ, Array.replicate_zero, List.push_toArray, List.append_toArray, List.nil_append, List.cons_append]
  gi_wp2_with fail
  obtain ⟨W1, hW1⟩ : ∃ W1, ((w.alloc (.cells #[.int .i64 (m : Int)] 3)).alloc (.cells #[.slice none 0 0] 43)).alloc (.cells #[.slice none 0 0] 23) = W1 := ⟨_, rfl⟩
  have k1 : Kp No w W1 := by rw [← hW1]; exact (((Kp.refl _ w).alloc _).alloc _).alloc _
  have hsz1 : W1.heap.size = w.heap.size + 3 := by rw [← hW1]; simp
  have b0 : Boxed W1 w.heap.size 3 (.int .i64 (m : Int)) := by
    rw [← hW1]
    exact ((Boxed.new w 3 (.int .i64 (m : Int))).alloc _).alloc _
  have b1 : Boxed W1 (w.heap.size + 1) 43 (.slice none 0 0) := by
    rw [← hW1]
    have h := (Boxed.new (w.alloc (.cells #[.int .i64 (m : Int)] 3)) 43 (.slice none 0 0)).alloc (.cells #[.slice none 0 0] 23)
    simpa only [World.size_alloc] using h
  have b2 : Boxed W1 (w.heap.size + 2) 23 (.slice none 0 0) := by
    rw [← hW1]
    have h := Boxed.new ((w.alloc (.cells #[.int .i64 (m : Int)] 3)).alloc (.cells #[.slice none 0 0] 43)) 23 (.slice none 0 0)
    simpa only [World.size_alloc] using h
  rw [hW1]
  refine ⟨trivial, (callsIn_wide.2 (HI.out W1 k1)).mono ?_⟩
  clear hW1 HI
  rintro e W2 ⟨u, rfl, hu, huo, k2⟩
  obtain ⟨ai, ci, rfl, _, _, hform⟩ := hu.form
  rw [List.length_map] at *
  have hsz2 : w.heap.size + 3 ≤ W2.heap.size := by have := k2.size; omega
  have HW2 := hid (And.intro (Boxed.kp b0 k2 (fun h => h)) (And.intro (Boxed.kp b1 k2 (fun h => h)) (And.intro (Boxed.kp b2 k2 (fun h => h)) (And.intro hu (And.intro huo (And.intro hform (k1.andNone k2)))))))
  clear b0 b1 b2 k1 k2 hu huo hform
  gi_wp2_with fail
  refine ⟨trivial, (callsIn_wide.2 (records_any W2 _ _ _ _ _ _)).mono ?_⟩
  rintro e W3 ⟨rfl, hW3⟩
  obtain ⟨b0, b1, b2, hu, huo, hform, k12⟩ := HW2.out
  have hsz3 : W3.heap.size = W2.heap.size + 2 := by rw [hW3]; simp
  have b3 : Boxed W3 W2.heap.size 23 (.slice ai ids.length ci) := by rw [hW3]; exact (Boxed.new W2 23 _).alloc _
  have b4 : Boxed W3 (W2.heap.size + 1) 49 (.func (.func 16) #[.pointer (some ⟨h, 0, none⟩)] #[]) := by
    rw [hW3]
    have h := Boxed.new (W2.alloc (.cells #[.slice ai ids.length ci] 23)) 49 (.func (.func 16) #[.pointer (some ⟨h, 0, none⟩)] #[])
    simpa only [World.size_alloc] using h
  have k3 : Kp No W2 W3 := by rw [hW3]; exact ((Kp.refl _ _).alloc _).alloc _
  have k13 : Kp No w W3 := k12.andNone k3
  obtain ⟨hH, hS, hT⟩ := HST.out
  have hO0 : ∀ x, (x = w.heap.size + 1 ∨ x = w.heap.size + 2) → x < W3.heap.size := fun x hx => by omega
  have hTW : TW P N h s b W2.heap.size (W2.heap.size + 1) W3.heap.size n ps ids ai ci (fun x => x = w.heap.size + 1 ∨ x = w.heap.size + 2) W3 := by
    refine ⟨hH.kp k13 (fun x => x), hS.kept k13, hT.kp k13 (fun x => x), b3.cell, b4.cell, fun i id hi => ?_⟩
    have hne : (ids.map fun (i : Nat) => (i : Int)) ≠ [] := fun e => by
      rw [List.map_eq_nil_iff] at e
      rw [e] at hi
      simp at hi
    obtain ⟨g, rfl, hg⟩ := hform hne
    have hgo := huo g rfl
    refine ⟨g, 0, rfl, ⟨by omega, by omega, by omega⟩, ?_⟩
    rw [Nat.zero_add]
    exact (k3.cell (p := ⟨g, i, none⟩) hg (fun h => h)).trans (hu.cell (by rw [List.length_map]) i (by rw [List.getElem?_map, hi]; rfl))
  have hWk0 : WkS w W3.heap.size b m X 0 (fun x => x = w.heap.size + 1 ∨ x = w.heap.size + 2) W3 [] (.slice none 0 0) (.slice none 0 0) :=
    ⟨Boxed.kp b0 k3 (fun h => h), Boxed.kp b1 k3 (fun h => h), Boxed.kp b2 k3 (fun h => h), by simp [fsOf], Sim.Row.nil _ _ _, Sim.Row.nil _ _ _, by simp, by simp [Value.ownBlock], by simp [Value.ownBlock], .inl rfl, .inr rfl, fun x hx => by rcases hx with e | e; exact .inl e; exact .inr (.inl e), k13.ofNo⟩
  have HKP : Hid (∀ L U W, TW P N h s b W2.heap.size (W2.heap.size + 1) W3.heap.size n ps ids ai ci (fun x => x = w.heap.size + 1 ∨ x = w.heap.size + 2) U → Kp L U W → TabX W b → (∀ x, x < W3.heap.size → x ≠ b → ¬ (x = w.heap.size + 1 ∨ x = w.heap.size + 2) → ¬ L x) → TW P N h s b W2.heap.size (W2.heap.size + 1) W3.heap.size n ps ids ai ci (fun x => x = w.heap.size + 1 ∨ x = w.heap.size + 2) W) := fun L U W hT k hx hL =>
    TW.kp hT k hx hL ⟨by omega, hhb, by omega⟩ (fun x hx => by have := HP.out x hx; exact ⟨by omega, fun e => HPB.out (e ▸ hx), by omega⟩) ⟨by omega, by omega, by omega⟩ ⟨by omega, by omega, by omega⟩
  have HWK0 := hid hWk0
  have hbW : b < w.heap.size := hbl
  clear b0 b1 b2 b3 b4 hu huo hform k12 k3 k13 hH hS hT hW3 HW2 HST hWk0
  gi_wp2_with fail
  refine over_funcO (gf := 59) (lb := #[.pointer (some ⟨W2.heap.size, 0, none⟩), .pointer (some ⟨W2.heap.size + 1, 0, none⟩)]) rfl (enters_of Tryz.func59 (by kernel_rfl) rfl) (b := b)
    (T := TW P N h s b W2.heap.size (W2.heap.size + 1) W3.heap.size n ps ids ai ci (fun x => x = w.heap.size + 1 ∨ x = w.heap.size + 2)) (V := Vr b X) (N := X.length) (O0 := fun x => x = w.heap.size + 1 ∨ x = w.heap.size + 2) hO0 ?tells (fun k m vs U h => by obtain ⟨y, a, c, _, rfl, _⟩ := h; rfl) (by omega) ?ht hTW
    (fun k O W => ∃ Us u1 u2, WkS w W3.heap.size b m X k O W Us u1 u2 ∧ Us.length < m)
    (fun c k W => c = .exit 0 ∧ (∃ O Us u1 u2, WkS w W3.heap.size b m X k O W Us u1 u2 ∧ Us.length = m) ∧ TabX W b ∧ 1 ≤ k ∧ ∃ y, X[k - 1]? = some y ∧ y.2.1 = 0)
    ?ik ?ii ?ix ?i0 asgF asgF_below ?va ?ia
    (fun k vs U => { tmps := #[.pointer (some ⟨h, 0, none⟩), .int .i64 (m : Int), undef, .pointer (some ⟨w.heap.size, 0, none⟩), .slice none 0 0, .slice none 0 0, .pointer (some ⟨w.heap.size + 1, 0, none⟩), .pointer (some ⟨w.heap.size + 1 + 1, 0, none⟩), .pointer (some ⟨U.heap.size, 0, none⟩), vs.getD 1 undef, .int .i64 (m : Int), .bool false, .pointer (some ⟨h, 0, none⟩), .slice ai ids.length ci, .pointer (some ⟨h, 0, none⟩), .func (.func 16) #[.pointer (some ⟨h, 0, none⟩)] #[], .func (.func 59) #[] #[.pointer (some ⟨W2.heap.size, 0, none⟩), .pointer (some ⟨W2.heap.size + 1, 0, none⟩)], vs.getD 0 undef, vs.getD 1 undef, undef, undef, undef, undef, undef, undef, undef, undef, undef, undef, undef, undef, undef, undef, undef, undef, undef, undef], defers := [] })
    ?vv ?assign ?body ?done ?stop
  case tells =>
    have h := tells_recs 2 b W2.heap.size (W2.heap.size + 1) h ids ai ci F S (TW P N h s b W2.heap.size (W2.heap.size + 1) W3.heap.size n ps ids ai ci (fun x => x = w.heap.size + 1 ∨ x = w.heap.size + 2)) (fun x => x = w.heap.size + 1 ∨ x = w.heap.size + 2)
      (fun W hT => ⟨hT.2.2.2.1, hT.2.2.2.2.1⟩) (fun W hT i id hi => by obtain ⟨g, o, e, _, hc⟩ := hT.2.2.2.2.2 i id hi; exact ⟨g, o, e, hc⟩)
      (fun U W hT hk hx => HKP.out (fun x => x = b) U W hT (kp_kept hk) hx (fun x _ hx _ e => hx e)) (fun U W hT hB => HKP.out No U W hT (Kp.below hB) (hT.2.2.1.kp (Kp.below (L := No) hB) (fun x => x)) (fun _ _ _ _ h => h))
      (fun W id hT hi => HL.out W id hT.1 hT.2.1 hT.2.2.1 hi) HN.out HSL.out
    rw [HXX.out] at h
    exact h
  case ht => exact fun U W hT hB => HKP.out (fun x => W3.heap.size ≤ x) U W hT ⟨hB.os, hB.tape, hB.output, hB.size, fun k _ hk => hB.block k (by omega)⟩ (tabX_below hT.2.2.1 hB (by omega)) (fun x h1 _ _ h2 => by omega)
  case ik =>
    rintro k O U W ⟨Us, u1, u2, h1, h2⟩ _ hk
    exact ⟨Us, u1, u2, h1.kept hk hbW (by omega), h2⟩
  case ii =>
    rintro k O U W ⟨Us, u1, u2, h1, h2⟩ hp
    exact ⟨Us, u1, u2, h1.putl hp (by omega), h2⟩
  case ix =>
    rintro c k U W ⟨rfl, ⟨O, Us, u1, u2, h1, h2⟩, h3, h4⟩ hp
    exact ⟨rfl, ⟨O, Us, u1, u2, h1.putl hp (by omega), h2⟩, tabX_below h3 hp.below (by omega), h4⟩
  case i0 =>
    intro W hB _
    exact ⟨[], _, _, HWK0.out.kept (Kept.below hB) hbW (by omega), by simp; omega⟩
  case va =>
    rintro k O vs U ⟨y, a, c, h1, h2, h3, h4⟩
    have hbl := asgF_below vs U
    exact ⟨y, a, c, h1, h2, BySlS.mono (BySlS.below h3 hbl (fun g hg => hg.2.2)) (fun g hg => ⟨hg.1, hg.2.1, Nat.lt_of_lt_of_le hg.2.2 hbl.size⟩), h4⟩
  case ia =>
    rintro k O vs U _ ⟨Us, u1, u2, h1, h2⟩
    exact ⟨Us, u1, u2, h1.kept (Kept.below (asgF_below vs U)) hbW (by omega), h2⟩
  case vv =>
    rintro k O vs U W ⟨y, a, c, h1, h2, h3, h4⟩ hp
    exact ⟨y, a, c, h1, h2, BySlS.mono (BySlS.putl h3 hp) (fun g hg => ⟨hg.1, hg.2.1, by rw [hp.size]; exact hg.2.2⟩), h4⟩
  case assign =>
    rintro l k O vs W K _ ⟨y, a, c, h1, rfl, h3, h4⟩ hK
    have hz := zeroS
    have hAS : aggL #[.agg (fC y.1 y.2.2 (.slice a y.2.2.2.2.1.2.2.length c)).toArray, .int .i64 (y.2.1 : Int)] = fC y.1 y.2.2 (.slice a y.2.2.2.2.1.2.2.length c) := rfl
    have HK := hid hK
    unfold asgF at HK
    rw [hAS] at HK
    have HPL := hid (fC_len y.1 y.2.2 (.slice a y.2.2.2.2.1.2.2.length c) h4)
    have HPO := hid (fC_one y.1 y.2.2 a y.2.2.2.2.1.2.2.length c)
    obtain ⟨PA, hPA⟩ : ∃ PA, fC y.1 y.2.2 (.slice a y.2.2.2.2.1.2.2.length c) = PA := ⟨_, rfl⟩
    rw [hPA] at HK HPL HPO
    rw [hPA]
    obtain ⟨ZP, hZP⟩ : ∃ ZP, zF = ZP := ⟨_, rfl⟩
    have HZL : Hid (ZP.length = 37) := by rw [← hZP]; rfl
    rw [hZP] at hz HK
    have HTH : Hid (World.there (W.alloc (.cells ZP.toArray 58)) W.heap.size 0 PA.toArray.size) := by
      have h := there_new W ZP 58
      rw [HZL.out] at h
      have e : PA.toArray.size = 37 := HPL.out
      rw [Hid, e]
      exact h
    have HI : Hid ((Tryz.prog.info? 58).map (·.size) = some PA.toArray.size) := by rw [Hid, show PA.toArray.size = 37 from HPL.out]; exact Tryz.infoSF
    have HO : Hid (PA.toArray.all (·.oneCell') = true) := all_oneCell_toArray HPO.out
    clear hPA hZP hAS h1 h3 h4 hK HKP HWK0
    generalize y.2.1 = f at *
    gi_wp2_with (refine wpListIn_skip (by rfl) (fun _ h => by cases h) (fun _ => trivial) (exec_store 58 _ _ (by rfl) W.heap.size 0 PA.toArray (by rfl) (by rfl) HTH.out HI.out HO.out) ?_)
    exact HK.out
  case body =>
    rintro l k O vs U W hkN hOU ⟨y, a, c, hy, rfl, hby, hnm⟩ ⟨Us, u1, u2, hS, hlt⟩ hT hWz hWU hU3
    have hUW : W.heap.size = U.heap.size + 1 := by rw [hWz, asgF_size]
    have hOW : ∀ x, O x → x < W.heap.size := fun x hx => by have := hOU x hx; omega
    have HRG : Hid (W.rangeAt U.heap.size 0 (fC y.1 y.2.2 (.slice a y.2.2.2.2.1.2.2.length c))) := by
      intro j q hq
      rw [World.cell?_of_block (w := asgF _ U) (a := ⟨U.heap.size, 0 + j, none⟩) (hWU U.heap.size (Nat.le_refl _))]
      have ht := there_new U zF 58
      have hlen := fC_len y.1 y.2.2 (.slice a y.2.2.2.2.1.2.2.length c) hnm
      have h := World.rangeAt_setCells_same (U.alloc (.cells zF.toArray 58)) U.heap.size 0 (fC y.1 y.2.2 (.slice a y.2.2.2.2.1.2.2.length c)) (by rw [hlen]; exact ht)
      exact h j q hq
    have c80 : W.cell? ⟨U.heap.size, 0, none⟩ = some (.int .i64 (y.1 : Int)) := HRG.out 0 _ rfl
    have cm := hS.bm.cell
    have c1 := hS.b1.cell
    have c2 := hS.b2.cell
    have f1 := hS.b1.frozen
    have f2 := hS.b2.frozen
    change W.cell? ⟨w.heap.size + 1 + 1, 0, none⟩ = _ at c2
    change W.frozen? ⟨w.heap.size + 1 + 1, 0, none⟩ = _ at f2
    have HS := hid hS
    have HY := hid (And.intro hy (And.intro hby hnm))
    have HT := hid hT
    have HOW := hid hOW
    have hfin : ∀ V, Kp (fun x => O x) W V → TabX V b ∧ TW P N h s b W2.heap.size (W2.heap.size + 1) W3.heap.size n ps ids ai ci (fun x => x = w.heap.size + 1 ∨ x = w.heap.size + 2) V := fun V k => by
      have hx : TabX V b := HT.out.2.2.1.kp k (fun e => by have := HS.out.oo b e; omega)
      exact ⟨hx, HKP.out _ W V HT.out k hx (fun x h1 h2 h3 e => by have := HS.out.oo x e; omega)⟩
    have HFIN := hid hfin
    have HLT := hid hlt
    have hlt2 : Us.length < 100 := by omega
    have hll : (lsOf X k).length ≤ 100000000000 := Nat.le_trans (lsOf_len X k) HX.out
    obtain ⟨a1, d1, rfl, _⟩ := Sim.Row.shape hS.r1
    obtain ⟨a2, d2, rfl, _⟩ := hS.r2.form
    have hr1 := hS.r1
    have hr2 : Row W 3 1 (.slice a2 (lsOf X k).length d2) (lsOf X k).length (ic (lsOf X k)) := hS.r2
    have ho1 := hS.o1
    have ho2 := hS.o2
    have hmW := hS.bm.lt
    have h1W := hS.b1.lt
    have h2W := hS.b2.lt
    clear hy hby hnm hT hOW hfin hWU hWz hS HKP HWK0
    by_cases hf0 : y.2.1 = 0
    · have HF0 := hid hf0
      obtain ⟨hy, hby, hnm⟩ := HY.out
      have HPL := hid (fC_len y.1 y.2.2 (.slice a y.2.2.2.2.1.2.2.length c) hnm)
      have HPO := hid (fC_one y.1 y.2.2 a y.2.2.2.2.1.2.2.length c)
      have HBS := hid (run_oneS y.1 y.2.2.1 y.2.2.2.2.2 y.2.2.2.2.1.1 y.2.2.2.2.1.2.1 a y.2.2.2.2.1.2.2.length c hnm.1 W)
      have hPA' : (.int .i64 (y.1 : Int) :: .int .i64 (y.2.2.1 : Int) :: .int .i64 (y.2.2.2.2.2 : Int) :: recA y.2.2.2.2.1.1 y.2.2.2.2.1.2.1 (.slice a y.2.2.2.2.1.2.2.length c) : List Value) = fC y.1 y.2.2 (.slice a y.2.2.2.2.1.2.2.length c) := rfl
      rw [hPA'] at HBS
      obtain ⟨PA, hPA⟩ : ∃ PA, fC y.1 y.2.2 (.slice a y.2.2.2.2.1.2.2.length c) = PA := ⟨_, rfl⟩
      have HPA := hid hPA
      rw [hPA] at HBS HPL HPO HRG
      have hal : Kp No W (W.alloc (.cells PA.toArray 58)) := (Kp.refl _ _).alloc _
      obtain ⟨i, hi, hiz⟩ : ∃ i, Tryz.prog.info? 58 = some i ∧ (i.zero, i.size, i.bytes) = (some (.agg zF.toArray), 37, 88) := Option.map_eq_some_iff.1 infoS3
      simp only [Prod.mk.injEq] at hiz
      obtain ⟨z1, z2, z3⟩ := hiz
      obtain ⟨g, cap, W4, hap, hown2, hgrow, hat, hg⟩ := run_append_lies (P := Tryz.prog) (W.alloc (.cells PA.toArray 58)) 43 43 0 58 i (.agg zF.toArray) 37 88 Tryz.underlying43 hi z1 z2 z3 rfl (by omega)
        (.slice a1 Us.length d1) Us.length (fcs Us) (Sim.Row.kept hr1 hal) ⟨W.heap.size, 0, none⟩ 1 1 PA (by rw [HPL.out]) (fun j u h => by rw [Addr.add_lit]; exact range_new W PA 58 j u h) HPO.out (by omega) (by unfold maxLen; omega) (by omega) (Nat.zero_le _) _ rfl
      have HAP := hid hap
      have k4 : Kp (fun x => (Value.slice a1 Us.length d1).ownBlock = some x) W W4 := hal.ofNo.trans (Kp.ofGrown hgrow) (fun x hx => .inl hx)
      have c1' := (k4.cell (p := ⟨w.heap.size + 1, 0, none⟩) h1W (fun e => by have h9 : W3.heap.size ≤ w.heap.size + 1 := (ho1 _ e).2; omega)).trans c1
      have f1' := (k4.frozen (p := ⟨w.heap.size + 1, 0, none⟩) h1W (fun e => by have h9 : W3.heap.size ≤ w.heap.size + 1 := (ho1 _ e).2; omega)).trans f1
      have cm' := (k4.cell (p := ⟨w.heap.size, 0, none⟩) hmW (fun e => by have h9 : W3.heap.size ≤ w.heap.size := (ho1 _ e).2; omega)).trans cm
      have HI : Hid ((Tryz.prog.info? 58).map (·.size) = some PA.length) := by rw [Hid, HPL.out]; exact Tryz.infoSF
      have HALL := hid (And.intro hown2 (And.intro hgrow (And.intro hat hg)))
      have HCM := hid cm'
      clear hown2 hgrow hat hg hap hal hPA' hPA hi z1 z2 z3 k4 hr1 hr2 ho1 ho2 hy hby hnm c80
      simp only [hf0]
      gi_wp2_with (first
        | (refine wpListIn_val (by rfl) (fun _ h => by cases h) (fun _ => trivial) (exec_load 58 _ (by rfl) U.heap.size 0 (by rfl) PA _ HRG.out Tryz.underlying58 rfl HI.out) ?_)
        | (refine wpListIn_val (by rfl) (fun _ h => by cases h) (fun _ => trivial) (exec_slice1 43 _ (by rfl) (.agg PA.toArray) _ (by rfl) HBS.out) ?_)
        | (refine wpListIn_val (by rfl) (fun _ h => by cases h) (fun _ => trivial) (exec_append _ _ 43 (by rfl) (.slice a1 Us.length d1) (.slice (some ⟨W.heap.size, 0, none⟩) 1 1) _ (by rfl) (by rfl) HAP.out) ?_))
      all_goals
        obtain ⟨hown2, hgrow, hat, hg⟩ := HALL.out
        obtain ⟨hy, hby, hnm⟩ := HY.out
        have hPA := HPA.out
        subst hPA
        obtain ⟨V, hV⟩ : ∃ V, W4.setCell ⟨w.heap.size + 1, 0, none⟩ (.slice (some ⟨g, 0, none⟩) (Us.length + 1) cap) = V := ⟨_, rfl⟩
        rw [hV]
        obtain ⟨q1, q2, q3, q4, q5⟩ := WkS.found HS.out hy HF0.out hnm hby hbW (by omega) (by omega) HOW.out hgrow (by simpa using hat) hg hown2 hV
        obtain ⟨q6, q7⟩ := HFIN.out V q5
      · rename_i hcmp
        have hcmp' : Us.length + 1 = m := by
          have := eq_of_beq hcmp
          omega
        exact ⟨q1, rfl, ⟨_, _, _, _, q2, by rw [List.length_append, List.length_singleton]; exact hcmp'⟩, q6, by omega, y, hy, HF0.out⟩
      · rename_i hcmp
        have hcmp' : Us.length + 1 ≠ m := fun e => by
          have h2 : ((Us.length : Int) + 1 == (m : Int)) = true := by
            rw [beq_iff_eq]
            omega
          rw [hcmp] at h2
          cases h2
        have hlt' := HLT.out
        exact ⟨q1, ⟨_, ⟨_, _, _, q2, by rw [List.length_append, List.length_singleton]; omega⟩, q3, q4⟩, q7⟩
    · have HF0 := hid hf0
      have hf0I : ¬ ((y.2.1 : Int) = 0) := by omega
      have HBS := hid (run_oneI (y.1 : Int) W)
      have hal : Kp No W (W.alloc (.cells #[.int .i64 (y.1 : Int)] 3)) := (Kp.refl _ _).alloc _
      obtain ⟨i, hi, hiz⟩ : ∃ i, Tryz.prog.info? 3 = some i ∧ (i.zero, i.size, i.bytes) = (some (.int .i64 0), 1, 8) := Option.map_eq_some_iff.1 infoI
      simp only [Prod.mk.injEq] at hiz
      obtain ⟨z1, z2, z3⟩ := hiz
      obtain ⟨ln, hln⟩ : ∃ ln, (lsOf X k).length = ln := ⟨_, rfl⟩
      have HLN := hid hln
      rw [hln] at hll c2 hr2 ho2 HS
      obtain ⟨g, cap, W4, hap, hown2, hgrow, hat, hg⟩ := run_append_lies (P := Tryz.prog) (W.alloc (.cells #[.int .i64 (y.1 : Int)] 3)) 23 23 0 3 i (.int .i64 0) 1 8 Tryz.underlying23 hi z1 z2 z3 rfl (by omega)
        (.slice a2 ln d2) ln (ic (lsOf X k)) (Sim.Row.kept hr2 hal) ⟨W.heap.size, 0, none⟩ 1 1 [.int .i64 (y.1 : Int)] rfl (fun j u h => by rw [Addr.add_lit]; exact range_new W [.int .i64 (y.1 : Int)] 3 j u h) (by intro u hu; rw [List.mem_singleton.1 hu]; rfl) (by omega) (by unfold maxLen; omega) (by omega) (Nat.zero_le _) _ rfl
      have HAP := hid hap
      have k4 : Kp (fun x => (Value.slice a2 ln d2).ownBlock = some x) W W4 := hal.ofNo.trans (Kp.ofGrown hgrow) (fun x hx => .inl hx)
      have c2' := (k4.cell (p := ⟨w.heap.size + 1 + 1, 0, none⟩) h2W (fun e => by have h9 : W3.heap.size ≤ w.heap.size + 1 + 1 := (ho2 _ e).2.1; omega)).trans c2
      have f2' := (k4.frozen (p := ⟨w.heap.size + 1 + 1, 0, none⟩) h2W (fun e => by have h9 : W3.heap.size ≤ w.heap.size + 1 + 1 := (ho2 _ e).2.1; omega)).trans f2
      have HALL := hid (And.intro hown2 (And.intro hgrow (And.intro hat hg)))
      clear hown2 hgrow hat hg hap hal hi z1 z2 z3 k4 hr1 hr2 ho1 ho2 HRG hln
      gi_wp2_with (first
        | (refine wpListIn_val (by rfl) (fun _ h => by cases h) (fun _ => trivial) (exec_slice1 23 _ (by rfl) (.int .i64 (y.1 : Int)) _ (by rfl) HBS.out) ?_)
        | (refine wpListIn_val (by rfl) (fun _ h => by cases h) (fun _ => trivial) (exec_append _ _ 23 (by rfl) (.slice a2 ln d2) (.slice (some ⟨W.heap.size, 0, none⟩) 1 1) _ (by rfl) (by rfl) HAP.out) ?_))
      obtain ⟨hown2, hgrow, hat, hg⟩ := HALL.out
      obtain ⟨hy, hby, hnm⟩ := HY.out
      have hln := HLN.out
      subst hln
      obtain ⟨V, hV⟩ : ∃ V, W4.setCell ⟨w.heap.size + 1 + 1, 0, none⟩ (.slice (some ⟨g, 0, none⟩) ((lsOf X k).length + 1) cap) = V := ⟨_, rfl⟩
      rw [hV]
      obtain ⟨q1, q2, q3, q4, q5⟩ := WkS.lost HS.out hy HF0.out hbW (by omega) (by omega) HOW.out hgrow (by simpa using hat) hg hown2 hV
      obtain ⟨q6, q7⟩ := HFIN.out V q5
      exact ⟨q1, ⟨_, ⟨_, _, _, q2, HLT.out⟩, q3, q4⟩, q7⟩
  case done =>
    rintro D O W hD ⟨Us, u1, u2, hS, hlt⟩ hT hd
    have HS := hid hS
    have HT := hid hT.2.2.1
    obtain ⟨a1, d1, rfl, _⟩ := Sim.Row.shape hS.r1
    obtain ⟨a2, d2, rfl, _⟩ := hS.r2.form
    have c1 := hS.b1.cell
    have c2 := hS.b2.cell
    change W.cell? ⟨w.heap.size + 1 + 1, 0, none⟩ = _ at c2
    clear hS hT HKP HWK0
    gi_wp2_with fail
    refine wpIn_wide.2 ?_
    go_region
    gi_wp2_with fail
    have hd' : W.drew.heap[D]? = some (.deferred (some [])) := hd
    refine ⟨by simp, .inl ⟨_, _, rfl, run_takeDeferred hd', ?_⟩⟩
    refine ⟨.tuple #[.slice a1 Us.length d1, .slice a2 (lsOf X X.length).length d2], by simp [results, Tryz.results14, go_sem], ?_⟩
    exact walked_end HS.out HT.out hd (by omega) hbW (by omega) (Nat.le_refl _) (.inl ⟨rfl, hlt⟩)
  case stop =>
    rintro D c k W hD hk ⟨rfl, ⟨O, Us, u1, u2, hS, hlt⟩, hT, h1k, hyk⟩ hd
    have HS := hid hS
    have HT := hid hT
    have HLT := hid hlt
    obtain ⟨a1, d1, rfl, _⟩ := Sim.Row.shape hS.r1
    obtain ⟨a2, d2, rfl, _⟩ := hS.r2.form
    have c1 := hS.b1.cell
    have c2 := hS.b2.cell
    change W.cell? ⟨w.heap.size + 1 + 1, 0, none⟩ = _ at c2
    clear hS hT hlt HKP HWK0
    gi_wp2_with fail
    refine wpIn_wide.2 ?_
    go_region
    gi_wp2_with fail
    have hd' : W.drew.heap[D]? = some (.deferred (some [])) := hd
    refine ⟨by simp, .inl ⟨_, _, rfl, run_takeDeferred hd', ?_⟩⟩
    refine ⟨.tuple #[.slice a1 Us.length d1, .slice a2 (lsOf X k).length d2], by simp [results, Tryz.results14, go_sem], ?_⟩
    exact walked_end HS.out HT.out hd (by omega) hbW (by omega) hk (.inr ⟨HLT.out, h1k, hyk⟩)

end Go.Proofs.YtaaioaocjfpajaaGreatDoor.Sh
end
