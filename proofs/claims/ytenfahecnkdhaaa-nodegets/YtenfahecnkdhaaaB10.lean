/- Of the proof: the texts NdGetDir, NdLinks, NdTrip, NdFit, NdDocM, NdDocD, NdRRep, TlvRForm, one behind the other. -/
import Derived.Test.YtenfahecnkdhaaaB9
import Derived.Test.YtenfahecnkdhaaaB6
import Derived.Test.YtenfahecnkdhaaaB8
section
/-
  GetDir, of the program.
-/
namespace Go.Proofs.Ytenfahecnkdhaaa.Nd
open Go.RowKit
open Tlv (Tr Agree)
open Sim (hid Kp No)
set_option linter.unusedSimpArgs false

theorem app_runN (w : World) (ty : TypeId) (v vx : Value) (n m : Nat) (xs ys : List Value) (hown : Sim.Row w 70 34 v n xs) (hy : Sim.Src w vx m 34 ys) (hm : 0 < m) (hlen : n + m ≤ 2000000) :
    ∃ ad cap w', (Builtin.append_ #[90, 90] ty #[v, vx]).run Try.prog w = .ok (.slice ad (n + m) cap) w' ∧ Sim.Row w' 70 34 (.slice ad (n + m) cap) (n + m) (xs ++ ys) ∧ w.grownBy w' v.ownBlock ∧ ((Value.slice ad (n + m) cap).ownBlock = v.ownBlock ∨ (Value.slice ad (n + m) cap).ownBlock = some w.heap.size) := by
  obtain ⟨i0, hi, hz0, hz1', hz2⟩ := info_parts infoE
  rcases hy with ⟨rfl, rfl, rfl⟩ | ⟨ad, c, rfl, hl, hc, h1⟩
  · omega
  · obtain ⟨v', w', hr, h8, h9, _, h10⟩ := run_append_own_at (P := Try.prog) w 0 90 ty 70 i0 (.agg zE.toArray) 34 56 Try.underlying90 hi hz0 hz1' hz2 rfl (by omega) v n xs hown ad m c ys hl hc h1 (by unfold maxLen; omega) (by omega) (Nat.zero_le _)
    have h8' : Sim.Row w' 70 34 v' (n + m) (xs ++ ys) := h8
    obtain ⟨ad', cap', rfl, _⟩ := h8'.shape
    exact ⟨ad', cap', w', hr, h8, h9, h10⟩
theorem run_oneM (T : ByteArray) (p : Bool) (hs : List Int) (h : hs.length = 32) (w : World) : (Instr.buildSlice 90 1 #[(0, .agg (Value.string T :: .bool p :: b8 hs).toArray)]).run Try.prog w = .ok (.slice (some ⟨w.heap.size, 0, none⟩) 1 1) (w.alloc (.cells (Value.string T :: .bool p :: b8 hs).toArray 70)) := by
  obtain ⟨x0, x1, x2, x3, x4, x5, x6, x7, x8, x9, x10, x11, x12, x13, x14, x15, x16, x17, x18, x19, x20, x21, x22, x23, x24, x25, x26, x27, x28, x29, x30, x31, rfl⟩ := x32 h
  kernel_rfl
/-- One more entry behind those that there are. -/
theorem next_E {w wr W1 : World} {ad : Option Addr} {k cap : Nat} {xs : List Ent} {e : Ent} (hM : Mine w wr (.slice ad k cap) xs) (hxk : xs.length = k) (hW : Kp No wr W1) (heo : EOk e) (hk : k ≤ 1000000) (ty : TypeId) :
    ∃ ad2 cap2 w2, (Builtin.append_ #[90, 90] ty #[.slice ad k cap, .slice (some ⟨W1.heap.size, 0, none⟩) 1 1]).run Try.prog (W1.alloc (.cells (entC e).toArray 70)) = .ok (.slice ad2 (k + 1) cap2) w2 ∧
      Kp (fun x => (Value.slice ad k cap).ownBlock = some x) wr w2 ∧ Mine w w2 (.slice ad2 (k + 1) cap2) (xs ++ [e]) := by
  have hRA : Sim.Row (W1.alloc (.cells (entC e).toArray 70)) 70 34 (.slice ad k cap) k (ents xs) := by
    have := hM.1
    rw [hxk] at this
    exact this.kept (hW.alloc _)
  have hSC : Sim.Src (W1.alloc (.cells (entC e).toArray 70)) (.slice (some ⟨W1.heap.size, 0, none⟩) 1 1) 1 34 (entC e) := Sim.Src.one W1 (entC e) 34 70 (entC_length heo) (entC_one _)
  obtain ⟨ad2, cap2, w2, hap, hrow2, hgr2, hown2⟩ := app_runN _ ty (.slice ad k cap) (.slice (some ⟨W1.heap.size, 0, none⟩) 1 1) k 1 _ _ hRA hSC (by omega) (by omega)
  have HKA : Kp (fun x => (Value.slice ad k cap).ownBlock = some x) wr (W1.alloc (.cells (entC e).toArray 70)) := (hW.ofNo).alloc _
  have HK2 : Kp (fun x => (Value.slice ad k cap).ownBlock = some x) wr w2 := HKA.grown hgr2 (fun x hx => .inl hx)
  refine ⟨ad2, cap2, w2, hap, HK2, ?_, fun x hx => ?_, hM.2.2.trans HK2 (fun x hx => .inr (hM.2.1 x hx))⟩
  · rw [List.length_append, hxk, ents_append]
    have : ents [e] = entC e := by simp [ents]
    rw [this]
    exact hrow2
  · rcases hown2 with e1 | e1
    · exact hM.2.1 x (by rw [← e1]; exact hx)
    · rw [e1] at hx
      cases hx
      exact Nat.le_trans hM.2.2.size HKA.size
theorem wpList_valE {P : Program} {ops : Array Oper} {rest : List Oper} {o : Oper} {a : Act} {Q : Exit → Act → World → Prop} {w w' : World} {v : Value} (hg : o.guard = none) (hr : (execOp a.eval o).run P w = .ok (.value v) w') (h : wpList P ops Q rest (a.put o.dst v) w') : wpList P ops Q (o :: rest) a w :=
  wpList_plain hg fun _ hK => by unfold Oper.wp; rw [hr]; exact hK _ _ h
theorem run_oneX {e : Ent} (h : EOk e) (w : World) : (Instr.buildSlice 90 1 #[(0, .agg (entC e).toArray)]).run Try.prog w = .ok (.slice (some ⟨w.heap.size, 0, none⟩) 1 1) (w.alloc (.cells (entC e).toArray 70)) := by
  obtain ⟨nm, p, hs⟩ := e
  exact run_oneM (txt nm) p hs h.2.1 w
/-- The entry that a value tells. -/
def entOf (x : Tr 8) : Ent := match x.kd with
  | [a, b, c] => entryOf a b c
  | _ => zEn
theorem entOf_3 {x : Tr 8} {a b c : Tr 7} (h : x.kd = [a, b, c]) : entOf x = entryOf a b c := by rw [entOf, h]
/-- The value of a directory. -/
def GoodD (t : Tr 9) : Prop := (∀ x ∈ t.kd, x.kd.length = 3) ∧ RightP (t.kd.map entOf) ∧ Tlv.sameT 9 t 3 (entsT (t.kd.map entOf)) = true
/-- The directory that a Body is. -/
def IsDir (bs : List Int) (d : List Ent) : Prop := ∃ t, bodyT bs = some t ∧ GoodD t ∧ d = t.kd.map entOf
/-- What GetDir answers. -/
def GDA (u w : World) (K0 : Int) (bs : List Int) (e : Ending) : Prop :=
  (K0 ≠ 3 ∧ e = .returned (.tuple #[.slice none 0 0, .int .i64 1])) ∨ (K0 = 3 ∧ (∀ d, ¬ IsDir bs d) ∧ e = .returned (.tuple #[.slice none 0 0, .int .i64 3])) ∨
  (∃ d a l c, K0 = 3 ∧ IsDir bs d ∧ e = .returned (.tuple #[.slice a l c, .int .i64 0]) ∧ EV (fun g => u.heap.size ≤ g) w (.slice a l c) d)
theorem Rt_bytes {n : Nat} {t : Tr (n + 1)} {room : Int} (h : Tlv.Rt (n + 1) t room) : (t.hd.2.2.length : Int) ≤ room := by
  have hf := h.facts
  by_cases h2 : t.hd.1 = 2
  · have h1 : Tlv.bodyOf (n + 1) t = t.hd.2.2 := by
      simp only [Tlv.bodyOf]
      rw [if_neg (by omega), if_pos h2]
    rw [h1] at hf
    exact hf.2.1
  · have h0 : t.hd.2.2.length = 0 := by
      obtain ⟨deep, h⟩ := h
      simp only [Tlv.bsz] at h
      split at h
      · simp at h
      · rename_i h1
        have h3 : Tlv.oeB t.hd.1 t.hd.2.1 t.hd.2.2.length t.kd.length = true := by
          cases hb : Tlv.oeB t.hd.1 t.hd.2.1 t.hd.2.2.length t.kd.length with
          | true => rfl
          | false => exact absurd (.inr hb) h1
        unfold Tlv.oeB at h3
        simp only [Bool.and_eq_true, Bool.or_eq_true, beq_iff_eq] at h3
        rcases h3.1.2 with h3 | h3
        · exact absurd h3 h2
        · omega
    omega
theorem bodyT_names {bs : List Int} {t : Tr 9} (hb : ∀ x ∈ bs, 0 ≤ x ∧ x ≤ 255) (h : bodyT bs = some t) : ∀ x ∈ t.kd, (entOf x).1.length ≤ 65535 := by
  unfold bodyT at h
  split at h
  · have h1 := (Tlv.get_form hb h).1
    have h2 := Rt_count (⟨8, Tlv.szT_right h1⟩ : Tlv.Rt 9 t 65535)
    intro x hx
    obtain ⟨r, h3, h4⟩ := h2.2 x hx
    unfold entOf
    split
    · rename_i a b c hk
      obtain ⟨r', h5, h6⟩ := (Rt_count h4).2 a (by rw [hk]; simp)
      have := Rt_bytes h6
      show a.hd.2.2.length ≤ 65535
      omega
    · simp [zEn]
  · cases h
theorem kd3 {x : Tr 8} (h : x.kd.length = 3) : ∃ a b c, x.kd = [a, b, c] := by
  match hk : x.kd, h with
  | [a, b, c], _ => exact ⟨a, b, c, rfl⟩
theorem run_makeE (n : Nat) (hn : n ≤ 1000000) (W : World) : (Instr.makeSlice 90 (.int .i64 0) (.int .i64 (n : Int))).run Try.prog W = .ok (.slice (some ⟨W.heap.size, 0, none⟩) 0 n) (W.alloc (.cells (madeCells zE.toArray (n * 34)) 70)) := by
  obtain ⟨i0, hi, hz0, hz1, hz2⟩ := info_parts infoE
  have h := run_make (P := Try.prog) W 90 70 i0 _ Try.underlying90 hi hz0 .i64 .i64 0 (n : Int) (by omega) (by omega) (by rw [hz2]; omega) (by omega)
  rw [h, hz1]
  rfl
theorem exec_makeE {P : Program} {o : Oper} {a : Act} {w w' : World} (t : TypeId) (x y : Operand) (ho : o.op = .makeSlice t x y) (v1 v2 u : Value) (hx : a.eval x = v1) (hy : a.eval y = v2) (hr : (Instr.makeSlice t v1 v2).run P w = .ok u w') : (execOp a.eval o).run P w = .ok (.value u) w' := by
  unfold execOp
  simp [ho, hx, hy, hr, Result.andThen]

set_option maxHeartbeats 8000000 in
set_option maxRecDepth 100000 in
theorem getDir_any (w : World) (K0 : Int) (v : Value) (bs : List Int) (hv : Tlv.BySl 0 w.heap.size w v bs) :
    Calls Try.prog 21 #[.agg #[.int .i64 K0, v]] w fun e w' => GDA w w' K0 bs e ∧ Below w.heap.size w w' := by
  obtain ⟨a, c, rfl, hxx⟩ := id hv
  clear hxx
  obtain ⟨n, hn⟩ : ∃ n, bs.length = n := ⟨_, rfl⟩
  rw [hn] at hv ⊢
  have HBS := hid (Tlv.BySl.bytes hv)
  obtain ⟨W0, hW0⟩ : ∃ W, w.alloc (.cells #[.int .i64 K0, .slice a n c] 31) = W := ⟨_, rfl⟩
  have HB0 : Hid (Below w.heap.size w W0) := by rw [Hid, ← hW0]; exact (Below.refl _ _).alloc (Nat.le_refl _) _
  have hbox : W0.cell? ⟨w.heap.size, 0, none⟩ = some (.int .i64 K0) ∧ W0.cell? ⟨w.heap.size, 1, none⟩ = some (.slice a n c) := by rw [← hW0]; simp [go_sem]
  have HBD := hid (body_any W0 K0 3 (.slice a n c) bs (hv.agree (Agree.below HB0.out) (Nat.le_refl _) HB0.out.size))
  clear hv hn
  go_enter Try.func21, Try.ntmps21
  obtain ⟨hx0, hx1⟩ := hbox
  go_wp2_with fail
  refine HBD.out.mono ?_
  rintro e w2 ⟨hres, hb2⟩
  have HB2 := hid hb2
  have HBW : Hid (Below w.heap.size w w2) := HB0.out.trans (hb2.mono HB0.out.size)
  clear hx0 hx1 hW0 HBD hb2
  rcases hres with ⟨hk, rfl⟩ | ⟨hk, hno, rfl⟩ | ⟨t, a3, l3, p3, a4, l4, p4, hk, ht, rfl, hrep⟩
  · unfold zVal
    have HA : Hid (∀ w', GDA w w' K0 bs (.returned (.tuple #[.slice none 0 0, .int .i64 1]))) := fun w' => .inl ⟨hk, rfl⟩
    go_wp2_with fail
    go_ret2
    exact ⟨HA.out _, HBW.out.alloc HBW.out.size _⟩
  · unfold zVal
    subst hk
    have HA : Hid (∀ w', GDA w w' 3 bs (.returned (.tuple #[.slice none 0 0, .int .i64 3]))) := fun w' => .inr (.inl ⟨rfl, (fun d h => by obtain ⟨t, h1, _⟩ := h; rw [hno] at h1; cases h1), rfl⟩)
    go_wp2_with fail
    go_ret2
    exact ⟨HA.out _, HBW.out.alloc HBW.out.size _⟩
  · subst hk
    have HT := hid ht
    have HREP := hid hrep
    obtain ⟨tg, htg⟩ : ∃ x, t.hd.1 = x := ⟨_, rfl⟩
    obtain ⟨nm, hnm⟩ : ∃ x, t.hd.2.1 = x := ⟨_, rfl⟩
    obtain ⟨hxa, hxb, hxc, hks⟩ := hrep
    clear hxa hxb hxc
    have h4 : l4 = t.kd.length := by
      obtain ⟨_, _, e, _⟩ := hks
      simp only [Value.slice.injEq] at e
      exact e.2.1
    have HN := hid h4.symm
    have HTG := hid htg
    have HNM := hid hnm
    rw [htg, hnm]
    have hcnt : l4 ≤ 65535 := by rw [h4]; exact (bodyT_count HBS.out ht).1
    have HNL : Hid (∀ x ∈ t.kd, (entOf x).1.length ≤ 65535) := bodyT_names HBS.out ht
    obtain ⟨D, hD⟩ : ∃ D, t.kd.map entOf = D := ⟨_, rfl⟩
    have HD := hid hD
    clear htg hnm hks h4 hD
    obtain ⟨W2, hW2⟩ : ∃ W, w2.alloc (.cells #[.int .i64 tg, .int .u64 nm, .slice a3 l3 p3, .slice a4 l4 p4] 95) = W := ⟨_, rfl⟩
    have HBW2 : Hid (Below w.heap.size w W2) := by rw [Hid, ← hW2]; exact HBW.out.alloc HBW.out.size _
    have HZ2 : Hid (W2.heap.size = w2.heap.size + 1) := by rw [Hid, ← hW2]; simp
    have HR2 : Hid (Tlv.Rep 0 W2.heap.size W2 9 t (.slice a3 l3 p3) (.slice a4 l4 p4)) := HREP.out.agree (by rw [← hW2]; exact (Agree.refl _ _ _).alloc (Nat.le_refl _) _) (Nat.zero_le _) (by rw [HZ2.out]; omega)
    have HBX : Hid (∀ V, Kp No W2 V → V.cell? ⟨w2.heap.size, 0, none⟩ = some (.int .i64 tg) ∧ V.cell? ⟨w2.heap.size, 1, none⟩ = some (.int .u64 nm) ∧ V.cell? ⟨w2.heap.size, 2, none⟩ = some (.slice a3 l3 p3) ∧ V.cell? ⟨w2.heap.size, 3, none⟩ = some (.slice a4 l4 p4)) := fun V hV => by
      have hz := HZ2.out
      have e : ∀ o, V.cell? ⟨w2.heap.size, o, none⟩ = W2.cell? ⟨w2.heap.size, o, none⟩ := fun o => hV.cell (p := ⟨w2.heap.size, o, none⟩) (by show w2.heap.size < _; omega) (fun x => x)
      rw [e, e, e, e, ← hW2]
      exact ⟨by simp, by simp, by simp, by simp⟩
    have hMS : (madeCells zE.toArray (l4 * 34)).size = l4 * 34 := size_madeCells _ _
    have HMS := hid hMS
    have HMK := hid (fun W => run_makeE l4 (by omega) W)
    generalize madeCells zE.toArray (l4 * 34) = M at *
    have HM0 : Hid (Mine W2 (W2.alloc (.cells M 70)) (.slice (some ⟨W2.heap.size, 0, none⟩) 0 l4) []) :=
      ⟨World.ownsRow_made W2 _ l4 (Nat.zero_le _) (by unfold maxLen; omega) HMS.out, fun x hx => by simp [Value.ownBlock] at hx; omega, (Kp.refl No W2).alloc _⟩
    have hd3 : (W2.alloc (.cells M 70)).cell? ⟨w2.heap.size, 3, none⟩ = some (.slice a4 l4 p4) := (HBX.out _ ((Kp.refl No W2).alloc _)).2.2.2
    have he3 : W2.cell? ⟨w2.heap.size, 3, none⟩ = some (.slice a4 l4 p4) := (HBX.out _ (Kp.refl No W2)).2.2.2
    have hzl : w2.heap.size < W2.heap.size := by rw [HZ2.out]; omega
    clear hMS
    go_wp2_with (refine wpList_valE (by rfl) (exec_makeE 90 _ _ rfl (.int .i64 0) (.int .i64 (l4 : Int)) _ rfl rfl (HMK.out _)) ?_)
    clear he3 hd3 hW2
    go_loopw [6, 24] (fun v6 v24 wr => ∃ (k : Nat) (ad : Option Addr) (cap : Nat), v6 = .slice ad k cap ∧ v24 = .int .i64 (k : Int) ∧ k ≤ l4 ∧ Hid (Mine W2 wr (.slice ad k cap) (D.take k)) ∧ Hid (∀ x ∈ t.kd.take k, x.kd.length = 3 ∧ EOk (entOf x))) (fun _ v24 _ => l4 - (intOf v24).toNat)
    case atStart => exact ⟨0, _, _, rfl, rfl, Nat.zero_le _, HM0.out, by intro x hx; simp at hx⟩
    case round =>
      obtain ⟨k, ad, cap, rfl, rfl, hkn, HS, H4⟩ := hrel
      by_cases hlt : k < l4
      · have hltI : (k : Int) < (l4 : Int) := by omega
        have hwk : IntKind.i64.wrap ((k : Int) + 1) = ((k + 1 : Nat) : Int) := by rw [IntKind.wrap_i64]; omega
        have HKw : Hid (Kp No W2 wr) := HS.out.2.2
        obtain ⟨g, o, x, sb, sk, rfl, hg, hx, c0, c1, c2, c3, hrx⟩ := kid_at HR2.out.2.2.2 (k := k) (by rw [HN.out]; exact hlt)
        obtain ⟨a1, m1, p1, a2, l2, p2, rfl, rfl⟩ := hrx.sl
        rw [← HKw.out.cell (p := ⟨g, _, none⟩) hg (fun x => x)] at c0 c1 c2 c3
        have hgw : g < wr.heap.size := Nat.lt_of_lt_of_le hg HKw.out.size
        obtain ⟨m, hm⟩ : ∃ m, x.kd.length = m := ⟨_, rfl⟩
        have HMM := hid hm
        have hl2 : l2 = m := by
          obtain ⟨a, c, e, _⟩ := hrx.2.2.2
          simp only [Value.slice.injEq] at e
          omega
        subst hl2
        have HRX := hid hrx
        have HX := hid hx
        have hDk : D[k]? = some (entOf x) := by rw [← HD.out, List.getElem?_map, hx]; rfl
        have HNX : Hid (D.take (k + 1) = D.take k ++ [entOf x]) := by rw [Hid, List.take_add_one, hDk]; rfl
        have hDl : (D.take k).length = k := by rw [List.length_take, ← HD.out, List.length_map, HN.out]; omega
        have HDL := hid hDl
        clear hm hx hrx hDk hDl hg
        generalize htg : x.hd.1 = tg1 at *
        generalize hnu : x.hd.2.1 = nu1 at *
        clear htg hnu
        by_cases h3 : l2 = 3
        · subst h3
          obtain ⟨ka, kb, kc, hkd⟩ := kd3 HMM.out
          have HEO := hid (entOf_3 hkd)
          have HKD := hid hkd
          clear hkd
          have hz1 : (wr.alloc (.cells #[.int .i64 tg1, .int .u64 nu1, .slice a1 m1 p1, .slice a2 3 p2] 95)).heap.size = wr.heap.size + 1 := by simp
          have HKA : Hid (Kp No wr (wr.alloc (.cells #[.int .i64 tg1, .int .u64 nu1, .slice a1 m1 p1, .slice a2 3 p2] 95))) := (Kp.refl No wr).alloc _
          have HKS : Hid (Tlv.KSl 0 (wr.alloc (.cells #[.int .i64 tg1, .int .u64 nu1, .slice a1 m1 p1, .slice a2 3 p2] 95)).heap.size (wr.alloc (.cells #[.int .i64 tg1, .int .u64 nu1, .slice a1 m1 p1, .slice a2 3 p2] 95)) (Tlv.Rep 0 (wr.alloc (.cells #[.int .i64 tg1, .int .u64 nu1, .slice a1 m1 p1, .slice a2 3 p2] 95)).heap.size (wr.alloc (.cells #[.int .i64 tg1, .int .u64 nu1, .slice a1 m1 p1, .slice a2 3 p2] 95)) 7) (.slice a2 3 p2) [ka, kb, kc]) := by
            have hk := HKw.out.andNone HKA.out
            have := (HRX.out.agree (L' := 0) (B' := (wr.alloc (.cells #[.int .i64 tg1, .int .u64 nu1, .slice a1 m1 p1, .slice a2 3 p2] 95)).heap.size) (Agree.below hk.toBelow') (Nat.le_refl _) hk.size).2.2.2
            rwa [HKD.out] at this
          have HEN := hid (entry_any _ _ ka kb kc HKS.out)
          clear hz1 HKS
          go_wp2_with fail
          refine HEN.out.mono ?_
          rintro e w3 ⟨rfl, heo, hb3⟩
          rw [← HEO.out]
          rw [← HEO.out] at heo
          have HK3 : Hid (Kp No wr w3) := HKA.out.andNone (Kp.below hb3)
          have HEK := hid heo
          obtain ⟨ad2, cap2, w4, hap, hk4, hm4⟩ := next_E HS.out HDL.out HK3.out heo (by omega) 90
          have HB2 := hid (run_oneX heo)
          have HM4 : Hid (Mine W2 w4 (.slice ad2 (k + 1) cap2) (D.take (k + 1))) := by rw [HNX.out]; exact hm4
          have H5 : Hid (∀ y ∈ t.kd.take (k + 1), y.kd.length = 3 ∧ EOk (entOf y)) := by
            intro y hy
            rw [List.take_add_one, HX.out] at hy
            rcases List.mem_append.1 hy with hy | hy
            · exact H4.out y hy
            · simp at hy
              subst hy
              exact ⟨by rw [HKD.out]; rfl, heo⟩
          obtain ⟨C, hC⟩ : ∃ C, entC (entOf x) = C := ⟨_, rfl⟩
          rw [hC] at hap HB2 ⊢
          have HAP := hid hap
          clear hC heo hb3 hk4 hm4 hap c0 c1 c2 c3 HEN
          go_wp2_with (first
            | (refine wpList_valE (by rfl) (exec_sliceE 90 _ rfl (.agg C.toArray) _ rfl (HB2.out _)) ?_)
            | (refine wpList_valE (by rfl) (exec_appE _ _ 90 rfl (.slice ad k cap) (.slice (some ⟨w3.heap.size, 0, none⟩) 1 1) _ rfl rfl HAP.out) ?_))
          go_round
          case rel => exact ⟨k + 1, ad2, cap2, rfl, by first | rfl | go_num, by omega, HM4.out, H5.out⟩
          case measure => simp [intOf]; omega
        · have hne : ((l2 : Int) != 3) = true := by simp; omega
          have HNG : Hid (∀ d, ¬ IsDir bs d) := fun d hg => by
            obtain ⟨t', h1, h2, _⟩ := hg
            rw [HT.out] at h1
            cases h1
            exact h3 (by rw [← HMM.out]; exact h2.1 x (List.mem_of_getElem? HX.out))
          have HA : Hid (∀ w', GDA w w' 3 bs (.returned (.tuple #[.slice none 0 0, .int .i64 3]))) := fun w' => .inr (.inl ⟨rfl, HNG.out, rfl⟩)
          have HKW : Hid (Below w.heap.size w wr) := HBW2.out.trans (HKw.out.toBelow'.mono HBW2.out.size)
          clear h3 hkn hlt
          go_wp2_with fail
          go_ret2
          exact ⟨HA.out _, HKW.out.alloc HKW.out.size _⟩
      · have hltI : ¬ (k : Int) < (l4 : Int) := by omega
        have hkn' : k = l4 := by omega
        have hDl : D.length = l4 := by rw [← HD.out, List.length_map, HN.out]
        have HDT : Hid (Mine W2 wr (.slice ad k cap) D) := by
          have := HS.out
          rw [List.take_of_length_le (by omega)] at this
          exact this
        have HAL : Hid ((∀ x ∈ t.kd, x.kd.length = 3) ∧ ∀ x ∈ D, EOk x) := by
          have h := H4.out
          rw [List.take_of_length_le (by rw [HN.out]; omega)] at h
          refine ⟨fun x hx => (h x hx).1, fun x hx => ?_⟩
          rw [← HD.out] at hx
          obtain ⟨y, hy, rfl⟩ := List.mem_map.1 hx
          exact (h y hy).2
        have HSZ : Hid (∀ e ∈ D, e.1.length ≤ 1000000) := fun e he => by
          rw [← HD.out] at he
          obtain ⟨y, hy, rfl⟩ := List.mem_map.1 he
          have := HNL.out y hy
          omega
        have HKW : Hid (Kp No W2 wr) := HDT.out.2.2
        have HEV : Hid (EV (fun g => W2.heap.size ≤ g) wr (.slice ad k cap) D) := ev_of_rowT HDT.out.1 HAL.out.2 HDT.out.2.1
        have HBR : Hid (∀ V, Kp No wr V → Below w.heap.size w V) := fun V hV => HBW2.out.trans ((HKW.out.andNone hV).toBelow'.mono HBW2.out.size)
        have HDN : Hid (¬ (RightP D ∧ Tlv.sameT 9 t 3 (entsT D) = true) → ∀ d, ¬ IsDir bs d) := fun h d hg => by
          obtain ⟨t', h1, h2, _⟩ := hg
          rw [HT.out] at h1
          cases h1
          rw [GoodD, HD.out] at h2
          exact h ⟨h2.2.1, h2.2.2⟩
        have HDY : Hid (RightP D → Tlv.sameT 9 t 3 (entsT D) = true → IsDir bs D) := fun h1 h2 => ⟨t, HT.out, ⟨HAL.out.1, by rw [HD.out]; exact ⟨h1, h2⟩⟩, HD.out.symm⟩
        have HRT := hid (fun (V : World) (hV : Kp No wr V) => right_any V _ D _ (HEV.out.kept hV) (by omega) HSZ.out)
        have HVAL := hid (fun (V : World) (hV : Kp No wr V) => value_any V _ D _ (HEV.out.kept hV) HSZ.out (by omega))
        have HSM := hid (fun (V : World) (sb sk : Value) (h : Tlv.Rep 0 V.heap.size V 9 t (.slice a3 l3 p3) (.slice a4 l4 p4)) (h' : Tlv.Rep 0 V.heap.size V 3 (entsT D) sb sk) => Tlv.Same_any t (entsT D) _ _ sb sk V h h' (by omega))
        rw [HTG.out, HNM.out, show (entsT D).hd.1 = 3 from rfl, show (entsT D).hd.2.1 = 0 from rfl] at HSM
        have HRV : Hid (∀ V, Kp No wr V → Tlv.Rep 0 V.heap.size V 9 t (.slice a3 l3 p3) (.slice a4 l4 p4)) := fun V hV =>
          HR2.out.agree (Agree.below (HKW.out.andNone hV).toBelow') (Nat.le_refl _) (Nat.le_trans HKW.out.size hV.size)
        have HBV : Hid (∀ V, Kp No wr V → V.cell? ⟨w2.heap.size, 0, none⟩ = some (.int .i64 tg) ∧ V.cell? ⟨w2.heap.size, 1, none⟩ = some (.int .u64 nm) ∧ V.cell? ⟨w2.heap.size, 2, none⟩ = some (.slice a3 l3 p3) ∧ V.cell? ⟨w2.heap.size, 3, none⟩ = some (.slice a4 l4 p4)) := fun V hV => HBX.out V (HKW.out.andNone hV)
        obtain ⟨r, hr⟩ : ∃ r, Tlv.sameT 9 t 3 (entsT D) = r := ⟨_, rfl⟩
        have HR := hid hr
        rw [hr] at HSM HDN HDY
        clear hr hkn' HS H4 hlt hDl
        go_wp2_with fail
        refine wp_region_held_drew (S := fun V => Kp No wr V) (by kernel_rfl) ((Kp.refl _ _).drew) (fun hHeld => ?_)
        refine wpAnyH_take (i := 0) (oi := { dst := some 39, op := Op.move (Operand.tmp 6), type := 90, pos := "dir.go:48", after := #[], guard := none }) (v := .slice ad k cap) rfl (by kernel_rfl) (by kernel_rfl) (by kernel_rfl) (fun _ _ _ h => h) (Or.inl ⟨by rfl, fun w' hw' => by (clear hw'; go_simp)⟩) hHeld ?_
        simp only [Act.put, List.setIfInBounds_toArray, List.set_cons_zero, List.set_cons_succ]
        refine wpAnyH_ready (rs := [1]) (by kernel_rfl) (by simp) ?_
        refine (AllReadyH.cons (o := { dst := some 40, op := Op.call { callee := Callee.value (Operand.func 44), args := #[Operand.tmp 39], argTypes := #[90] }, type := 4, pos := "dir.go:48", after := #[{ on := 0, ground := Ground.data }], guard := none }) rfl (fun K hK => ?_) AllReadyH.nil)
        go_simp
        refine (HRT.out _ ((Kp.refl No wr).drew)).mono ?_
        rintro e' w4 ⟨⟨rb, rfl, hrb⟩, hb4⟩
        have HK4 : Hid (Kp No wr w4) := ((Kp.refl No wr).drew).andNone hb4
        have HRB := hid hrb
        clear hb4 hrb
        cases rb with
        | false =>
          have HA : Hid (∀ w', GDA w w' 3 bs (.returned (.tuple #[.slice none 0 0, .int .i64 3]))) := fun w' => .inr (.inl ⟨rfl, HDN.out (fun h => by have := HRB.out.2 h.1; cases this), rfl⟩)
          go_wp2_with fail
          refine hK.out _ _ (HK4.out) (fun hh => ?_)
          clear hK K hHeld
          have hHeld := hh
          clear hh
          try simp only [Act.put, List.setIfInBounds_toArray, List.set_cons_zero, List.set_cons_succ]
          refine wpAnyH_take (i := 2) (oi := { dst := some 41, op := Op.unOp UnOp.not 4 (Operand.tmp 40), type := 4, pos := "dir.go:48", after := #[{ on := 1, ground := Ground.data }], guard := none }) (v := .bool true) rfl (by kernel_rfl) (by kernel_rfl) (by kernel_rfl) (fun _ _ _ h => h) (Or.inl ⟨by rfl, fun w' hw' => by (clear hw'; go_simp)⟩) hHeld ?_
          simp only [Act.put, List.setIfInBounds_toArray, List.set_cons_zero, List.set_cons_succ]
          refine wpAnyH_take (i := 3) (oi := { dst := some 42, op := Op.move (Operand.tmp 41), type := 4, pos := "dir.go:48", after := #[{ on := 2, ground := Ground.data }, { on := 1, ground := Ground.chain }], guard := none }) (v := .bool true) rfl (by kernel_rfl) (by kernel_rfl) (by kernel_rfl) (fun _ _ _ h => h) (Or.inl ⟨by rfl, fun w' hw' => by (clear hw'; go_simp)⟩) hHeld ?_
          simp only [Act.put, List.setIfInBounds_toArray, List.set_cons_zero, List.set_cons_succ]
          refine wpAnyH_take (i := 4) (oi := { dst := some 43, op := Op.load 95 (Operand.tmp 4), type := 95, pos := "dir.go:48", after := #[{ on := 3, ground := Ground.guard }], guard := some (3, false) }) (v := undef) rfl (by kernel_rfl) (by kernel_rfl) (by kernel_rfl) (fun _ _ _ h => h) (Or.inr ⟨by rfl, rfl⟩) hHeld ?_
          simp only [Act.put, List.setIfInBounds_toArray, List.set_cons_zero, List.set_cons_succ]
          refine wpAnyH_take (i := 5) (oi := { dst := some 44, op := Op.move (Operand.tmp 6), type := 90, pos := "dir.go:48", after := #[{ on := 3, ground := Ground.guard }], guard := some (3, false) }) (v := undef) rfl (by kernel_rfl) (by kernel_rfl) (by kernel_rfl) (fun _ _ _ h => h) (Or.inr ⟨by rfl, rfl⟩) hHeld ?_
          simp only [Act.put, List.setIfInBounds_toArray, List.set_cons_zero, List.set_cons_succ]
          refine wpAnyH_take (i := 6) (oi := { dst := some 45, op := Op.call { callee := Callee.value (Operand.func 45), args := #[Operand.tmp 44], argTypes := #[90] }, type := 95, pos := "dir.go:48", after := #[{ on := 5, ground := Ground.data }, { on := 3, ground := Ground.chain }, { on := 3, ground := Ground.guard }], guard := some (3, false) }) (v := undef) rfl (by kernel_rfl) (by kernel_rfl) (by kernel_rfl) (fun _ _ _ h => h) (Or.inr ⟨by rfl, rfl⟩) hHeld ?_
          simp only [Act.put, List.setIfInBounds_toArray, List.set_cons_zero, List.set_cons_succ]
          refine wpAnyH_take (i := 7) (oi := { dst := some 46, op := Op.call { callee := Callee.value (Operand.func 50), args := #[Operand.tmp 43, Operand.tmp 45], argTypes := #[95, 95] }, type := 4, pos := "dir.go:48", after := #[{ on := 4, ground := Ground.data }, { on := 6, ground := Ground.data }, { on := 6, ground := Ground.chain }, { on := 3, ground := Ground.guard }], guard := some (3, false) }) (v := undef) rfl (by kernel_rfl) (by kernel_rfl) (by kernel_rfl) (fun _ _ _ h => h) (Or.inr ⟨by rfl, rfl⟩) hHeld ?_
          simp only [Act.put, List.setIfInBounds_toArray, List.set_cons_zero, List.set_cons_succ]
          refine wpAnyH_take (i := 8) (oi := { dst := some 47, op := Op.unOp UnOp.not 4 (Operand.tmp 46), type := 4, pos := "dir.go:48", after := #[{ on := 7, ground := Ground.data }, { on := 3, ground := Ground.guard }], guard := some (3, false) }) (v := undef) rfl (by kernel_rfl) (by kernel_rfl) (by kernel_rfl) (fun _ _ _ h => h) (Or.inr ⟨by rfl, rfl⟩) hHeld ?_
          simp only [Act.put, List.setIfInBounds_toArray, List.set_cons_zero, List.set_cons_succ]
          refine wpAnyH_take (i := 9) (oi := { dst := some 48, op := Op.pick (Operand.tmp 42) (Operand.const (Value.bool true)) (Operand.tmp 47), type := 4, pos := "dir.go:48", after := #[{ on := 3, ground := Ground.data }, { on := 8, ground := Ground.data }], guard := none }) (v := .bool true) rfl (by kernel_rfl) (by kernel_rfl) (by kernel_rfl) (fun _ _ _ h => h) (Or.inl ⟨by rfl, fun w' hw' => by (clear hw'; go_simp)⟩) hHeld ?_
          simp only [Act.put, List.setIfInBounds_toArray, List.set_cons_zero, List.set_cons_succ]
          refine wpAnyH_done (by kernel_rfl) ?_ _
          clear hHeld
          go_wp2_with fail
          go_ret2
          exact ⟨HA.out _, HBR.out _ HK4.out⟩
        | true =>
          go_wp2_with fail
          refine hK.out _ _ (HK4.out) (fun hh => ?_)
          clear hK K hHeld
          have hHeld := hh
          clear hh
          try simp only [Act.put, List.setIfInBounds_toArray, List.set_cons_zero, List.set_cons_succ]
          refine wpAnyH_take (i := 2) (oi := { dst := some 41, op := Op.unOp UnOp.not 4 (Operand.tmp 40), type := 4, pos := "dir.go:48", after := #[{ on := 1, ground := Ground.data }], guard := none }) (v := .bool false) rfl (by kernel_rfl) (by kernel_rfl) (by kernel_rfl) (fun _ _ _ h => h) (Or.inl ⟨by rfl, fun w' hw' => by (clear hw'; go_simp)⟩) hHeld ?_
          simp only [Act.put, List.setIfInBounds_toArray, List.set_cons_zero, List.set_cons_succ]
          refine wpAnyH_take (i := 3) (oi := { dst := some 42, op := Op.move (Operand.tmp 41), type := 4, pos := "dir.go:48", after := #[{ on := 2, ground := Ground.data }, { on := 1, ground := Ground.chain }], guard := none }) (v := .bool false) rfl (by kernel_rfl) (by kernel_rfl) (by kernel_rfl) (fun _ _ _ h => h) (Or.inl ⟨by rfl, fun w' hw' => by (clear hw'; go_simp)⟩) hHeld ?_
          simp only [Act.put, List.setIfInBounds_toArray, List.set_cons_zero, List.set_cons_succ]
          refine wpAnyH_take (i := 4) (oi := { dst := some 43, op := Op.load 95 (Operand.tmp 4), type := 95, pos := "dir.go:48", after := #[{ on := 3, ground := Ground.guard }], guard := some (3, false) }) (v := .agg #[.int .i64 tg, .int .u64 nm, .slice a3 l3 p3, .slice a4 l4 p4]) rfl (by kernel_rfl) (by kernel_rfl) (by kernel_rfl) (fun _ _ _ h => h) (Or.inl ⟨by rfl, fun w' hw' => by (obtain ⟨q0, q1, q2, q3⟩ := HBV.out _ hw'; clear hw'; go_simp)⟩) hHeld ?_
          simp only [Act.put, List.setIfInBounds_toArray, List.set_cons_zero, List.set_cons_succ]
          refine wpAnyH_take (i := 5) (oi := { dst := some 44, op := Op.move (Operand.tmp 6), type := 90, pos := "dir.go:48", after := #[{ on := 3, ground := Ground.guard }], guard := some (3, false) }) (v := .slice ad k cap) rfl (by kernel_rfl) (by kernel_rfl) (by kernel_rfl) (fun _ _ _ h => h) (Or.inl ⟨by rfl, fun w' hw' => by (clear hw'; go_simp)⟩) hHeld ?_
          simp only [Act.put, List.setIfInBounds_toArray, List.set_cons_zero, List.set_cons_succ]
          refine wpAnyH_ready (rs := [6]) (by kernel_rfl) (by simp) ?_
          refine (AllReadyH.cons (o := { dst := some 45, op := Op.call { callee := Callee.value (Operand.func 45), args := #[Operand.tmp 44], argTypes := #[90] }, type := 95, pos := "dir.go:48", after := #[{ on := 5, ground := Ground.data }, { on := 3, ground := Ground.chain }, { on := 3, ground := Ground.guard }], guard := some (3, false) }) rfl (fun K hK => ?_) AllReadyH.nil)
          go_simp
          refine (HVAL.out _ HK4.out).mono ?_
          rintro e' w5 ⟨b3, m3, r3, b4, m4, r4, rfl, hrp, hb5⟩
          have HK5 : Hid (Kp No wr w5) := HK4.out.andNone (Kp.below hb5)
          have HRP : Hid (Tlv.Rep 0 w5.heap.size w5 3 (entsT D) (.slice b3 m3 r3) (.slice b4 m4 r4)) := hrp.agree (Agree.refl _ _ _) (Nat.zero_le _) (Nat.le_refl _)
          clear hb5 hrp
          go_wp2_with fail
          refine hK.out _ _ (HK5.out) (fun hh => ?_)
          clear hK K hHeld
          have hHeld := hh
          clear hh
          try simp only [Act.put, List.setIfInBounds_toArray, List.set_cons_zero, List.set_cons_succ]
          refine wpAnyH_ready (rs := [7]) (by kernel_rfl) (by simp) ?_
          refine (AllReadyH.cons (o := { dst := some 46, op := Op.call { callee := Callee.value (Operand.func 50), args := #[Operand.tmp 43, Operand.tmp 45], argTypes := #[95, 95] }, type := 4, pos := "dir.go:48", after := #[{ on := 4, ground := Ground.data }, { on := 6, ground := Ground.data }, { on := 6, ground := Ground.chain }, { on := 3, ground := Ground.guard }], guard := some (3, false) }) rfl (fun K hK => ?_) AllReadyH.nil)
          go_simp
          refine (HSM.out _ _ _ (HRV.out _ HK5.out) HRP.out).mono ?_
          rintro e' w6 ⟨rfl, hb6⟩
          have HK6 : Hid (Kp No wr w6) := HK5.out.andNone (Kp.below hb6)
          clear hb6
          go_wp2_with fail
          refine hK.out _ _ (HK6.out) (fun hh => ?_)
          clear hK K hHeld
          have hHeld := hh
          clear hh
          try simp only [Act.put, List.setIfInBounds_toArray, List.set_cons_zero, List.set_cons_succ]
          refine wpAnyH_take (i := 8) (oi := { dst := some 47, op := Op.unOp UnOp.not 4 (Operand.tmp 46), type := 4, pos := "dir.go:48", after := #[{ on := 7, ground := Ground.data }, { on := 3, ground := Ground.guard }], guard := some (3, false) }) (v := .bool (!r)) rfl (by kernel_rfl) (by kernel_rfl) (by kernel_rfl) (fun _ _ _ h => h) (Or.inl ⟨by rfl, fun w' hw' => by (clear hw'; go_simp)⟩) hHeld ?_
          simp only [Act.put, List.setIfInBounds_toArray, List.set_cons_zero, List.set_cons_succ]
          refine wpAnyH_take (i := 9) (oi := { dst := some 48, op := Op.pick (Operand.tmp 42) (Operand.const (Value.bool true)) (Operand.tmp 47), type := 4, pos := "dir.go:48", after := #[{ on := 3, ground := Ground.data }, { on := 8, ground := Ground.data }], guard := none }) (v := .bool (!r)) rfl (by kernel_rfl) (by kernel_rfl) (by kernel_rfl) (fun _ _ _ h => h) (Or.inl ⟨by rfl, fun w' hw' => by (clear hw'; go_simp)⟩) hHeld ?_
          simp only [Act.put, List.setIfInBounds_toArray, List.set_cons_zero, List.set_cons_succ]
          refine wpAnyH_done (by kernel_rfl) ?_ _
          clear hHeld
          cases r with
          | false =>
            have HA : Hid (∀ w', GDA w w' 3 bs (.returned (.tuple #[.slice none 0 0, .int .i64 3]))) := fun w' => .inr (.inl ⟨rfl, HDN.out (fun h => by cases h.2), rfl⟩)
            go_wp2_with fail
            go_ret2
            exact ⟨HA.out _, HBR.out _ HK6.out⟩
          | true =>
            have HA : Hid (∀ w', EV (fun g => w.heap.size ≤ g) w' (.slice ad k cap) D → GDA w w' 3 bs (.returned (.tuple #[.slice ad k cap, .int .i64 0]))) := fun w' h => .inr (.inr ⟨D, ad, k, cap, rfl, HDY.out (HRB.out.1 (by trivial)) rfl, rfl, h⟩)
            have HVE : Hid (EV (fun g => w.heap.size ≤ g) w6 (.slice ad k cap) D) := (HEV.out.kept HK6.out).mono (fun g hg => Nat.le_trans HBW2.out.size hg)
            go_wp2_with fail
            go_ret2
            exact ⟨HA.out _ HVE.out, HBR.out _ HK6.out⟩
end Go.Proofs.Ytenfahecnkdhaaa.Nd
end

section
/-
  hashes of entries, and Links, of the program.
-/
namespace Go.Proofs.Ytenfahecnkdhaaa.Nd
open Go.RowKit
open Tlv (Tr Agree)
open Sim (hid Kp No)
set_option linter.unusedSimpArgs false

theorem rng_hash0 {w : World} {g : Nat} {e : Ent} {cx : List Value} {hs : List Int} (h : w.rangeAt g 0 cx) (hc : entC e = cx) (hh : e.2.2 = hs) : w.rangeAt g 2 (b8 hs) := by
  subst hc
  subst hh
  simpa using rng_hash h

set_option maxHeartbeats 4000000 in
set_option maxRecDepth 100000 in
theorem ehashes_any (w : World) (v : Value) (d : List Ent) (P : Nat → Prop) (hv : EV P w v d) (hl : d.length ≤ 1000000) :
    Calls Try.prog 54 #[v] w fun e w' => ∃ a l c, e = .returned (.slice a l c) ∧ HV (fun g => w.heap.size ≤ g) w' (.slice a l c) (d.map (·.2.2)) ∧ Below w.heap.size w w' := by
  obtain ⟨a, c, rfl, h2, h3, h4, h5, h6⟩ := hv
  obtain ⟨n, hn⟩ : ∃ n, d.length = n := ⟨_, rfl⟩
  have HN := hid hn
  rw [hn] at hl ⊢
  have H6 := hid h6
  obtain ⟨D, hD⟩ : ∃ D, d.map (fun x : Ent => x.2.2) = D := ⟨_, rfl⟩
  have HD := hid hD
  rw [hD]
  have hDl : D.length = n := by rw [← hD, List.length_map, hn]
  have HDL := hid hDl
  clear hn h2 h3 h4 h5 h6 hD hDl
  go_enter Try.func54, Try.ntmps54
  go_wp2_with fail
  go_loopw [3, 8] (fun v3 v8 wr => ∃ (k : Nat) (ad : Option Addr) (cap : Nat), v3 = .slice ad k cap ∧ v8 = .int .i64 (k : Int) ∧ k ≤ n ∧ Hid (HMine w.heap.size wr (.slice ad k cap) (D.take k)) ∧ Hid (Below w.heap.size w wr)) (fun _ v8 _ => n - (intOf v8).toNat)
  case atStart => exact ⟨0, none, 0, rfl, rfl, Nat.zero_le _, HMine.nil _ _, Below.refl _ _⟩
  case round =>
    obtain ⟨k, ad, cap, rfl, rfl, hkn, HS, HB⟩ := hrel
    by_cases hlt : k < n
    · have hltI : (k : Int) < (n : Int) := by omega
      have hwk : IntKind.i64.wrap ((k : Int) + 1) = ((k + 1 : Nat) : Int) := by rw [IntKind.wrap_i64]; omega
      obtain ⟨e, he⟩ : ∃ e, d[k]? = some e := ⟨_, List.getElem?_eq_getElem (by rw [HN.out]; exact hlt)⟩
      have hDk : D[k]? = some e.2.2 := by rw [← HD.out, List.getElem?_map, he]; rfl
      have HNX : Hid (D.take (k + 1) = D.take k ++ [e.2.2]) := by rw [Hid, List.take_add_one, hDk]; rfl
      have HLK : Hid ((D.take k).length = k) := by rw [Hid, List.length_take, HDL.out]; omega
      obtain ⟨g, o, rfl, _, hr⟩ := H6.out (by intro e; have := HN.out; rw [e] at this; simp at this; omega)
      have hrow := (hr.kp (Kp.below HB.out : Kp No w wr) (fun x => x)).2 k e he
      have HX := hid hrow
      have HHO : Hid (HOk e.2.2) := ⟨hrow.1.2.1, hrow.1.2.2⟩
      obtain ⟨cx, hcx⟩ : ∃ cx, entC e = cx := ⟨_, rfl⟩
      have HI : Hid ((Try.prog.info? 70).map (·.size) = some cx.length) := by rw [Hid, ← hcx]; exact inf hrow.1
      have HRX : Hid (wr.rangeAt g (o + k * 34) cx) := by rw [← hcx]; exact hrow.2
      have hcl : cx.length = 34 := by rw [← hcx]; exact entC_length hrow.1
      have HO1 : Hid (cx.toArray.all (·.oneCell') = true) := by rw [← hcx]; exact all_oneCell_toArray (entC_one e)
      have HCX := hid hcx
      obtain ⟨hs, hhs⟩ : ∃ x, e.2.2 = x := ⟨_, rfl⟩
      have HHS := hid hhs
      rw [hhs] at HNX HHO
      have HIH : Hid ((Try.prog.info? 68).map (·.size) = some (b8 hs).length) := by rw [Hid, b8_length, HHO.out.1]; exact infH
      have HB1 := hid (fun W => run_oneH HHO.out.1 W)
      clear hcx hhs hrow hr he hDk
      go_wp2_with (first
        | (refine wpList_load_mid (by rfl) 70 _ (by rfl) g (o + k * 34) (by rfl) cx _ HRX.out Try.underlying70 rfl HI.out ?_)
        | (refine wpList_store_box (fun W => ∀ V, Kp No W V → V.rangeAt wr.heap.size 0 cx ∧ Kp No wr V) (by rfl) 70 _ _ (by rfl) wr.heap.size 0 cx.toArray (by rfl) (by rfl) (thereE wr _ _ _ (by rw [List.size_toArray, hcl]; exact Nat.le_refl _)) HI.out HO1.out (boxE wr _ cx rfl hcl) ?_; intro W1 hW1; have HW1 := hid hW1; clear hW1; have HK1 := hid (HW1.out W1 (Kp.refl _ _)).2; have HRH := hid (rng_hash0 (HW1.out W1 (Kp.refl _ _)).1 HCX.out HHS.out); obtain ⟨ad2, cap2, w4, hap, hm4, hg4⟩ := (HS.out.kp HK1.out (fun _ _ x => x)).push HLK.out HHO.out (Nat.le_trans HB.out.size HK1.out.size) (by omega) 22; have HAP := hid hap; have HM4 := hid hm4; have HG4 := hid hg4; clear hap hm4 hg4)
        | (refine wpList_load_mid (by rfl) 68 _ (by rfl) wr.heap.size 2 (by rfl) (b8 hs) _ HRH.out Try.underlying68 rfl HIH.out ?_)
        | (refine wpList_valE (by rfl) (exec_sliceE 22 _ rfl (.agg (b8 hs).toArray) _ rfl (HB1.out _)) ?_)
        | (refine wpList_valE (by rfl) (exec_appE _ _ 22 rfl (.slice ad k cap) (.slice (some ⟨W1.heap.size, 0, none⟩) 1 1) _ rfl rfl HAP.out) ?_))
      have HMF : Hid (HMine w.heap.size w4 (.slice ad2 (k + 1) cap2) (D.take (k + 1))) := by rw [HNX.out]; exact HM4.out
      have HBF : Hid (Below w.heap.size w w4) := by
        have k1 : Below w.heap.size w W1 := HB.out.trans (HK1.out.toBelow'.mono HB.out.size)
        exact (k1.alloc k1.size _).grown HG4.out (k1.alloc k1.size _).size (fun r hr => HS.out.2.1 r hr)
      go_round
      case rel => exact ⟨k + 1, ad2, cap2, rfl, by first | rfl | go_num, by omega, HMF.out, HBF.out⟩
      case measure => simp [intOf]; omega
    · have hltI : ¬ (k : Int) < (n : Int) := by omega
      have hkn' : k = n := by omega
      have HF : Hid (HV (fun g => w.heap.size ≤ g) wr (.slice ad k cap) D) := by
        have := HS.out
        rw [hkn', ← HDL.out, List.take_length] at this
        rw [Hid, hkn', ← HDL.out]
        exact this.hv
      clear hkn' HS
      go_wp2_with fail
      go_ret
      exact ⟨_, _, _, rfl, HF.out, HB.out⟩

/-- What an object names. -/
def LinkP (K0 : Int) (bs : List Int) (d : List (List Int)) (f : Int) : Prop :=
  (K0 = 1 ∧ d = [] ∧ f = if 1 ≤ bs.length ∧ bs.length ≤ 4096 then 0 else 3) ∨
  (K0 = 2 ∧ ((gfile bs = none ∧ d = [] ∧ f = 3) ∨ ∃ s, gfile bs = some (s, d) ∧ f = 0)) ∨
  (K0 = 3 ∧ (((∀ d', ¬ IsDir bs d') ∧ d = [] ∧ f = 3) ∨ ∃ d', IsDir bs d' ∧ d = d'.map (·.2.2) ∧ f = 0)) ∨
  (K0 ≠ 1 ∧ K0 ≠ 2 ∧ K0 ≠ 3 ∧ d = [] ∧ f = 1)
/-- What Links answers. -/
def LinkA (u w : World) (K0 : Int) (bs : List Int) (e : Ending) : Prop :=
  ∃ a l c d f, e = .returned (.tuple #[.slice a l c, .int .i64 f]) ∧ HV (fun g => u.heap.size ≤ g) w (.slice a l c) d ∧ LinkP K0 bs d f
theorem LinkA.nil {u w : World} {K0 : Int} {bs : List Int} {f : Int} (h : LinkP K0 bs [] f) : LinkA u w K0 bs (.returned (.tuple #[.slice none 0 0, .int .i64 f])) := ⟨none, 0, 0, [], f, rfl, HV.nil _ _, h⟩

set_option maxHeartbeats 4000000 in
set_option maxRecDepth 100000 in
theorem links_any (w : World) (K0 : Int) (v : Value) (bs : List Int) (hv : Tlv.BySl 0 w.heap.size w v bs) :
    Calls Try.prog 23 #[.agg #[.int .i64 K0, v]] w fun e w' => LinkA w w' K0 bs e ∧ Below w.heap.size w w' := by
  obtain ⟨a, c, rfl, hxx⟩ := id hv
  clear hxx
  obtain ⟨n, hn⟩ : ∃ n, bs.length = n := ⟨_, rfl⟩
  have HN := hid hn
  rw [hn] at hv ⊢
  obtain ⟨W0, hW0⟩ : ∃ W, w.alloc (.cells #[.int .i64 K0, .slice a n c] 31) = W := ⟨_, rfl⟩
  have HB0 : Hid (Below w.heap.size w W0) := by rw [Hid, ← hW0]; exact (Below.refl _ _).alloc (Nat.le_refl _) _
  have hbox : W0.cell? ⟨w.heap.size, 0, none⟩ = some (.int .i64 K0) ∧ W0.cell? ⟨w.heap.size, 1, none⟩ = some (.slice a n c) := by rw [← hW0]; simp [go_sem]
  have HBY : Hid (Tlv.BySl 0 W0.heap.size W0 (.slice a n c) bs) := hv.agree (Agree.below HB0.out) (Nat.le_refl _) HB0.out.size
  have HGF := hid (getFile_any W0 K0 (.slice a n c) bs HBY.out)
  have HGD := hid (getDir_any W0 K0 (.slice a n c) bs HBY.out)
  clear hv hn
  obtain ⟨hx0, hx1⟩ := hbox
  by_cases h1 : K0 = 1
  · subst h1
    have HCR := hid (chunkRight_any W0 a n c)
    cases hq : decide (1 ≤ n ∧ n ≤ 4096) with
    | true =>
      rw [hq] at HCR
      have HA : Hid (∀ w', LinkA w w' 1 bs (.returned (.tuple #[.slice none 0 0, .int .i64 0]))) := fun w' => LinkA.nil (.inl ⟨rfl, rfl, by rw [HN.out, if_pos (by simpa using hq)]⟩)
      clear hq
      go_enter Try.func23, Try.ntmps23
      go_wp2_with fail
      refine HCR.out.mono ?_
      rintro e w1 ⟨rfl, hw1⟩
      subst hw1
      go_wp2_with fail
      go_ret2
      exact ⟨HA.out _, HB0.out⟩
    | false =>
      rw [hq] at HCR
      have HA : Hid (∀ w', LinkA w w' 1 bs (.returned (.tuple #[.slice none 0 0, .int .i64 3]))) := fun w' => LinkA.nil (.inl ⟨rfl, rfl, by rw [HN.out, if_neg (by simpa using hq)]⟩)
      clear hq
      go_enter Try.func23, Try.ntmps23
      go_wp2_with fail
      refine HCR.out.mono ?_
      rintro e w1 ⟨rfl, hw1⟩
      subst hw1
      go_wp2_with fail
      go_ret2
      exact ⟨HA.out _, HB0.out⟩
  · have h1b : (K0 == 1) = false := by simpa using h1
    by_cases h2 : K0 = 2
    · subst h2
      go_enter Try.func23, Try.ntmps23
      go_wp2_with fail
      refine HGF.out.mono ?_
      rintro e w2 ⟨hres, hb2⟩
      have HB2 : Hid (Below w.heap.size w w2) := HB0.out.trans (hb2.mono HB0.out.size)
      have HZ := HB0.out.size
      clear hb2 hW0
      rcases hres with ⟨hk, _⟩ | ⟨_, hno, rfl⟩ | ⟨s, d, ax, lx, cx, _, hyes, rfl, hhv⟩
      · exact absurd rfl hk
      · unfold zFil
        have HA : Hid (∀ w', LinkA w w' 2 bs (.returned (.tuple #[.slice none 0 0, .int .i64 3]))) := fun w' => LinkA.nil (.inr (.inl ⟨rfl, .inl ⟨hno, rfl, rfl⟩⟩))
        clear hno
        go_wp2_with fail
        go_ret2
        exact ⟨HA.out _, HB2.out.alloc HB2.out.size _⟩
      · have HA : Hid (∀ w', HV (fun g => w.heap.size ≤ g) w' (.slice ax lx cx) d → LinkA w w' 2 bs (.returned (.tuple #[.slice ax lx cx, .int .i64 0]))) := fun w' h => ⟨ax, lx, cx, d, 0, rfl, h, .inr (.inl ⟨rfl, .inr ⟨s, hyes, rfl⟩⟩)⟩
        have HH := hid (hhv.imp (fun g hg => Nat.le_trans HZ hg.2) : HV (fun g => w.heap.size ≤ g) w2 (.slice ax lx cx) d)
        clear hyes hhv
        go_wp2_with fail
        go_ret2
        exact ⟨HA.out _ (HH.out.kept ((Kp.refl No w2).alloc _)), HB2.out.alloc HB2.out.size _⟩
    · have h2b : (K0 == 2) = false := by simpa using h2
      by_cases h3 : K0 = 3
      · subst h3
        go_enter Try.func23, Try.ntmps23
        go_wp2_with fail
        refine HGD.out.mono ?_
        rintro e w2 ⟨hres, hb2⟩
        have HB2 : Hid (Below w.heap.size w w2) := HB0.out.trans (hb2.mono HB0.out.size)
        clear hb2 hW0
        rcases hres with ⟨hk, _⟩ | ⟨_, hno, rfl⟩ | ⟨d, ax, lx, cx, _, hyes, rfl, hev⟩
        · exact absurd rfl hk
        · have HEH := hid (ehashes_any w2 _ [] (fun _ => True) (EV.nil _ _) (by simp))
          have HA : Hid (∀ w' a l c, HV (fun g => w2.heap.size ≤ g) w' (.slice a l c) [] → LinkA w w' 3 bs (.returned (.tuple #[.slice a l c, .int .i64 3]))) := fun w' a l c h => ⟨a, l, c, [], 3, rfl, h.imp (fun g hg => Nat.le_trans HB2.out.size hg), .inr (.inr (.inl ⟨rfl, .inl ⟨hno, rfl, rfl⟩⟩))⟩
          clear hno
          go_wp2_with fail
          refine HEH.out.mono ?_
          rintro e w3 ⟨ay, ly, cy, rfl, hh, hb3⟩
          have HH := hid hh
          have HB3 : Hid (Below w.heap.size w w3) := HB2.out.trans (hb3.mono HB2.out.size)
          clear hh hb3
          go_wp2_with fail
          go_ret2
          exact ⟨HA.out _ _ _ _ HH.out, HB3.out⟩
        · have hdl : d.length ≤ 1000000 := by
            obtain ⟨t, _, hg, rfl⟩ := hyes
            exact Nat.le_trans hg.2.1.1 (by omega)
          have HEH := hid (ehashes_any w2 _ d _ hev hdl)
          have HA : Hid (∀ w' a l c, HV (fun g => w2.heap.size ≤ g) w' (.slice a l c) (d.map (·.2.2)) → LinkA w w' 3 bs (.returned (.tuple #[.slice a l c, .int .i64 0]))) := fun w' a l c h => ⟨a, l, c, _, 0, rfl, h.imp (fun g hg => Nat.le_trans HB2.out.size hg), .inr (.inr (.inl ⟨rfl, .inr ⟨d, hyes, rfl, rfl⟩⟩))⟩
          clear hyes hev hdl
          go_wp2_with fail
          refine HEH.out.mono ?_
          rintro e w3 ⟨ay, ly, cy, rfl, hh, hb3⟩
          have HH := hid hh
          have HB3 : Hid (Below w.heap.size w w3) := HB2.out.trans (hb3.mono HB2.out.size)
          clear hh hb3
          go_wp2_with fail
          go_ret2
          exact ⟨HA.out _ _ _ _ HH.out, HB3.out⟩
      · have h3b : (K0 == 3) = false := by simpa using h3
        have HA : Hid (∀ w', LinkA w w' K0 bs (.returned (.tuple #[.slice none 0 0, .int .i64 1]))) := fun w' => LinkA.nil (.inr (.inr (.inr ⟨h1, h2, h3, rfl, rfl⟩)))
        go_enter Try.func23, Try.ntmps23
        go_wp2_with fail
        go_ret2
        exact ⟨HA.out _, HB0.out⟩
end Go.Proofs.Ytenfahecnkdhaaa.Nd
end

section
/-
  Plain mathematics: what is put is got, and what is got is put again.
-/
namespace Go.Proofs.Ytenfahecnkdhaaa.Nd
open Go.RowKit
open Tlv (Tr Agree)
open Sim (hid Kp No)
set_option linter.unusedSimpArgs false

theorem lszGo_same {n m : Nat} (hs : ∀ (t : Tr n) (u : Tr m) (room deep : Int), Tlv.sameT n t m u = true → Tlv.bsz m u room deep = Tlv.bsz n t room deep) (room deep : Int) : ∀ (ts : List (Tr n)) (us : List (Tr m)) (acc : Int), Tlv.sameL (fun a b => Tlv.sameT n a m b) ts us = true → Tlv.lszGo (Tlv.bsz m) room deep acc us = Tlv.lszGo (Tlv.bsz n) room deep acc ts
  | [], [], _, _ => rfl
  | [], _ :: _, _, h => by simp [Tlv.sameL] at h
  | _ :: _, [], _, h => by simp [Tlv.sameL] at h
  | t :: ts, u :: us, acc, h => by
    simp only [Tlv.sameL, Bool.and_eq_true] at h
    simp only [Tlv.lszGo]
    rw [hs t u _ _ h.1]
    split
    · exact lszGo_same hs room deep ts us _ h.2
    · rfl
theorem sameT_bsz : ∀ (n : Nat) (t : Tr n) (m : Nat) (u : Tr m) (room deep : Int), Tlv.sameT n t m u = true → Tlv.bsz m u room deep = Tlv.bsz n t room deep
  | 0, t, _, _, _, _, _ => by cases t
  | _ + 1, _, 0, u, _, _, _ => by cases u
  | n + 1, t, m + 1, u, room, deep, h => by
    simp only [Tlv.sameT, Bool.and_eq_true, decide_eq_true_eq] at h
    have hl := Tlv.sameL_len h.2
    have hk : Tlv.lsz (Tlv.bsz m) u.kd room deep = Tlv.lsz (Tlv.bsz n) t.kd room deep := by
      unfold Tlv.lsz
      rw [lszGo_same (fun a b r d hab => sameT_bsz n a m b r d hab) room deep t.kd u.kd 0 h.2]
    simp only [Tlv.bsz]
    rw [← h.1, hl, hk]
theorem sameT_obj {t : Tr 9} {u : Tr 3} (h : Tlv.sameT 9 t 3 u = true) (hz : Tlv.szT 9 t ≠ 0) : Tlv.szT 3 u ≠ 0 := by
  unfold Tlv.szT at hz ⊢
  rw [sameT_bsz 9 t 3 u _ _ h]
  exact hz

theorem form_get {t : Tr 3} (hn : Tlv.NumOk 3 t) (h : objP t) : ∃ t9, bodyT (Tlv.formOf 3 t) = some t9 ∧ Tlv.sameT 9 t9 3 t = true := by
  obtain ⟨t9, h1, h2⟩ := Tlv.form_rd 3 8 t 65535 [] hn (by omega) (Tlv.szT_right h.1)
  rw [List.append_nil] at h1
  refine ⟨t9, ?_, h2⟩
  rw [bodyT, if_pos h.2, Tlv.getT, h1]
  simp
theorem numOk_leaf {tag q : Int} {bs : List Int} (h : 0 ≤ q ∧ q ≤ 18446744073709551615) : Tlv.NumOk 1 (Tr.mk tag q bs []) :=
  ⟨h.1, h.2, fun k hk => by cases hk⟩
theorem numOk_file {s : Int} {d : List (List Int)} (h : 0 ≤ s ∧ s ≤ 2000) : Tlv.NumOk 3 (fileT s d) := by
  refine ⟨by simp [fileT, Tr.mk, Tlv.Tr.hd], by simp [fileT, Tr.mk, Tlv.Tr.hd], fun k hk => ?_⟩
  have hk' : k ∈ [(Tr.mk 1 s [] [] : Tr 2), Tr.mk 3 0 [] (d.map hashT)] := hk
  rcases List.mem_cons.1 hk' with rfl | hk'
  · exact ⟨h.1, by show s ≤ _; omega, fun k hk => by cases hk⟩
  · have hk2 := List.mem_singleton.1 hk'
    subst hk2
    refine ⟨by simp [Tr.mk, Tlv.Tr.hd], by simp [Tr.mk, Tlv.Tr.hd], fun k hk => ?_⟩
    have hk3 : k ∈ d.map hashT := hk
    obtain ⟨x, _, rfl⟩ := List.mem_map.1 hk3
    exact numOk_leaf (by omega)
theorem same_hashes : ∀ (ks : List (Tr 7)) (d : List (List Int)), (∀ h ∈ d, HOk h) → Tlv.sameL (fun a b => Tlv.sameT 7 a 1 b) ks (d.map hashT) = true → kidsH ks = d
  | [], [], _, _ => rfl
  | [], _ :: _, _, h => by simp [Tlv.sameL] at h
  | _ :: _, [], _, h => by simp [Tlv.sameL] at h
  | k :: ks, e :: d, hd, h => by
    simp only [List.map_cons, Tlv.sameL, Tlv.sameT, Bool.and_eq_true, decide_eq_true_eq] at h
    have h1 : k.hd.2.2 = e := by rw [h.1.1]; rfl
    simp only [kidsH, List.map_cons]
    rw [h1, h32_same (hd e (by simp)).1]
    congr 1
    exact same_hashes ks d (fun x hx => hd x (by simp [hx])) h.2
theorem sameL_two {α β : Type} {f : α → β → Bool} {xs : List α} {b c : β} (h : Tlv.sameL f xs [b, c] = true) : ∃ x y, xs = [x, y] ∧ f x b = true ∧ f y c = true := by
  match xs, h with
  | [x, y], h =>
    simp only [Tlv.sameL, Bool.and_eq_true] at h
    exact ⟨x, y, rfl, h.1, h.2.1⟩
  | [], h => simp [Tlv.sameL] at h
  | [_], h => simp [Tlv.sameL] at h
  | _ :: _ :: _ :: _, h => simp [Tlv.sameL] at h
theorem sameL_three {α β : Type} {f : α → β → Bool} {xs : List α} {b c e : β} (h : Tlv.sameL f xs [b, c, e] = true) : ∃ x y z, xs = [x, y, z] ∧ f x b = true ∧ f y c = true ∧ f z e = true := by
  match xs, h with
  | [x, y, z], h =>
    simp only [Tlv.sameL, Bool.and_eq_true] at h
    exact ⟨x, y, z, rfl, h.1, h.2.1, h.2.2.1⟩
  | [], h => simp [Tlv.sameL] at h
  | [_], h => simp [Tlv.sameL] at h
  | [_, _], h => simp [Tlv.sameL] at h
  | _ :: _ :: _ :: _ :: _, h => simp [Tlv.sameL] at h
theorem same_file {t : Tr 9} {s : Int} {d : List (List Int)} (h : Tlv.sameT 9 t 3 (fileT s d) = true) (hd : ∀ h ∈ d, HOk h) (hs : 0 ≤ s ∧ s ≤ 2000) : ∃ t0 t1, t.kd = [t0, t1] ∧ wrap64 t0.hd.2.1 = s ∧ kidsH t1.kd = d := by
  simp only [Tlv.sameT, Bool.and_eq_true, decide_eq_true_eq, fileT, Tr.mk, Tlv.Tr.kd] at h
  obtain ⟨x, y, hk, h1, h2⟩ := sameL_two h.2
  simp only [Tlv.sameT, Bool.and_eq_true, decide_eq_true_eq] at h1 h2
  refine ⟨x, y, hk, ?_, same_hashes _ _ hd h2.2⟩
  have : x.hd.2.1 = s := by rw [h1.1]; rfl
  rw [this]
  exact IntWalk.wrap64_in _ ⟨by omega, by omega⟩
/-- What is put is got. -/
theorem gfile_form {s : Int} {d : List (List Int)} (hf : fileB s d.length = true) (ho : objP (fileT s d)) (hd : ∀ h ∈ d, HOk h) : gfile (Tlv.formOf 3 (fileT s d)) = some (s, d) := by
  have hs : 0 ≤ s ∧ s ≤ 2000 := by
    unfold fileB at hf
    simp only [decide_eq_true_eq] at hf
    exact ⟨hf.1, hf.2.1⟩
  obtain ⟨t9, h1, h2⟩ := form_get (numOk_file hs) ho
  obtain ⟨t0, t1, h3, h4, h5⟩ := same_file h2 hd hs
  rw [gfile, h1]
  simp only [h3, h4, h5, hf, h2, Bool.and_self, if_true]
/-- What is got is put again. -/
theorem gfile_back {bs : List Int} {s : Int} {d : List (List Int)} (hb : ∀ x ∈ bs, 0 ≤ x ∧ x ≤ 255) (h : gfile bs = some (s, d)) : fileB s d.length = true ∧ objP (fileT s d) ∧ Tlv.formOf 3 (fileT s d) = bs := by
  unfold gfile at h
  split at h
  · cases h
  · rename_i t ht
    split at h
    · rename_i t0 t1 hk
      split at h
      · rename_i hc
        simp only [Option.some.injEq, Prod.mk.injEq] at h
        obtain ⟨h1, h2⟩ := h
        rw [h1, h2] at hc
        simp only [Bool.and_eq_true] at hc
        have hT := ht
        unfold bodyT at ht
        split at ht
        · rename_i hl
          obtain ⟨h3, h4⟩ := Tlv.get_form hb ht
          have h5 := Tlv.sameT_form 9 t 3 (fileT s d) hc.2
          rw [h4] at h5
          exact ⟨hc.1, ⟨sameT_obj hc.2 h3, by rw [← h5]; exact hl⟩, h5.symm⟩
        · cases ht
      · cases h
    · cases h

theorem isDir_back {bs : List Int} {d : List Ent} (hb : ∀ x ∈ bs, 0 ≤ x ∧ x ≤ 255) (h : IsDir bs d) : RightP d ∧ objP (entsT d) ∧ Tlv.formOf 3 (entsT d) = bs := by
  obtain ⟨t, ht, hg, rfl⟩ := h
  unfold bodyT at ht
  split at ht
  · rename_i hl
    obtain ⟨h3, h4⟩ := Tlv.get_form hb ht
    have h5 := Tlv.sameT_form 9 t 3 _ hg.2.2
    rw [h4] at h5
    exact ⟨hg.2.1, ⟨sameT_obj hg.2.2 h3, by rw [← h5]; exact hl⟩, h5.symm⟩
  · cases ht
theorem isDir_one {bs : List Int} {d d' : List Ent} (h : IsDir bs d) (h' : IsDir bs d') : d = d' := by
  obtain ⟨t, ht, _, rfl⟩ := h
  obtain ⟨t', ht', _, rfl⟩ := h'
  rw [ht] at ht'
  cases ht'
  rfl
end Go.Proofs.Ytenfahecnkdhaaa.Nd
end

section
/-
  Plain mathematics: files and entries that are light have forms.
-/
namespace Go.Proofs.Ytenfahecnkdhaaa.Nd
open Go.RowKit
open Tlv (Tr)
set_option linter.unusedSimpArgs false

/-- A tree that takes at most so much. -/
def Fit (n : Nat) (t : Tr n) (M : Nat) (deep : Int) : Prop := (Tlv.bodyOf n t).length ≤ M ∧ ∀ room : Int, (M : Int) ≤ room → (Tlv.bsz n t room deep).2 = true
theorem fit_bytes {n : Nat} {bs : List Int} {M : Nat} {deep : Int} (h : bs.length ≤ M) : Fit (n + 1) (Tr.mk 2 0 bs []) M deep := by
  refine ⟨?_, fun room hr => ?_⟩
  · simp only [Tlv.bodyOf, Tr.mk, Tlv.Tr.hd]
    simpa using h
  · rw [Tlv.bsz_2 bs room deep (by omega)]
    simp
    omega
theorem nsz_le (q : Int) : 0 ≤ Tlv.nsz q ∧ Tlv.nsz q ≤ 8 := by
  have := Tlv.bitLen_le64 q.toNat
  unfold Tlv.nsz
  omega
theorem fit_num {n : Nat} {q : Int} {M : Nat} {deep : Int} (h : 8 ≤ M) : Fit (n + 1) (Tr.mk 1 q [] []) M deep := by
  have h1 := nsz_le q
  refine ⟨?_, fun room hr => ?_⟩
  · have : Tlv.bodyOf (n + 1) (Tr.mk 1 q [] []) = Tlv.numB (Tlv.nsz q).toNat q := by simp [Tlv.bodyOf, Tr.mk, Tlv.Tr.hd]
    rw [this, Tlv.numB_length]
    omega
  · rw [Tlv.bsz_1 q room deep (by omega)]
    simp
    omega
theorem lszGo_fit {n : Nat} {M : Nat} (room deep : Int) : ∀ (ks : List (Tr n)) (acc : Int), (∀ k ∈ ks, Fit n k M (deep - 1)) → acc + (ks.length : Int) * ((M : Int) + 3) ≤ room → (Tlv.lszGo (Tlv.bsz n) room deep acc ks).2 = true
  | [], _, _, _ => rfl
  | k :: ks, acc, h, hr => by
    have hk := h k (by simp)
    simp only [List.length_cons, Int.natCast_add, Int.add_mul, Int.one_mul, Int.natCast_one] at hr
    have hnn : (0 : Int) ≤ (ks.length : Int) * ((M : Int) + 3) := Int.mul_nonneg (by omega) (by omega)
    have h1 := hk.2 (room - acc - 3) (by omega)
    simp only [Tlv.lszGo]
    rw [if_pos h1]
    refine lszGo_fit room deep ks _ (fun x hx => h x (by simp [hx])) ?_
    rw [Tlv.bsz_len n k _ _ h1]
    have := hk.1
    omega
theorem fit_flat {n M : Nat} {deep : Int} : ∀ (ks : List (Tr n)), (∀ k ∈ ks, Fit n k M deep) → ((ks.map (Tlv.formOf n)).flatten).length ≤ ks.length * (M + 3)
  | [], _ => by simp
  | k :: ks, h => by
    have h1 := (h k (by simp)).1
    have h2 := fit_flat ks (fun x hx => h x (by simp [hx]))
    simp only [List.map_cons, List.flatten_cons, List.length_append, List.length_cons, Nat.add_mul, Nat.one_mul]
    have : (Tlv.formOf n k).length = 3 + (Tlv.bodyOf n k).length := by simp [Tlv.formOf]; omega
    omega
theorem fit_list {n M M' : Nat} {ks : List (Tr n)} {deep : Int} (hd : deep ≠ 0) (h : ∀ k ∈ ks, Fit n k M (deep - 1)) (hm : ks.length * (M + 3) ≤ M') : Fit (n + 1) (Tr.mk 3 0 [] ks) M' deep := by
  refine ⟨?_, fun room hr => ?_⟩
  · rw [Tlv.bodyOf_kids rfl]
    exact Nat.le_trans (fit_flat ks h) hm
  · rw [Tlv.bsz_3 ks room deep (by omega)]
    unfold Tlv.lsz
    rw [if_neg hd]
    have h3 : ((ks.length * (M + 3) : Nat) : Int) = (ks.length : Int) * ((M : Int) + 3) := by
      rw [Int.natCast_mul, Int.natCast_add]
      rfl
    have h4 : ((ks.length * (M + 3) : Nat) : Int) ≤ (M' : Int) := Int.ofNat_le.2 hm
    rw [h3] at h4
    refine lszGo_fit room deep ks 0 h ?_
    rw [Int.zero_add]
    exact Int.le_trans h4 hr
theorem fit_sz {t : Tr 3} {M : Nat} (h : Fit 3 t M 8) (hm : M ≤ 65535) : Tlv.szT 3 t ≠ 0 := by
  have h1 := h.2 65535 (by omega)
  rw [Tlv.szT, if_pos h1, Tlv.bsz_len _ _ _ _ h1]
  omega
theorem sz_file {s : Int} {d : List (List Int)} (hd : ∀ h ∈ d, HOk h) (hl : d.length ≤ 300) : Tlv.szT 3 (fileT s d) ≠ 0 := by
  refine fit_sz (M := 30000) (fit_list (M := 10500) (by omega) (fun k hk => ?_) (by simp)) (by omega)
  rcases List.mem_cons.1 hk with rfl | hk
  · exact fit_num (by omega)
  · have hk2 := List.mem_singleton.1 hk
    subst hk2
    refine fit_list (M := 32) (by omega) (fun x hx => ?_) (by simp; omega)
    obtain ⟨h, hh, rfl⟩ := List.mem_map.1 hx
    exact fit_bytes (by rw [(hd h hh).1]; exact Nat.le_refl _)
theorem sz_ents {d : List Ent} (hd : ∀ e ∈ d, EOk e) (hl : d.length ≤ 100) (hn : ∀ e ∈ d, e.1.length ≤ 100) : Tlv.szT 3 (entsT d) ≠ 0 := by
  refine fit_sz (M := 40000) (fit_list (M := 309) (by omega) (fun k hk => ?_) (by simp; omega)) (by omega)
  obtain ⟨e, he, rfl⟩ := List.mem_map.1 hk
  refine fit_list (M := 100) (by omega) (fun x hx => ?_) (by simp)
  rcases List.mem_cons.1 hx with rfl | hx
  · exact fit_bytes (hn e he)
  · rcases List.mem_cons.1 hx with rfl | hx
    · exact fit_num (by omega)
    · have hx2 := List.mem_singleton.1 hx
      subst hx2
      exact fit_bytes (by rw [(hd e he).2.1]; omega)
end Go.Proofs.Ytenfahecnkdhaaa.Nd
end

section
/-
  Plain mathematics: what the document reads out of a Body is what the program reads.
-/
namespace Go.Proofs.Ytenfahecnkdhaaa.Nd
open Go.RowKit
open Tlv (Tr Rt)
set_option linter.unusedSimpArgs false

theorem Rt_oe {n : Nat} {t : Tr (n + 1)} {room : Int} (h : Rt (n + 1) t room) : (t.hd.1 = 1 ∨ t.hd.2.1 = 0) ∧ (t.hd.1 = 2 ∨ t.hd.2.2.length = 0) ∧ (t.hd.1 = 3 ∨ t.kd.length = 0) := by
  obtain ⟨deep, h⟩ := h
  simp only [Tlv.bsz] at h
  split at h
  · simp at h
  · rename_i h1
    have h2 : Tlv.oeB t.hd.1 t.hd.2.1 t.hd.2.2.length t.kd.length = true := by
      cases hb : Tlv.oeB t.hd.1 t.hd.2.1 t.hd.2.2.length t.kd.length with
      | true => rfl
      | false => exact absurd (.inr hb) h1
    exact Tlv.oeB_iff.1 h2
theorem hd_ext {n : Nat} {t : Tr n} {a b : Int} {c : List Int} (h1 : t.hd.1 = a) (h2 : t.hd.2.1 = b) (h3 : t.hd.2.2 = c) : t.hd = (a, b, c) := by
  rw [← h1, ← h2, ← h3]
theorem oe_list {n : Nat} {t : Tr (n + 1)} {room : Int} (h : Rt (n + 1) t room) (h3 : t.hd.1 = 3) : t.hd = (3, 0, []) := by
  have := Rt_oe h
  exact hd_ext h3 (by rcases this.1 with h | h; omega; exact h) (List.length_eq_zero_iff.1 (by rcases this.2.1 with h | h; omega; exact h))
theorem oe_num {n : Nat} {t : Tr (n + 1)} {room : Int} (h : Rt (n + 1) t room) (h3 : t.hd.1 = 1) : t.hd = (1, t.hd.2.1, []) ∧ t.kd = [] := by
  have := Rt_oe h
  exact ⟨hd_ext h3 rfl (List.length_eq_zero_iff.1 (by rcases this.2.1 with h | h; omega; exact h)), List.length_eq_zero_iff.1 (by rcases this.2.2 with h | h; omega; exact h)⟩
theorem oe_bytes {n : Nat} {t : Tr (n + 1)} {room : Int} (h : Rt (n + 1) t room) (h3 : t.hd.1 = 2) : t.hd = (2, 0, t.hd.2.2) ∧ t.kd = [] := by
  have := Rt_oe h
  exact ⟨hd_ext h3 (by rcases this.1 with h | h; omega; exact h) rfl, List.length_eq_zero_iff.1 (by rcases this.2.2 with h | h; omega; exact h)⟩
theorem sameT_mk {n m : Nat} {t : Tr (n + 1)} {u : Tr (m + 1)} (h1 : t.hd = u.hd) (h2 : Tlv.sameL (fun a b => Tlv.sameT n a m b) t.kd u.kd = true) : Tlv.sameT (n + 1) t (m + 1) u = true := by
  simp only [Tlv.sameT, h1, decide_true, Bool.true_and]
  exact h2
theorem sameT_parts {n m : Nat} {t : Tr (n + 1)} {u : Tr (m + 1)} (h : Tlv.sameT (n + 1) t (m + 1) u = true) : t.hd = u.hd ∧ Tlv.sameL (fun a b => Tlv.sameT n a m b) t.kd u.kd = true := by
  simp only [Tlv.sameT, Bool.and_eq_true, decide_eq_true_eq] at h
  exact h

/-- What the document reads: a file. -/
def DocF (t : Tr 9) (s : Int) (d : List (List Int)) : Prop :=
  t.hd.1 = 3 ∧ ∃ t0 t1, t.kd = [t0, t1] ∧ t0.hd.1 = 1 ∧ t0.hd.2.1 = s ∧ s ≤ 1000000 ∧ t1.hd.1 = 3 ∧ (∀ k ∈ t1.kd, k.hd.1 = 2 ∧ k.hd.2.2.length = 32) ∧ t1.kd.map (fun k => k.hd.2.2) = d
theorem hashes_same {room : Int} : ∀ (ks : List (Tr 7)), (∀ k ∈ ks, k.hd.1 = 2 ∧ k.hd.2.2.length = 32) → (∀ k ∈ ks, ∃ r, r ≤ room ∧ Rt 7 k r) → Tlv.sameL (fun a b => Tlv.sameT 7 a 1 b) ks ((ks.map fun k => k.hd.2.2).map hashT) = true
  | [], _, _ => rfl
  | k :: ks, h, hr => by
    obtain ⟨r, _, hk⟩ := hr k (by simp)
    obtain ⟨h1, h2⟩ := oe_bytes hk (h k (by simp)).1
    simp only [List.map_cons, Tlv.sameL, Bool.and_eq_true]
    refine ⟨sameT_mk h1 ?_, hashes_same ks (fun x hx => h x (by simp [hx])) (fun x hx => hr x (by simp [hx]))⟩
    rw [h2]
    rfl
theorem docF_same {t : Tr 9} {s : Int} {d : List (List Int)} {room : Int} (ht : Rt 9 t room) (h : DocF t s d) : Tlv.sameT 9 t 3 (fileT s d) = true := by
  obtain ⟨h3, t0, t1, hk, h4, h5, h6, h7, h8, rfl⟩ := h
  have hc := (Rt_count ht).2
  obtain ⟨r0, _, hr0⟩ := hc t0 (by rw [hk]; simp)
  obtain ⟨r1, _, hr1⟩ := hc t1 (by rw [hk]; simp)
  refine sameT_mk (oe_list ht h3) ?_
  rw [hk]
  obtain ⟨e0, k0⟩ := oe_num hr0 h4
  rw [h5] at e0
  have q0 : Tlv.sameT 8 t0 2 (Tr.mk 1 s [] []) = true := sameT_mk e0 (by rw [k0]; rfl)
  have q1 : Tlv.sameT 8 t1 2 (Tr.mk 3 0 [] ((t1.kd.map fun k => k.hd.2.2).map hashT)) = true := sameT_mk (oe_list hr1 h7) (hashes_same t1.kd h8 (Rt_count hr1).2)
  show Tlv.sameL _ [t0, t1] [(Tr.mk 1 s [] [] : Tr 2), Tr.mk 3 0 [] ((t1.kd.map fun k => k.hd.2.2).map hashT)] = true
  simp only [Tlv.sameL, q0, q1, Bool.and_self]
theorem getT_Rt {bs : List Int} {t : Tr 9} (hb : ∀ x ∈ bs, 0 ≤ x ∧ x ≤ 255) (h : Tlv.getT bs = some t) : Rt 9 t 65535 := ⟨8, Tlv.szT_right (Tlv.get_form hb h).1⟩
theorem docF_ok {bs : List Int} {t : Tr 9} {s : Int} {d : List (List Int)} (hb : ∀ x ∈ bs, 0 ≤ x ∧ x ≤ 255) (hg : Tlv.getT bs = some t) (h : DocF t s d) : ∀ x ∈ d, HOk x := by
  obtain ⟨_, t0, t1, hk, _, _, _, _, h8, rfl⟩ := h
  intro x hx
  obtain ⟨k, hkk, rfl⟩ := List.mem_map.1 hx
  refine ⟨(h8 k hkk).2, ?_⟩
  have hr := getT_Rt hb hg
  obtain ⟨h1, h2⟩ := Tlv.get_form hb hg
  -- a byte of a leaf is a byte of the form
  have form_sub : ∀ {n : Nat} {u : Tr (n + 1)} {v : Tr n}, u.hd.1 = 3 → v ∈ u.kd → ∀ y ∈ Tlv.formOf n v, y ∈ Tlv.bodyOf (n + 1) u := fun {n u v} h3 hv y hy => by
    rw [Tlv.bodyOf_kids h3]
    exact List.mem_flatten.2 ⟨_, List.mem_map.2 ⟨v, hv, rfl⟩, hy⟩
  have body_form : ∀ {n : Nat} {u : Tr n} {y : Int}, y ∈ Tlv.bodyOf n u → y ∈ Tlv.formOf n u := fun hy => by simp [Tlv.formOf, hy]
  intro y hy
  have hl : Tlv.bodyOf 7 k = k.hd.2.2 := by
    simp only [Tlv.bodyOf]
    rw [if_neg (by rw [(h8 k hkk).1]; omega), if_pos (h8 k hkk).1]
  have y1 : y ∈ Tlv.formOf 7 k := body_form (by rw [hl]; exact hy)
  rename_i h3 h4 h5 h6 h7
  have y2 : y ∈ Tlv.formOf 8 t1 := body_form (form_sub h7 hkk y y1)
  have y3 : y ∈ Tlv.formOf 9 t := body_form (form_sub h3 (by rw [hk]; simp) y y2)
  rw [h2] at y3
  exact hb y y3
/-- What the document takes for a file the program takes for it. -/
theorem docF_yes {bs : List Int} {t : Tr 9} {s : Int} {d : List (List Int)} (hb : ∀ x ∈ bs, 0 ≤ x ∧ x ≤ 255) (hg : Tlv.getT bs = some t) (h : DocF t s d) (hf : fileB s d.length = true) (ho : objP (fileT s d)) : gfile bs = some (s, d) := by
  have hs := docF_same (getT_Rt hb hg) h
  have hok := docF_ok hb hg h
  have e := Tlv.sameT_form 9 t 3 _ hs
  rw [(Tlv.get_form hb hg).2] at e
  rw [e]
  exact gfile_form hf ho hok
theorem docF_no {bs : List Int} {s : Int} {d : List (List Int)} (hb : ∀ x ∈ bs, 0 ≤ x ∧ x ≤ 255) (h : gfile bs = some (s, d)) : ∃ t, Tlv.getT bs = some t ∧ DocF t s d ∧ fileB s d.length = true ∧ objP (fileT s d) := by
  obtain ⟨hf, ho, hfm⟩ := gfile_back hb h
  have h' := h
  unfold gfile at h
  split at h
  · cases h
  · rename_i t ht
    have hg : Tlv.getT bs = some t := by
      unfold bodyT at ht
      split at ht
      · exact ht
      · cases ht
    split at h
    · rename_i t0 t1 hk
      split at h
      · rename_i hc
        simp only [Option.some.injEq, Prod.mk.injEq] at h
        obtain ⟨e1, e2⟩ := h
        simp only [Bool.and_eq_true] at hc
        have hsame := hc.2
        rw [e1, e2] at hsame
        obtain ⟨q1, q2⟩ := sameT_parts hsame
        rw [hk] at q2
        obtain ⟨x, y, hxy, q3, q4⟩ := sameL_two (b := (Tr.mk 1 s [] [] : Tr 2)) (c := (Tr.mk 3 0 [] (d.map hashT) : Tr 2)) q2
        simp only [List.cons.injEq, and_true] at hxy
        obtain ⟨rfl, rfl⟩ := hxy
        obtain ⟨q5, _⟩ := sameT_parts q3
        obtain ⟨q6, q7⟩ := sameT_parts q4
        have hs : 0 ≤ s ∧ s ≤ 2000 := by
          unfold fileB at hf
          simp only [decide_eq_true_eq] at hf
          exact ⟨hf.1, hf.2.1⟩
        have hkids : ∀ (ks : List (Tr 7)) (d : List (List Int)), Tlv.sameL (fun a b => Tlv.sameT 7 a 1 b) ks (d.map hashT) = true → (∀ k ∈ ks, k.hd.1 = 2) ∧ ks.map (fun k => k.hd.2.2) = d := by
          intro ks
          induction ks with
          | nil => intro d hd; cases d with
            | nil => exact ⟨by simp, rfl⟩
            | cons _ _ => simp [Tlv.sameL] at hd
          | cons k ks ih =>
            intro d hd
            cases d with
            | nil => simp [Tlv.sameL] at hd
            | cons e d =>
              simp only [List.map_cons, Tlv.sameL, Bool.and_eq_true] at hd
              obtain ⟨p1, _⟩ := sameT_parts hd.1
              obtain ⟨p2, p3⟩ := ih d hd.2
              refine ⟨fun x hx => ?_, by rw [List.map_cons, p3, p1]; rfl⟩
              rcases List.mem_cons.1 hx with rfl | hx
              · rw [p1]; rfl
              · exact p2 x hx
        obtain ⟨z1, z2⟩ := hkids t1.kd d q7
        have hlen : ∀ k ∈ t1.kd, k.hd.2.2.length = 32 := fun k hkk => by
          have : h32 k.hd.2.2 ∈ d := by
            rw [← e2]
            exact List.mem_map.2 ⟨k, hkk, rfl⟩
          have h2 : k.hd.2.2 ∈ d := by
            rw [← z2]
            exact List.mem_map.2 ⟨k, hkk, rfl⟩
          -- the lists are the same, one by one
          obtain ⟨j, hj⟩ := List.mem_iff_getElem?.1 hkk
          have g1 : d[j]? = some (h32 k.hd.2.2) := by rw [← e2]; simp [kidsH, hj]
          have g2 : d[j]? = some k.hd.2.2 := by rw [← z2]; simp [hj]
          rw [g1] at g2
          have g3 := Option.some.inj g2
          rw [← g3]
          have := congrArg List.length g3
          simp [h32] at this ⊢
          omega
        exact ⟨t, hg, ⟨by rw [q1]; rfl, t0, t1, hk, by rw [q5]; rfl, by rw [q5]; rfl, by omega, by rw [q6]; rfl, fun k hkk => ⟨z1 k hkk, hlen k hkk⟩, z2⟩, hf, ho⟩
      · cases h
    · cases h
end Go.Proofs.Ytenfahecnkdhaaa.Nd
end

section
/-
  Plain mathematics: the directories that the document reads out of a Body.
-/
namespace Go.Proofs.Ytenfahecnkdhaaa.Nd
open Go.RowKit
open Tlv (Tr Rt)
set_option linter.unusedSimpArgs false

/-- What the document reads: an entry. -/
def DocE (x : Tr 8) : Prop := x.hd.1 = 3 ∧ ∃ a b c, x.kd = [a, b, c] ∧ a.hd.1 = 2 ∧ b.hd.1 = 1 ∧ (b.hd.2.1 = 0 ∨ b.hd.2.1 = 1) ∧ c.hd.1 = 2 ∧ c.hd.2.2.length = 32
theorem docE_same {x : Tr 8} {room : Int} (hx : Rt 8 x room) (h : DocE x) : Tlv.sameT 8 x 2 (entT (entOf x)) = true := by
  obtain ⟨h3, a, b, c, hk, ha, hb, hb2, hc, hcl⟩ := h
  have hr := (Rt_count hx).2
  obtain ⟨ra, _, hra⟩ := hr a (by rw [hk]; simp)
  obtain ⟨rb, _, hrb⟩ := hr b (by rw [hk]; simp)
  obtain ⟨rc, _, hrc⟩ := hr c (by rw [hk]; simp)
  obtain ⟨ea, ka⟩ := oe_bytes hra ha
  obtain ⟨eb, kb⟩ := oe_num hrb hb
  obtain ⟨ec, kc⟩ := oe_bytes hrc hc
  rw [entOf_3 hk, entryOf, h32_same hcl]
  refine sameT_mk (oe_list hx h3) ?_
  rw [hk]
  have q0 : Tlv.sameT 7 a 1 (Tr.mk 2 0 a.hd.2.2 []) = true := sameT_mk ea (by rw [ka]; rfl)
  have q1 : Tlv.sameT 7 b 1 (Tr.mk 1 (if decide (b.hd.2.1 = 1) = true then 1 else 0) [] []) = true := by
    have hif : (if decide (b.hd.2.1 = 1) = true then (1 : Int) else 0) = b.hd.2.1 := by rcases hb2 with h | h <;> rw [h] <;> rfl
    rw [hif]
    exact sameT_mk eb (by rw [kb]; rfl)
  have q2 : Tlv.sameT 7 c 1 (Tr.mk 2 0 c.hd.2.2 []) = true := sameT_mk ec (by rw [kc]; rfl)
  show Tlv.sameL _ [a, b, c] [(Tr.mk 2 0 a.hd.2.2 [] : Tr 1), Tr.mk 1 (if decide (b.hd.2.1 = 1) = true then 1 else 0) [] [], Tr.mk 2 0 c.hd.2.2 []] = true
  simp only [Tlv.sameL, q0, q1, q2, Bool.and_self]
theorem docE_all {room : Int} : ∀ (ks : List (Tr 8)), (∀ x ∈ ks, DocE x) → (∀ k ∈ ks, ∃ r, r ≤ room ∧ Rt 8 k r) → Tlv.sameL (fun a b => Tlv.sameT 8 a 2 b) ks ((ks.map entOf).map entT) = true
  | [], _, _ => rfl
  | k :: ks, h, hr => by
    obtain ⟨r, _, hk⟩ := hr k (by simp)
    simp only [List.map_cons, Tlv.sameL, Bool.and_eq_true]
    exact ⟨docE_same hk (h k (by simp)), docE_all ks (fun x hx => h x (by simp [hx])) (fun x hx => hr x (by simp [hx]))⟩
theorem docE_len {x : Tr 8} (h : DocE x) : x.kd.length = 3 := by
  obtain ⟨_, a, b, c, hk, _⟩ := h
  rw [hk]
  rfl
theorem docD_yes {bs : List Int} {t : Tr 9} (hb : ∀ x ∈ bs, 0 ≤ x ∧ x ≤ 255) (hg : Tlv.getT bs = some t) (h3 : t.hd.1 = 3) (h : ∀ x ∈ t.kd, DocE x) (hr : RightP (t.kd.map entOf)) (ho : objP (entsT (t.kd.map entOf))) : IsDir bs (t.kd.map entOf) := by
  have ht := getT_Rt hb hg
  have hs : Tlv.sameT 9 t 3 (entsT (t.kd.map entOf)) = true := sameT_mk (oe_list ht h3) (docE_all t.kd h (Rt_count ht).2)
  have e := Tlv.sameT_form 9 t 3 _ hs
  rw [(Tlv.get_form hb hg).2] at e
  refine ⟨t, ?_, ⟨fun x hx => docE_len (h x hx), hr, hs⟩, rfl⟩
  rw [bodyT, if_pos (by rw [e]; exact ho.2)]
  exact hg
theorem docE_no {x : Tr 8} (hl : x.kd.length = 3) (h : Tlv.sameT 8 x 2 (entT (entOf x)) = true) : DocE x := by
  obtain ⟨q1, q2⟩ := sameT_parts h
  obtain ⟨a, b, c, hk⟩ := kd3 hl
  rw [entOf_3 hk] at q2
  rw [hk] at q2
  obtain ⟨a', b', c', he, qa, qb, qc⟩ := sameL_three (b := (Tr.mk 2 0 (entryOf a b c).1 [] : Tr 1)) (c := (Tr.mk 1 (if (entryOf a b c).2.1 then 1 else 0) [] [] : Tr 1)) (e := (Tr.mk 2 0 (entryOf a b c).2.2 [] : Tr 1)) q2
  simp only [List.cons.injEq, and_true] at he
  obtain ⟨rfl, rfl, rfl⟩ := he
  obtain ⟨qa1, _⟩ := sameT_parts qa
  obtain ⟨qb1, _⟩ := sameT_parts qb
  obtain ⟨qc1, _⟩ := sameT_parts qc
  refine ⟨by rw [q1]; rfl, a, b, c, hk, by rw [qa1]; rfl, by rw [qb1]; rfl, ?_, by rw [qc1]; rfl, ?_⟩
  · have : b.hd.2.1 = if (entryOf a b c).2.1 then 1 else 0 := by rw [qb1]; rfl
    rw [this]
    cases (entryOf a b c).2.1
    · exact .inl rfl
    · exact .inr rfl
  · have : c.hd.2.2 = h32 c.hd.2.2 := by
      have h1 : c.hd.2.2 = (entryOf a b c).2.2 := by rw [qc1]; rfl
      exact h1
    rw [this]
    simp [h32]
    omega
theorem docD_no {bs : List Int} {d : List Ent} (hb : ∀ x ∈ bs, 0 ≤ x ∧ x ≤ 255) (h : IsDir bs d) : ∃ t, Tlv.getT bs = some t ∧ t.hd.1 = 3 ∧ (∀ x ∈ t.kd, DocE x) ∧ d = t.kd.map entOf ∧ RightP d ∧ objP (entsT d) := by
  obtain ⟨hr, ho, _⟩ := isDir_back hb h
  obtain ⟨t, ht, hg, rfl⟩ := h
  have hgt : Tlv.getT bs = some t := by
    unfold bodyT at ht
    split at ht
    · exact ht
    · cases ht
  obtain ⟨q1, q2⟩ := sameT_parts hg.2.2
  have hkids : ∀ ks : List (Tr 8), (∀ x ∈ ks, x.kd.length = 3) → Tlv.sameL (fun a b => Tlv.sameT 8 a 2 b) ks ((ks.map entOf).map entT) = true → ∀ x ∈ ks, DocE x := by
    intro ks
    induction ks with
    | nil => intro _ _ x hx; cases hx
    | cons k ks ih =>
      intro hl hs x hx
      simp only [List.map_cons, Tlv.sameL, Bool.and_eq_true] at hs
      rcases List.mem_cons.1 hx with rfl | hx
      · exact docE_no (hl x (by simp)) hs.1
      · exact ih (fun y hy => hl y (by simp [hy])) hs.2 x hx
  exact ⟨t, hgt, by rw [q1]; rfl, hkids t.kd hg.1 q2, rfl, hr, ho⟩
theorem right_names {d : List Ent} (h : RightP d) : ∀ e ∈ d, e.1.length ≤ 20 := fun e he => by
  obtain ⟨i, hi⟩ := List.mem_iff_getElem?.1 he
  have h1 := (h.2 i e (List.getElem?_eq_some_iff.1 hi).1 hi).1
  unfold plB Tr.partB at h1
  simp only [Bool.and_eq_true, decide_eq_true_eq] at h1
  have h2 := h1.1.1.1.2
  have h3 : (txt e.1).data.toList.length = (txt e.1).size := by rw [Array.length_toList]; rfl
  rw [h3, txt_size] at h2
  exact h2
end Go.Proofs.Ytenfahecnkdhaaa.Nd
end

section
/-
  Values of the document's tlv that a call builds out of what it was handed: lists that grow in a variable.
-/
namespace Go.Proofs.Ytenfahecnkdhaaa.Nd
open Go.RowKit
open Tlv (Tr Agree AgreeS BInv RepS BySlS KSlS cellsK cell4)
open Sim (hid Kp No)

theorem infoRV : (Try.prog.info? 86).map (fun i => (i.zero, i.size, i.bytes)) = some (some (.agg #[.int .i64 0, .int .u64 0, .slice none 0 0, .slice none 0 0]), 4, 64) := by kernel_rfl
theorem rpush_run {n base L B k : Nat} {S : Nat → Prop} {ts : List (Tr n)} {t : Tr n} {av : Option Addr} {cv : Nat} {sb sk : Value} (w : World) (hk : ts.length = k) (h : BInv S base ts (.slice av k cv) w) (hS : ∀ b, S b → b < base) (hb : base ≤ w.heap.size) (hr : RepS (fun b => S b ∨ (L ≤ b ∧ b < B)) w n t sb sk) (hL : base ≤ L) (hB : B ≤ w.heap.size)
    (hd : ∀ r, (Value.slice av k cv).ownBlock = some r → r < L ∨ B ≤ r) (hl : k + 1 ≤ 2000000) (ty : TypeId) :
    ∃ g' cap w', (Builtin.append_ #[84, 84] ty #[.slice av k cv, .slice (some ⟨w.heap.size, 0, none⟩) 1 1]).run Try.prog (w.alloc (.cells #[.int .i64 t.hd.1, .int .u64 t.hd.2.1, sb, sk] 86)) = .ok (.slice (some ⟨g', 0, none⟩) (k + 1) cap) w' ∧
      BInv S base (ts ++ [t]) (.slice (some ⟨g', 0, none⟩) (k + 1) cap) w' ∧ (w.alloc (.cells #[.int .i64 t.hd.1, .int .u64 t.hd.2.1, sb, sk] 86)).grownBy w' (Value.slice av k cv).ownBlock := by
  obtain ⟨i0, hi, hz0, hz1, hz2⟩ := info_parts infoRV
  have hlt := h.lt
  have hA : Agree base w.heap.size w (w.alloc (.cells #[.int .i64 t.hd.1, .int .u64 t.hd.2.1, sb, sk] 86)) := (Agree.refl _ _ _).alloc (Nat.le_refl _) _
  have hO : AgreeS S w (w.alloc (.cells #[.int .i64 t.hd.1, .int .u64 t.hd.2.1, sb, sk] 86)) := fun b hb' => Below.heap_alloc _ _ _ (by have := hS b hb'; omega)
  obtain ⟨ps, hl2, hown, hkid⟩ := h.agree hO hA (by simp)
  have hr2 : RepS (fun b => S b ∨ (L ≤ b ∧ b < B)) (w.alloc (.cells #[.int .i64 t.hd.1, .int .u64 t.hd.2.1, sb, sk] 86)) n t sb sk := hr.agree (fun b hb' => Below.heap_alloc _ _ _ (by rcases hb' with hb' | hb'; have := hS b hb'; omega; omega)) (fun _ h => h)
  rw [hk] at hown
  have hone : ∀ u ∈ cell4 t (sb, sk), u.oneCell' = true := by
    obtain ⟨_, _, _, _, _, _, rfl, rfl⟩ := hr.sl
    intro u hu
    simp only [cell4, List.mem_cons, List.not_mem_nil, or_false] at hu
    rcases hu with rfl | rfl | rfl | rfl <;> rfl
  obtain ⟨g', cap, w', hrun, ho, hgr, hat, hlt'⟩ := run_append_lies (P := Try.prog) (w.alloc (.cells #[.int .i64 t.hd.1, .int .u64 t.hd.2.1, sb, sk] 86)) 84 ty base 86 i0 _ 4 64 Try.underlying84 hi hz0 hz1 hz2 rfl (by decide) (.slice av k cv) k (cellsK ts ps) hown ⟨w.heap.size, 0, none⟩ 1 1 (cell4 t (sb, sk)) rfl
    (World.news_of_block (cs := #[.int .i64 t.hd.1, .int .u64 t.hd.2.1, sb, sk]) (t := 86) (fr := (0, 0)) (heap_alloc_new w _)) hone (by omega) (by unfold maxLen; omega) (by omega) (by simp; omega) _ rfl
  refine ⟨g', cap, w', hrun, ?_, hgr⟩
  have P := BInv.push (g := g') (cap := cap) hl2 hS (by simp; omega) hkid hr2 hL (by simp; omega) (fun r hr => ⟨(hlt r hr).1, hd r hr⟩) (by rw [hk]; exact ho) hgr hat
  rw [hk] at P
  exact P

/-- The variable at block b holds a list's value: these. -/
def RV {n : Nat} (S : Nat → Prop) (w1 : World) (b : Nat) (ts : List (Tr n)) (v : Value) (wr : World) : Prop :=
  wr.cell? ⟨b, 0, none⟩ = some (.int .i64 3) ∧ wr.cell? ⟨b, 1, none⟩ = some (.int .u64 0) ∧ wr.cell? ⟨b, 2, none⟩ = some (.slice none 0 0) ∧ wr.cell? ⟨b, 3, none⟩ = some v ∧
    (∀ o, wr.frozen? ⟨b, o, none⟩ = false) ∧ b < wr.heap.size ∧ BInv S (b + 1) ts v wr ∧ Below w1.heap.size w1 wr
theorem RV.step {n : Nat} {S : Nat → Prop} {w1 wr W1 w2 : World} {b k cv L : Nat} {av : Option Addr} {ts : List (Tr n)} {t : Tr n} {sb sk : Value} (F : RV S w1 b ts (.slice av k cv) wr) (hk : ts.length = k) (hw : w1.heap.size ≤ b) (hS : ∀ g, S g → g < b) (h1 : Kp No wr W1) (h2 : Kp No W1 w2)
    (hr : RepS (fun g => S g ∨ (L ≤ g ∧ g < w2.heap.size)) w2 n t sb sk) (hL : wr.heap.size ≤ L) (hl : k + 1 ≤ 2000000) (ty : TypeId) :
    ∃ g' cap w4, (Builtin.append_ #[84, 84] ty #[.slice av k cv, .slice (some ⟨w2.heap.size, 0, none⟩) 1 1]).run Try.prog (w2.alloc (.cells #[.int .i64 t.hd.1, .int .u64 t.hd.2.1, sb, sk] 86)) = .ok (.slice (some ⟨g', 0, none⟩) (k + 1) cap) w4 ∧
      w4.cell? ⟨b, 3, none⟩ = some (.slice av k cv) ∧ w4.frozen? ⟨b, 3, none⟩ = false ∧ b < w4.heap.size ∧
      RV S w1 b (ts ++ [t]) (.slice (some ⟨g', 0, none⟩) (k + 1) cap) (w4.setCell ⟨b, 3, none⟩ (.slice (some ⟨g', 0, none⟩) (k + 1) cap)) ∧ Kp (fun x => x = b ∨ (Value.slice av k cv).ownBlock = some x) W1 w4 := by
  obtain ⟨c0, c1, c2, c3, hf, hs, hc, hw1⟩ := F
  have hb : Kp No wr w2 := h1.andNone h2
  have hz := hb.size
  have hS' : ∀ g, S g → g < b + 1 := fun g hg => Nat.lt_succ_of_lt (hS g hg)
  have hc2 : BInv S (b + 1) ts (.slice av k cv) w2 := hc.agree (fun g hg => hb.block g (by have := hS g hg; omega) (fun x => x)) (fun j _ hj => hb.block j hj (fun x => x)) hz
  obtain ⟨g', cap, w4, hrun, hC, hgr⟩ := rpush_run w2 hk hc2 hS' (by omega) hr (by omega) (Nat.le_refl _) (fun r hr => .inl (by have := (hc.lt r hr).2; omega)) hl ty
  have hnb : some b ≠ (Value.slice av k cv).ownBlock := fun e => by have := (hc.lt b e.symm).1; omega
  have hzg := hgr.size
  simp at hzg
  have cc : ∀ j, w4.cell? ⟨b, j, none⟩ = wr.cell? ⟨b, j, none⟩ := fun j => by
    rw [hgr.cell_far ⟨b, j, none⟩ (by simp; omega) hnb, World.cell?_alloc_past _ _ _ (by omega)]
    exact hb.cell (p := ⟨b, j, none⟩) hs (fun x => x)
  have cf : ∀ j, w4.frozen? ⟨b, j, none⟩ = false := fun j => by
    rw [hgr.frozen_far ⟨b, j, none⟩ (by simp; omega) hnb, World.frozen?_alloc_past _ _ _ (by omega), hb.frozen (p := ⟨b, j, none⟩) hs (fun x => x)]
    exact hf j
  have hKp : Kp (fun x => x = b ∨ (Value.slice av k cv).ownBlock = some x) W1 w4 := ((h2.ofNo).alloc _).grown hgr (fun x hx => .inl (.inr hx))
  have hKr : Kp (fun x => x = b ∨ (Value.slice av k cv).ownBlock = some x) wr w4 := ((hb.ofNo).alloc _).grown hgr (fun x hx => .inl (.inr hx))
  refine ⟨g', cap, w4, hrun, (cc 3).trans c3, cf 3, by omega, ⟨?_, ?_, ?_, ?_, fun o => ?_, ?_, ?_, ?_⟩, hKp⟩
  · rw [Sim.cell_other (by omega)]; exact (cc 0).trans c0
  · rw [Sim.cell_other (by omega)]; exact (cc 1).trans c1
  · rw [Sim.cell_other (by omega)]; exact (cc 2).trans c2
  · exact World.cell?_setCell_same _ _ _ ((cc 3).trans c3)
  · rw [World.frozen?_setCell]; exact cf o
  · simp; omega
  · exact hC.agree (fun g hg => Below.heap_setCell _ _ _ _ (by have := hS g hg; simp; omega)) ((Agree.refl _ _ _).setCell (.inl (by simp)) _) (by simp)
  · have b1 : Below w1.heap.size w1 w4 := Kp.under hw1 hKr (fun x hx => by
      rcases hx with rfl | hx
      · exact hw
      · have := (hc.lt x hx).1; omega) hw1.size
    exact b1.setCell hw _

set_option maxHeartbeats 1000000 in
theorem rbytes_any (w : World) (x : Option Addr) (n c : Nat) :
    Calls Try.prog 42 #[.slice x n c] w fun e w' => e = .returned (.agg #[.int .i64 2, .int .u64 0, .slice x n c, .slice none 0 0]) ∧ Kp No w w' := by
  go_enter Try.func42, Try.ntmps42
  go_wp2
  refine bodyPost_ret (v := .agg #[.int .i64 2, .int .u64 0, .slice x n c, .slice none 0 0]) (by simp [results, Try.results42, go_sem]) rfl ⟨rfl, (Kp.refl No w).alloc _⟩
set_option maxHeartbeats 1000000 in
theorem rlist_any (w : World) (x : Option Addr) (n c : Nat) :
    Calls Try.prog 41 #[.slice x n c] w fun e w' => e = .returned (.agg #[.int .i64 3, .int .u64 0, .slice none 0 0, .slice x n c]) ∧ Kp No w w' := by
  go_enter Try.func41, Try.ntmps41
  go_wp2
  refine bodyPost_ret (v := .agg #[.int .i64 3, .int .u64 0, .slice none 0 0, .slice x n c]) (by simp [results, Try.results41, go_sem]) rfl ⟨rfl, (Kp.refl No w).alloc _⟩

theorem run_oneRV (t n : Int) (b k : Value) (w : World) : (Instr.buildSlice 84 1 #[(0, .agg #[.int .i64 t, .int .u64 n, b, k])]).run Try.prog w = .ok (.slice (some ⟨w.heap.size, 0, none⟩) 1 1) (w.alloc (.cells #[.int .i64 t, .int .u64 n, b, k] 86)) := by kernel_rfl
theorem run_threeRV (t1 t2 t3 n1 n2 n3 : Int) (b1 b2 b3 k1 k2 k3 : Value) (w : World) : (Instr.buildSlice 84 3 #[(0, .agg #[.int .i64 t1, .int .u64 n1, b1, k1]), (1, .agg #[.int .i64 t2, .int .u64 n2, b2, k2]), (2, .agg #[.int .i64 t3, .int .u64 n3, b3, k3])]).run Try.prog w = .ok (.slice (some ⟨w.heap.size, 0, none⟩) 3 3) (w.alloc (.cells #[.int .i64 t1, .int .u64 n1, b1, k1, .int .i64 t2, .int .u64 n2, b2, k2, .int .i64 t3, .int .u64 n3, b3, k3] 86)) := by kernel_rfl
end Go.Proofs.Ytenfahecnkdhaaa.Nd
end

section
/-
  Plain mathematics: the form as the reference makes it is the form.
-/
namespace Go.Proofs.Ytenfahecnkdhaaa.Tlv

/-- A list's forms behind one another, as the reference puts them together. -/
def rformL {α : Type} (f : α → Option (List Int)) : List Int → List α → Option (List Int)
  | acc, [] => some acc
  | acc, k :: ks => match f k with
    | none => none
    | some x => if 65535 < acc.length then none else rformL f (acc ++ x) ks

/-- What is behind the first three bytes, as the reference makes it. -/
def rbody {n : Nat} (f : Tr n → Option (List Int)) (t : Tr (n + 1)) (deep : Nat) : Option (List Int) :=
  if t.hd.1 = 1 then (if t.hd.2.2 ≠ [] ∨ t.kd ≠ [] then none else some (numB (nsz t.hd.2.1).toNat t.hd.2.1))
  else if t.hd.1 = 2 then (if t.hd.2.1 ≠ 0 ∨ t.kd ≠ [] then none else some t.hd.2.2)
  else if t.hd.1 = 3 then (if t.hd.2.1 ≠ 0 ∨ t.hd.2.2 ≠ [] ∨ deep = 0 then none else rformL f [] t.kd)
  else none

/-- The form, as the reference makes it. -/
def rform : (n : Nat) → Tr n → Nat → Option (List Int)
  | 0, t, _ => by cases t
  | n + 1, t, deep => match rbody (fun k => rform n k (deep - 1)) t deep with
    | none => none
    | some b => if 65535 < b.length then none else some (t.hd.1 :: ((b.length : Int) / 256) :: ((b.length : Int) % 256) :: b)

theorem form_len (n : Nat) (t : Tr n) : (formOf n t).length = 3 + (bodyOf n t).length := by simp [formOf]; omega

theorem rformL_le {α : Type} {f : α → Option (List Int)} : ∀ (ks : List α) (acc r : List Int), rformL f acc ks = some r → acc.length ≤ r.length
  | [], acc, r, h => by simp only [rformL, Option.some.injEq] at h; subst h; exact Nat.le_refl _
  | k :: ks, acc, r, h => by
    simp only [rformL] at h
    split at h
    · simp at h
    · rename_i x hx
      split at h
      · simp at h
      · have := rformL_le ks _ _ h
        simp at this
        omega

theorem rformL_yes {n d : Nat} {f : Tr n → Option (List Int)} (hf : ∀ k, f k = if (bsz n k 65535 d).2 then some (formOf n k) else none) : ∀ (ks : List (Tr n)) (acc : List Int),
    (lszGo (bsz n) 65535 ((d : Int) + 1) acc.length ks).2 = true → rformL f acc ks = some (acc ++ (ks.map (formOf n)).flatten)
  | [], acc, _ => by simp [rformL]
  | k :: ks, acc, h => by
    simp only [lszGo] at h
    split at h
    · rename_i hk
      rw [show (d : Int) + 1 - 1 = d by omega] at hk h
      have hfit := bsz_fits _ _ _ _ hk
      have hlen := bsz_len _ _ _ _ hk
      have hk2 := bsz_mono n k _ 65535 d hk (by omega) (by omega)
      have hl := form_len n k
      simp only [rformL]
      rw [hf k, if_pos hk2]
      simp only
      have e : (((acc.length + (3 + (bodyOf n k).length) : Nat)) : Int) = (acc.length : Int) + (3 + (bsz n k (65535 - (acc.length : Int) - 3) d).1) := by omega
      rw [if_neg (by omega), rformL_yes hf ks (acc ++ formOf n k) (by rw [List.length_append, hl, e]; exact h)]
      simp
    · simp at h

theorem rformL_no {n d : Nat} {f : Tr n → Option (List Int)} (hf : ∀ k, f k = if (bsz n k 65535 d).2 then some (formOf n k) else none) : ∀ (ks : List (Tr n)) (acc r : List Int),
    rformL f acc ks = some r → r.length ≤ 65535 → (lszGo (bsz n) 65535 ((d : Int) + 1) acc.length ks).2 = true
  | [], _, _, _, _ => rfl
  | k :: ks, acc, r, h, hr => by
    simp only [rformL] at h
    rw [hf k] at h
    by_cases hk : (bsz n k 65535 d).2 = true
    · rw [if_pos hk] at h
      simp only at h
      split at h
      · simp at h
      · have hle := rformL_le ks _ _ h
        have ih := rformL_no hf ks _ _ h hr
        have hl := form_len n k
        rw [List.length_append, hl] at hle ih
        have hk2 := bsz_mono n k _ (65535 - (acc.length : Int) - 3) d hk (by omega) (by omega)
        have hlen := bsz_len _ _ _ _ hk2
        simp only [lszGo]
        rw [show (d : Int) + 1 - 1 = d by omega, if_pos hk2]
        have e : (((acc.length + (3 + (bodyOf n k).length) : Nat)) : Int) = (acc.length : Int) + (3 + (bsz n k (65535 - (acc.length : Int) - 3) d).1) := by omega
        rw [← e]
        exact ih
    · rw [if_neg hk] at h
      simp at h

theorem rform_eq : ∀ (n : Nat) (t : Tr n) (d : Nat), rform n t d = if (bsz n t 65535 d).2 then some (formOf n t) else none
  | 0, t, _ => by cases t
  | n + 1, t, d => by
    have fin : ∀ b, bodyOf (n + 1) t = b → (t.hd.1 :: ((b.length : Int) / 256) :: ((b.length : Int) % 256) :: b) = formOf (n + 1) t := by
      intro b e
      simp only [formOf]
      rw [e]
    by_cases ho : oeB t.hd.1 t.hd.2.1 t.hd.2.2.length t.kd.length = true
    · obtain ⟨o1, o2, o3⟩ := oeB_iff.1 ho
      have hbs : t.hd.1 ≠ 2 → t.hd.2.2 = [] := fun h => List.eq_nil_of_length_eq_zero (by omega)
      have hkd : t.hd.1 ≠ 3 → t.kd = [] := fun h => List.eq_nil_of_length_eq_zero (by omega)
      rw [bsz_yes (by omega) ho]
      simp only [rform, rbody]
      by_cases h1 : t.hd.1 = 1
      · rw [if_pos h1, if_pos h1, if_neg (by simp [hbs (by omega), hkd (by omega)])]
        have hb := bodyOf_1 h1
        have := nsz_bd t.hd.2.1
        simp only
        rw [if_neg (by rw [numB_length]; omega), fin _ hb, if_pos (by simp; omega)]
      · rw [if_neg h1, if_neg h1]
        by_cases h2 : t.hd.1 = 2
        · rw [if_pos h2, if_pos h2, if_neg (by simp [hkd (by omega)]; omega)]
          have hb := bodyOf_2 h2
          simp only
          rw [fin _ hb]
          by_cases hl : 65535 < t.hd.2.2.length
          · rw [if_pos hl, if_neg (by simp; omega)]
          · rw [if_neg hl, if_pos (by simp; omega)]
        · rw [if_neg h2, if_neg h2]
          by_cases h3 : t.hd.1 = 3
          · rw [if_pos h3, if_pos h3]
            unfold lsz
            by_cases hd : d = 0
            · subst hd
              simp
            · rw [if_neg (by simp [hbs (by omega), hd]; omega), if_neg (show ¬ ((d : Int) = 0) by omega)]
              obtain ⟨d', rfl⟩ : ∃ d', d = d' + 1 := ⟨d - 1, by omega⟩
              have hb := bodyOf_kids h3
              have hf : ∀ k, (fun k => rform n k (d' + 1 - 1)) k = if (bsz n k 65535 d').2 then some (formOf n k) else none := fun k => rform_eq n k d'
              have hcast : (((d' + 1 : Nat)) : Int) = (d' : Int) + 1 := by omega
              rw [hcast]
              by_cases hg : (lszGo (bsz n) 65535 ((d' : Int) + 1) 0 t.kd).2 = true
              · rw [if_pos hg, rformL_yes hf t.kd [] hg]
                have hbd := lszGo_bd (bsz_fits n) 65535 ((d' : Int) + 1) t.kd 0 (by omega) (by omega) hg
                have hln := (lszGo_len (bsz_len n) 65535 ((d' : Int) + 1) t.kd 0 hg).1
                simp only [List.nil_append]
                rw [if_neg (by omega), fin _ hb]
              · rw [if_neg hg]
                split
                · rfl
                · rename_i r hr
                  by_cases hl : 65535 < r.length
                  · rw [if_pos hl]
                  · exact absurd (rformL_no hf t.kd [] r hr (by omega)) hg
          · rw [if_neg h3, if_neg h3]
            rfl
    · have ho' : oeB t.hd.1 t.hd.2.1 t.hd.2.2.length t.kd.length = false := by simpa using ho
      rw [bsz_no (.inr ho'), if_neg (by simp)]
      have hno : ¬ ((t.hd.1 = 1 ∨ t.hd.2.1 = 0) ∧ (t.hd.1 = 2 ∨ t.hd.2.2.length = 0) ∧ (t.hd.1 = 3 ∨ t.kd.length = 0)) := fun h => ho (oeB_iff.2 h)
      have hb0 : t.hd.2.2 = [] ↔ t.hd.2.2.length = 0 := List.length_eq_zero_iff.symm
      have hk0 : t.kd = [] ↔ t.kd.length = 0 := List.length_eq_zero_iff.symm
      have : rbody (fun k => rform n k (d - 1)) t d = none := by
        unfold rbody
        split
        · rw [if_pos (by rw [ne_eq, ne_eq, hb0, hk0]; omega)]
        · split
          · rw [if_pos (by rw [ne_eq, ne_eq, hk0]; omega)]
          · split
            · rw [if_pos (by rw [ne_eq, ne_eq, hb0]; omega)]
            · rfl
      simp only [rform]
      rw [this]

end Go.Proofs.Ytenfahecnkdhaaa.Tlv
end
