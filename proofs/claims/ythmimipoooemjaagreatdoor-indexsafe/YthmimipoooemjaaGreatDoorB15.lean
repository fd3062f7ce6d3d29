/- Of the proof: the texts SgGet, SgTurnM, SgSame, SgWhere, SgBack, SgBackM, IxOpen0, IxFind, IxSaveM, IxAlive, IxLoad, IxKeepM, one behind the other. -/
import Derived.Test.YthmimipoooemjaaGreatDoorAbb
import Derived.Test.YthmimipoooemjaaGreatDoorB14
import Derived.Test.YthmimipoooemjaaGreatDoorB5
import Derived.Test.YthmimipoooemjaaGreatDoorB6
import Derived.Test.YthmimipoooemjaaGreatDoorB10
import Derived.Deep.DeepCutAuto
import Derived.Test.YthmimipoooemjaaGreatDoorB12
import Derived.Test.YthmimipoooemjaaGreatDoorB13
import Derived.Test.YthmimipoooemjaaGreatDoorB1
import Derived.Test.YthmimipoooemjaaGreatDoorB3
section
/-
  Get of segment: the entries that bytes were put of.
-/
namespace Go.Proofs.YthmimipoooemjaaGreatDoor.Sg
open Go.RowKit
open Tlv (Tr Agree BySlS)
open Crc (Kept Tab)
open Sim (hid Kp No)

theorem flat_len : ∀ (ks : List (Tr 8)), ks.length ≤ ((ks.map (Tlv.formOf 8)).flatten).length
  | [] => Nat.le_refl _
  | k :: ks => by
    have := flat_len ks
    simp only [List.map_cons, List.flatten_cons, List.length_append, List.length_cons, Tlv.formOf] at this ⊢
    omega
theorem kd_len {bs : List Int} {t : Tr 9} (hb : ∀ x ∈ bs, 0 ≤ x ∧ x ≤ 255) (h : Tlv.getT bs = some t) : t.kd.length ≤ bs.length := by
  rw [Tlv.getT] at h
  cases hq : Tlv.rd 8 bs with
  | none => rw [hq] at h; simp at h
  | some p =>
    obtain ⟨u, m⟩ := p
    rw [hq] at h
    simp only at h
    split at h
    · rename_i hm
      cases h
      obtain ⟨h1, h2⟩ := Tlv.rd_form 8 bs t m hb hq
      rcases (bsz_oe h2).2.2 with h3 | h3
      · have e1 := congrArg List.length h1
        rw [hm, List.take_length] at e1
        have e2 : (Tlv.formOf (8 + 1) t).length = 3 + (Tlv.bodyOf (8 + 1) t).length := by simp [Tlv.formOf]; omega
        rw [e2, Tlv.bodyOf_kids h3] at e1
        have := flat_len t.kd
        omega
      · rw [h3]; simp
    · cases h

/-- What Get leaves. -/
def Got (w w' : World) (b : Nat) (bs : List Int) (e : Ending) : Prop :=
  ∃ v f d, e = .returned (.tuple #[v, .int .i64 f]) ∧ GAns bs f d ∧ Sim.Row w' 155 35 v d.length (ents d) ∧ (∀ x, v.ownBlock = some x → w.heap.size ≤ x) ∧ Oks d ∧ Kept b w w' ∧ TabX w' b
theorem Got.none {w w' : World} {b : Nat} {bs : List Int} {f : Int} (hg : GAns bs f []) (hk : Kept b w w') (ht : TabX w' b) : Got w w' b bs (.returned (.tuple #[.slice none 0 0, .int .i64 f])) :=
  ⟨.slice Option.none 0 0, f, [], rfl, hg, Sim.Row.nil _ _ _, by intro x hx; simp [Value.ownBlock] at hx, by intro x hx; simp at hx, hk, ht⟩

theorem tail_of {bs : List Int} (hb : ∀ x ∈ bs, 0 ≤ x ∧ x ≤ 255) (h : 4 ≤ bs.length) : ∃ y0 y1 y2 y3 : Nat, nats bs = nats (bs.take (bs.length - 4)) ++ [y0, y1, y2, y3] ∧ (Crc.le4 (Crc.more 0 (nats (bs.take (bs.length - 4)))) = [y0, y1, y2, y3] ↔ sealI (bs.take (bs.length - 4)) = bs) := by
  obtain ⟨y0, y1, y2, y3, hy⟩ := tail4 (xs := bs) (m := bs.length - 4) (by omega)
  rw [List.take_of_length_le (by rw [List.length_drop]; omega)] at hy
  have hsp : bs = bs.take (bs.length - 4) ++ bs.drop (bs.length - 4) := (List.take_append_drop _ _).symm
  have hbd : ∀ x ∈ bs.drop (bs.length - 4), 0 ≤ x ∧ x ≤ 255 := fun x hx => hb x (List.mem_of_mem_drop hx)
  refine ⟨y0, y1, y2, y3, ?_, ?_, ?_⟩
  · rw [← hy, ← nats_append, ← hsp]
  · intro e
    rw [sealI, sumI, e, ← hy, ints_nats _ hbd, ← hsp]
  · intro e
    rw [sealI] at e
    have e2 : bs.take (bs.length - 4) ++ sumI (bs.take (bs.length - 4)) = bs.take (bs.length - 4) ++ bs.drop (bs.length - 4) := e.trans hsp
    have e3 := List.append_cancel_left e2
    have e4 := congrArg nats e3
    rw [sumI, nats_ints, hy] at e4
    exact e4

set_option maxHeartbeats 2000000 in
set_option maxRecDepth 100000 in
theorem get_any (b : Nat) (w : World) (v : Value) (bs : List Int) (hT : TabX w b) (h : BySlS (fun g => g ≠ b ∧ g < w.heap.size) w v bs) (hl : bs.length ≤ 80000) :
    Calls Tryz.prog 77 #[.pointer (some ⟨b, 0, none⟩), v] w fun e w' => Got w w' b bs e := by
  have H := hid h
  have HT := hid hT
  have hbw := hT.lt
  obtain ⟨a, cap, rfl, _, _, _, _, h6, _⟩ := h
  have HX := hid h6
  clear hT h6
  by_cases h4 : bs.length < 4
  · have HGA : Hid (GAns bs 3 []) := .inl ⟨h4, rfl, rfl⟩
    have HO := hid (Crc.open_short b (.slice a bs.length cap) (nats bs) w (toCrc H.out (fun g hg => hg)) (by rw [nats_length]; exact h4))
    clear h4
    go_enter Tryz.func77, Tryz.ntmps77
    go_wp2_with fail
    refine HO.out.mono ?_
    rintro e w1 ⟨rfl, rfl⟩
    go_wp2_with fail
    go_ret2
    exact Got.none HGA.out (Kept.refl _ _) HT.out
  · obtain ⟨y0, y1, y2, y3, hn, hseal⟩ := tail_of HX.out (by omega)
    obtain ⟨xs, hxs⟩ : ∃ xs, bs.take (bs.length - 4) = xs := ⟨_, rfl⟩
    have HXS := hid hxs
    have hx6 : ∀ x ∈ xs, 0 ≤ x ∧ x ≤ 255 := by rw [← hxs]; exact fun x hx => HX.out x (List.mem_of_mem_take hx)
    have hxl : xs.length ≤ 80000 := by rw [← hxs, List.length_take]; omega
    rw [hxs] at hn hseal
    obtain ⟨f, n, hf, ht⟩ := HT.out
    have hcs := toCrc (b := b) H.out (fun g hg => hg)
    rw [hn] at hcs
    have HO := hid (Crc.open_any b f n (.slice a bs.length cap) (nats xs) y0 y1 y2 y3 w hf ht hcs (by rw [nats_length]; exact hxl))
    have HSEAL := hid hseal
    have H4 : Hid (4 ≤ bs.length) := by rw [Hid]; omega
    have HX6 := hid hx6
    have HXL := hid hxl
    clear hcs hn hseal hxs ht hf hx6 hxl h4
    go_enter Tryz.func77, Tryz.ntmps77
    go_wp2_with fail
    refine HO.out.mono ?_
    rintro e w1 ⟨hk1, ht1, v', q, rfl, hres⟩
    have HK1 := hid hk1
    have HT1 := hid (TabX.of ht1)
    clear hk1 ht1
    rcases hres with ⟨he, rfl, hby⟩ | ⟨hne, rfl, rfl⟩
    · have HE : Hid (sealI (bs.take (bs.length - 4)) = bs) := by rw [Hid, HXS.out]; exact HSEAL.out.1 he
      have hby2 := ofCrc hby
      rw [ints_nats _ HX6.out] at hby2
      have HBY := hid (hby2.to (B := w1.heap.size) (fun g hg => hg.2))
      obtain ⟨a', c', rfl, _⟩ := HBY.out
      clear he hby hby2
      go_wp2_with fail
      refine (Tlv.get_any _ xs w1 HBY.out).mono ?_
      rintro e w2 ⟨hres, hb2⟩
      have HK2 : Hid (Kept b w w2) := HK1.out.trans (Kept.below hb2)
      have HT2 := hid (HT1.out.below hb2)
      clear hb2
      rcases hres with ⟨hno, rfl⟩ | ⟨t, sb, sk, hs, rfl, hr⟩
      · have HGA : Hid (GAns bs 3 []) := .inr (.inr (.inl ⟨H4.out, HE.out, fun t ht => (by rw [HXS.out, hno] at ht; cases ht), rfl, rfl⟩))
        clear hno
        go_wp2_with fail
        go_ret2
        exact Got.none HGA.out (HK2.out.trans (Kept.below ((Below.refl _ _).alloc (Nat.le_refl _) _))) (HT2.out.below ((Below.refl _ _).alloc (Nat.le_refl _) _))
      · have hkl := kd_len HX6.out hs
        have HKL := hid hkl
        have HS := hid hs
        obtain ⟨a1, l1, p1, a2, l2, p2, rfl, rfl⟩ := hr.sl
        have HR := hid hr
        clear hkl hs hr
        obtain ⟨tg, htg⟩ : ∃ x, t.hd.1 = x := ⟨_, rfl⟩
        obtain ⟨nu, hnu⟩ : ∃ x, t.hd.2.1 = x := ⟨_, rfl⟩
        have HEN : Hid (∀ W, Below w2.heap.size w2 W → Calls Tryz.prog 129 #[.agg #[.int .i64 tg, .int .u64 nu, .slice a1 l1 p1, .slice a2 l2 p2]] W fun e w' =>
            ((¬ GoodT t ∧ e = .returned (.tuple #[.slice none 0 0, .bool false])) ∨ (GoodT t ∧ ∃ v, e = .returned (.tuple #[v, .bool true]) ∧ Mine W w' v (t.kd.map entOf) ∧ Oks (t.kd.map entOf))) ∧ Kp No W w') := fun W hW => by
          rw [← htg, ← hnu]
          exact entries_any t _ _ w1.heap.size w2.heap.size W (HR.out.agree (Agree.below hW) (Nat.le_refl _) (Nat.le_refl _)) hW.size (by have := HKL.out; have := HXL.out; omega)
        rw [htg, hnu]
        clear htg hnu
        go_wp2_with fail
        have hBA : Below w2.heap.size w2 (w2.alloc (.cells #[.int .i64 tg, .int .u64 nu, .slice a1 l1 p1, .slice a2 l2 p2] 203)) := (Below.refl _ _).alloc (Nat.le_refl _) _
        have HBA := hid hBA
        clear hBA
        refine (HEN.out _ HBA.out).mono ?_
        rintro e w3 ⟨hres, hk3⟩
        have HB3 : Hid (Below w2.heap.size w2 w3) := HBA.out.trans (hk3.toBelow'.mono HBA.out.size)
        have HK3 : Hid (Kept b w w3) := HK2.out.trans (Kept.below HB3.out)
        have HT3 := hid (HT2.out.below HB3.out)
        clear hk3
        rcases hres with ⟨hng, rfl⟩ | ⟨hg, v3, rfl, hm, hok⟩
        · have HGA : Hid (GAns bs 3 []) := .inr (.inr (.inl ⟨H4.out, HE.out, fun u hu => (by rw [HXS.out, HS.out] at hu; cases hu; exact hng), rfl, rfl⟩))
          clear hng
          go_wp2_with fail
          go_ret2
          exact Got.none HGA.out HK3.out HT3.out
        · have HGA : Hid (GAns bs 0 (t.kd.map entOf)) := .inr (.inr (.inr ⟨H4.out, HE.out, t, by rw [HXS.out]; exact HS.out, hg, rfl, rfl⟩))
          have HFIN : Hid (Got w w3 b bs (.returned (.tuple #[v3, .int .i64 0]))) := ⟨v3, 0, _, rfl, HGA.out, hm.1, fun x hx => Nat.le_trans (Nat.le_trans HK2.out.size HBA.out.size) (hm.2.1 x hx), hok, HK3.out, HT3.out⟩
          clear hg hm hok HGA
          go_wp2_with fail
          go_ret2
          exact HFIN.out
    · have HGA : Hid (GAns bs 4 []) := .inr (.inl ⟨H4.out, fun e => hne (HSEAL.out.2 (by rw [← HXS.out]; exact e)), rfl, rfl⟩)
      clear hne
      go_wp2_with fail
      go_ret2
      exact Got.none HGA.out HK1.out HT1.out
end Go.Proofs.YthmimipoooemjaaGreatDoor.Sg
end

section
/-
  Plain mathematics: sealed bytes of which one is turned are not sealed.
-/
namespace Go.Proofs.YthmimipoooemjaaGreatDoor.Sg
open Crc (turn)
end Go.Proofs.YthmimipoooemjaaGreatDoor.Sg
end

section
/-
  Two lists of the document's entries: are they the same?
-/
namespace Go.Proofs.YthmimipoooemjaaGreatDoor.Sg
open Go.RowKit
open Sim (hid Kp No)

theorem eqHashAt (D : Nat) (xs ys : List Int) (hx : xs.length = 32) (hy : ys.length = 32) (bx : ∀ x ∈ xs, 0 ≤ x ∧ x ≤ 255) (bY : ∀ x ∈ ys, 0 ≤ x ∧ x ≤ 255) (w : World) :
    (Op.equalIn (D + 2) 53 (.agg (b8 xs).toArray) (.agg (b8 ys).toArray)).run Tryz.prog w = .ok (decide (xs = ys)) w := by
  have h := run_equalIn_bytes (P := Tryz.prog) w D 53 5 32 Tryz.underlying53 Tryz.underlying5 Tryz.sizeOf5 (xs.map fun x => x.toNat.toUInt8) (ys.map fun x => x.toNat.toUInt8) (by simpa using hx) (by simpa using hy)
  rw [cells_b8 xs bx, cells_b8 ys bY] at h
  have e : ((xs.map fun x => x.toNat.toUInt8) == (ys.map fun x => x.toNat.toUInt8)) = decide (xs = ys) := by
    rw [Bool.eq_iff_iff]
    simp only [beq_iff_eq, decide_eq_true_eq]
    exact ⟨map_inj8 xs ys bx bY, fun e => by rw [e]⟩
  rw [e] at h
  exact h
theorem ent_take {x : Ent} (hx : EOk x) : (entC x).take 32 = b8 x.1 := by
  unfold entC
  rw [List.take_append_of_le_length (by rw [b8_length, hx.1]; omega), List.take_of_length_le (by rw [b8_length, hx.1]; omega)]
theorem ent_at {x : Ent} (hx : EOk x) (j : Nat) : (entC x)[32 + j]? = [Value.int .i64 x.2.1, .int .i64 x.2.2.1, .int .i64 x.2.2.2][j]? := by
  unfold entC
  rw [List.getElem?_append_right (by rw [b8_length, hx.1]; omega), b8_length, hx.1, Nat.add_sub_cancel_left]
theorem eqEnt {x y : Ent} (hx : EOk x) (hy : EOk y) (w : World) : (Op.equalIn 10000 159 (.agg (entC x).toArray) (.agg (entC y).toArray)).run Tryz.prog w = .ok (decide (x = y)) w := by
  have p1 := ent_take hx
  have p2 := ent_take hy
  have c0 : (entC x)[32]? = some (.int .i64 x.2.1) := ent_at hx 0
  have c1 : (entC x)[33]? = some (.int .i64 x.2.2.1) := ent_at hx 1
  have c2 : (entC x)[34]? = some (.int .i64 x.2.2.2) := ent_at hx 2
  have d0 : (entC y)[32]? = some (.int .i64 y.2.1) := ent_at hy 0
  have d1 : (entC y)[33]? = some (.int .i64 y.2.2.1) := ent_at hy 1
  have d2 : (entC y)[34]? = some (.int .i64 y.2.2.2) := ent_at hy 2
  have q1 : (Op.equalIn 9999 53 (.agg (b8 x.1).toArray) (.agg (b8 y.1).toArray)).run Tryz.prog w = .ok (decide (x.1 = y.1)) w := eqHashAt 9997 x.1 y.1 hx.1 hy.1 hx.2 hy.2 w
  generalize entC x = X at *
  generalize entC y = Y at *
  generalize b8 x.1 = bx at *
  generalize b8 y.1 = bY at *
  rw [show (10000 : Nat) = 9999 + 1 from rfl, Op.equalIn]
  go_simp
  clear hx hy c0 c1 c2 d0 d1 d2 q1 p1 p2
  obtain ⟨nm, p, q, r⟩ := x
  obtain ⟨nm', p', q', r'⟩ := y
  simp only [Prod.mk.injEq]
  by_cases e0 : nm = nm' <;> by_cases e1 : p = p' <;> by_cases e2 : q = q' <;> by_cases e3 : r = r' <;> simp [e0, e1, e2, e3]

theorem ev_row {P : Nat → Prop} {w : World} {a : Option Addr} {n c : Nat} {d : List Ent} (h : EV P w (.slice a n c) d) (hd : d ≠ []) : ∃ g o, a = some ⟨g, o, none⟩ ∧ P g ∧ ERow w g o d := by
  obtain ⟨a', c', e, _, _, _, _, h6⟩ := h
  simp only [Value.slice.injEq] at e
  rw [e.1]
  exact h6 hd

set_option maxHeartbeats 2000000 in
set_option maxRecDepth 100000 in
theorem same_any (w : World) (v v' : Value) (a b : List Ent) (P P' : Nat → Prop) (hv : EV P w v a) (hv' : EV P' w v' b) (hl : a.length ≤ 1000000) :
    Calls Tryz.prog 38 #[v, v'] w fun e w' => e = .returned (.bool (decide (a = b))) ∧ Kp No w w' := by
  have HV := hid hv
  have HV' := hid hv'
  obtain ⟨x1, c1, e1, _⟩ := hv
  obtain ⟨x2, c2, e2, _⟩ := hv'
  subst e1
  subst e2
  obtain ⟨n, hn⟩ : ∃ n, a.length = n := ⟨_, rfl⟩
  obtain ⟨m, hm⟩ : ∃ m, b.length = m := ⟨_, rfl⟩
  have HN := hid hn
  have HM := hid hm
  rw [hn] at HV hl ⊢
  rw [hm] at HV' ⊢
  clear hn hm
  obtain ⟨z, hz⟩ : ∃ z, decide (a = b) = z := ⟨_, rfl⟩
  rw [hz]
  have HZ := hid hz
  clear hz
  by_cases hnm : n = m
  · subst hnm
    go_enter Tryz.func38, Tryz.ntmps38
    go_wp2_with fail
    go_loopw [5] (fun v5 wr => ∃ (k : Nat), v5 = .int .i64 (k : Int) ∧ k ≤ n ∧ Hid (a.take k = b.take k) ∧ Hid (Kp No w wr)) (fun v5 _ => n - (intOf v5).toNat)
    case atStart => exact ⟨0, rfl, Nat.zero_le _, rfl, Kp.refl _ _⟩
    case round =>
      obtain ⟨k, rfl, hkn, HS, HK⟩ := hrel
      by_cases hlt : k < n
      · have hltI : (k : Int) < (n : Int) := by omega
        have hwk : IntKind.i64.wrap ((k : Int) + 1) = ((k + 1 : Nat) : Int) := by rw [IntKind.wrap_i64]; omega
        obtain ⟨x, hx⟩ : ∃ x, a[k]? = some x := ⟨_, List.getElem?_eq_getElem (by rw [HN.out]; exact hlt)⟩
        obtain ⟨y, hy⟩ : ∃ y, b[k]? = some y := ⟨_, List.getElem?_eq_getElem (by rw [HM.out]; exact hlt)⟩
        obtain ⟨g, o, rfl, _, hr⟩ := ev_row (HV.out.kept HK.out) (by intro e; have := HN.out; rw [e] at this; simp at this; omega)
        obtain ⟨g', o', rfl, _, hr'⟩ := ev_row (HV'.out.kept HK.out) (by intro e; have := HM.out; rw [e] at this; simp at this; omega)
        obtain ⟨hxo, hxr⟩ := hr.2 k x hx
        obtain ⟨hyo, hyr⟩ := hr'.2 k y hy
        have HQ := hid (fun W => eqEnt hxo hyo W)
        have hq := HQ.out
        have HX := hid hxr
        have HY := hid hyr
        have HI1 : Hid ((Tryz.prog.info? 159).map (·.size) = some (entC x).length) := by rw [Hid, entC_length hxo]; kernel_rfl
        have HI2 : Hid ((Tryz.prog.info? 159).map (·.size) = some (entC y).length) := by rw [Hid, entC_length hyo]; kernel_rfl
        have HGW := hid hr.1
        have HGW' := hid hr'.1
        have HGX := hid hx
        have HGY := hid hy
        clear hr hr' hxo hyo hxr hyr hx hy HQ
        obtain ⟨zz, hzz⟩ : ∃ zz, decide (x = y) = zz := ⟨_, rfl⟩
        rw [hzz] at hq
        have HZZ := hid hzz
        clear hzz
        generalize entC x = X at *
        generalize entC y = Y at *
        have HLX : Hid (∀ V, Kp No wr V → V.rangeAt g (o + k * 35) X) := fun V hV j u hj => (hV.cell (p := ⟨g, _, none⟩) HGW.out (fun x => x)).trans (HX.out j u hj)
        have HLY : Hid (∀ V, Kp No wr V → V.rangeAt g' (o' + k * 35) Y) := fun V hV j u hj => (hV.cell (p := ⟨g', _, none⟩) HGW'.out (fun x => x)).trans (HY.out j u hj)
        cases zz with
        | true =>
          have HN2 : Hid (a.take (k + 1) = b.take (k + 1)) := by
            rw [Hid, List.take_add_one, List.take_add_one, HS.out, HGX.out, HGY.out, of_decide_eq_true HZZ.out]
          go_wp2_with fail
          refine wp_region_held_drew (S := fun V => Kp No wr V) (by kernel_rfl) ((Kp.refl _ _).drew) (fun hHeld => ?_)
          refine wpAnyH_take (i := 0) (oi := ⟨some 17, .move (.tmp 0), 77, "ref.go:148", #[], none⟩) (v := .slice (some ⟨g, o, none⟩) n c1) rfl (by kernel_rfl) (by kernel_rfl) (by kernel_rfl) (fun _ _ _ h => h) (Or.inl ⟨by rfl, fun w' hw' => by (clear hw'; go_simp)⟩) hHeld ?_
          simp only [Act.put, sjA, sjB, sjC]
          refine wpAnyH_take (i := 1) (oi := ⟨some 18, .move (.tmp 5), 3, "ref.go:148", #[], none⟩) (v := .int .i64 (k : Int)) rfl (by kernel_rfl) (by kernel_rfl) (by kernel_rfl) (fun _ _ _ h => h) (Or.inl ⟨by rfl, fun w' hw' => by (clear hw'; go_simp)⟩) hHeld ?_
          simp only [Act.put, sjA, sjB, sjC]
          refine wpAnyH_take (i := 2) (oi := ⟨some 19, .indexAddr 77 (.tmp 17) (.tmp 18), 0, "ref.go:148", #[⟨0, .data⟩, ⟨1, .data⟩], none⟩) (v := .pointer (some ⟨g, o + k * 35, none⟩)) rfl (by kernel_rfl) (by kernel_rfl) (by kernel_rfl) (fun _ _ _ h => h) (Or.inl ⟨by rfl, fun w' hw' => by (clear hw'; go_simp)⟩) hHeld ?_
          simp only [Act.put, sjA, sjB, sjC]
          refine wpAnyH_take (i := 3) (oi := ⟨some 20, .load 159 (.tmp 19), 159, "ref.go:148", #[⟨2, .data⟩], none⟩) (v := .agg X.toArray) rfl (by kernel_rfl) (by kernel_rfl) (by kernel_rfl) (fun _ _ _ h => h) (yieldsIf_load_mid (by rfl) _ _ rfl g (o + k * 35) rfl X _ (HLX.out) Tryz.underlying159 rfl HI1.out) hHeld ?_
          simp only [Act.put, sjA, sjB, sjC]
          refine wpAnyH_take (i := 4) (oi := ⟨some 21, .move (.tmp 1), 77, "ref.go:148", #[], none⟩) (v := .slice (some ⟨g', o', none⟩) n c2) rfl (by kernel_rfl) (by kernel_rfl) (by kernel_rfl) (fun _ _ _ h => h) (Or.inl ⟨by rfl, fun w' hw' => by (clear hw'; go_simp)⟩) hHeld ?_
          simp only [Act.put, sjA, sjB, sjC]
          refine wpAnyH_take (i := 5) (oi := ⟨some 22, .move (.tmp 5), 3, "ref.go:148", #[], none⟩) (v := .int .i64 (k : Int)) rfl (by kernel_rfl) (by kernel_rfl) (by kernel_rfl) (fun _ _ _ h => h) (Or.inl ⟨by rfl, fun w' hw' => by (clear hw'; go_simp)⟩) hHeld ?_
          simp only [Act.put, sjA, sjB, sjC]
          refine wpAnyH_take (i := 6) (oi := ⟨some 23, .indexAddr 77 (.tmp 21) (.tmp 22), 0, "ref.go:148", #[⟨4, .data⟩, ⟨5, .data⟩], none⟩) (v := .pointer (some ⟨g', o' + k * 35, none⟩)) rfl (by kernel_rfl) (by kernel_rfl) (by kernel_rfl) (fun _ _ _ h => h) (Or.inl ⟨by rfl, fun w' hw' => by (clear hw'; go_simp)⟩) hHeld ?_
          simp only [Act.put, sjA, sjB, sjC]
          refine wpAnyH_take (i := 7) (oi := ⟨some 24, .load 159 (.tmp 23), 159, "ref.go:148", #[⟨6, .data⟩], none⟩) (v := .agg Y.toArray) rfl (by kernel_rfl) (by kernel_rfl) (by kernel_rfl) (fun _ _ _ h => h) (yieldsIf_load_mid (by rfl) _ _ rfl g' (o' + k * 35) rfl Y _ (HLY.out) Tryz.underlying159 rfl HI2.out) hHeld ?_
          simp only [Act.put, sjA, sjB, sjC]
          refine wpAnyH_take (i := 8) (oi := ⟨some 25, .binOp BinOp.neq 159 (.tmp 20) (.tmp 24) 159, 4, "ref.go:148", #[⟨3, .data⟩, ⟨7, .data⟩], none⟩) (v := .bool false) rfl (by kernel_rfl) (by kernel_rfl) (by kernel_rfl) (fun _ _ _ h => h) (Or.inl ⟨by rfl, fun w' hw' => by (clear hw'; go_simp)⟩) hHeld ?_
          simp only [Act.put, sjA, sjB, sjC]
          refine wpAnyH_done (by kernel_rfl) ?_ _
          clear hHeld
          go_wp2_with fail
          go_round
          case rel => exact ⟨k + 1, by first | rfl | go_num, by omega, HN2.out, HK.out.drew⟩
          case measure => simp [intOf]; omega
        | false =>
          have HNO : Hid (z = false) := by
            rw [Hid, ← HZ.out, decide_eq_false_iff_not]
            intro e
            have h1 := HGX.out
            rw [e, HGY.out] at h1
            cases h1
            have h2 := HZZ.out
            simp at h2
          go_wp2_with fail
          refine wp_region_held_drew (S := fun V => Kp No wr V) (by kernel_rfl) ((Kp.refl _ _).drew) (fun hHeld => ?_)
          refine wpAnyH_take (i := 0) (oi := ⟨some 17, .move (.tmp 0), 77, "ref.go:148", #[], none⟩) (v := .slice (some ⟨g, o, none⟩) n c1) rfl (by kernel_rfl) (by kernel_rfl) (by kernel_rfl) (fun _ _ _ h => h) (Or.inl ⟨by rfl, fun w' hw' => by (clear hw'; go_simp)⟩) hHeld ?_
          simp only [Act.put, sjA, sjB, sjC]
          refine wpAnyH_take (i := 1) (oi := ⟨some 18, .move (.tmp 5), 3, "ref.go:148", #[], none⟩) (v := .int .i64 (k : Int)) rfl (by kernel_rfl) (by kernel_rfl) (by kernel_rfl) (fun _ _ _ h => h) (Or.inl ⟨by rfl, fun w' hw' => by (clear hw'; go_simp)⟩) hHeld ?_
          simp only [Act.put, sjA, sjB, sjC]
          refine wpAnyH_take (i := 2) (oi := ⟨some 19, .indexAddr 77 (.tmp 17) (.tmp 18), 0, "ref.go:148", #[⟨0, .data⟩, ⟨1, .data⟩], none⟩) (v := .pointer (some ⟨g, o + k * 35, none⟩)) rfl (by kernel_rfl) (by kernel_rfl) (by kernel_rfl) (fun _ _ _ h => h) (Or.inl ⟨by rfl, fun w' hw' => by (clear hw'; go_simp)⟩) hHeld ?_
          simp only [Act.put, sjA, sjB, sjC]
          refine wpAnyH_take (i := 3) (oi := ⟨some 20, .load 159 (.tmp 19), 159, "ref.go:148", #[⟨2, .data⟩], none⟩) (v := .agg X.toArray) rfl (by kernel_rfl) (by kernel_rfl) (by kernel_rfl) (fun _ _ _ h => h) (yieldsIf_load_mid (by rfl) _ _ rfl g (o + k * 35) rfl X _ (HLX.out) Tryz.underlying159 rfl HI1.out) hHeld ?_
          simp only [Act.put, sjA, sjB, sjC]
          refine wpAnyH_take (i := 4) (oi := ⟨some 21, .move (.tmp 1), 77, "ref.go:148", #[], none⟩) (v := .slice (some ⟨g', o', none⟩) n c2) rfl (by kernel_rfl) (by kernel_rfl) (by kernel_rfl) (fun _ _ _ h => h) (Or.inl ⟨by rfl, fun w' hw' => by (clear hw'; go_simp)⟩) hHeld ?_
          simp only [Act.put, sjA, sjB, sjC]
          refine wpAnyH_take (i := 5) (oi := ⟨some 22, .move (.tmp 5), 3, "ref.go:148", #[], none⟩) (v := .int .i64 (k : Int)) rfl (by kernel_rfl) (by kernel_rfl) (by kernel_rfl) (fun _ _ _ h => h) (Or.inl ⟨by rfl, fun w' hw' => by (clear hw'; go_simp)⟩) hHeld ?_
          simp only [Act.put, sjA, sjB, sjC]
          refine wpAnyH_take (i := 6) (oi := ⟨some 23, .indexAddr 77 (.tmp 21) (.tmp 22), 0, "ref.go:148", #[⟨4, .data⟩, ⟨5, .data⟩], none⟩) (v := .pointer (some ⟨g', o' + k * 35, none⟩)) rfl (by kernel_rfl) (by kernel_rfl) (by kernel_rfl) (fun _ _ _ h => h) (Or.inl ⟨by rfl, fun w' hw' => by (clear hw'; go_simp)⟩) hHeld ?_
          simp only [Act.put, sjA, sjB, sjC]
          refine wpAnyH_take (i := 7) (oi := ⟨some 24, .load 159 (.tmp 23), 159, "ref.go:148", #[⟨6, .data⟩], none⟩) (v := .agg Y.toArray) rfl (by kernel_rfl) (by kernel_rfl) (by kernel_rfl) (fun _ _ _ h => h) (yieldsIf_load_mid (by rfl) _ _ rfl g' (o' + k * 35) rfl Y _ (HLY.out) Tryz.underlying159 rfl HI2.out) hHeld ?_
          simp only [Act.put, sjA, sjB, sjC]
          refine wpAnyH_take (i := 8) (oi := ⟨some 25, .binOp BinOp.neq 159 (.tmp 20) (.tmp 24) 159, 4, "ref.go:148", #[⟨3, .data⟩, ⟨7, .data⟩], none⟩) (v := .bool true) rfl (by kernel_rfl) (by kernel_rfl) (by kernel_rfl) (fun _ _ _ h => h) (Or.inl ⟨by rfl, fun w' hw' => by (clear hw'; go_simp)⟩) hHeld ?_
          simp only [Act.put, sjA, sjB, sjC]
          refine wpAnyH_done (by kernel_rfl) ?_ _
          clear hHeld
          go_wp2_with fail
          go_ret
          exact ⟨by rw [HNO.out]; rfl, HK.out.drew⟩
      · have hltI : ¬ (k : Int) < (n : Int) := by omega
        have HYE : Hid (z = true) := by
          rw [Hid, ← HZ.out, decide_eq_true_eq]
          have h := HS.out
          rwa [List.take_of_length_le (by rw [HN.out]; omega), List.take_of_length_le (by rw [HM.out]; omega)] at h
        go_wp2_with fail
        go_ret
        exact ⟨by rw [HYE.out]; rfl, HK.out⟩
  · have hne : ((n : Int) != (m : Int)) = true := by simp; omega
    have HNO : Hid (z = false) := by
      rw [Hid, ← HZ.out, decide_eq_false_iff_not]
      intro e
      exact hnm (by rw [← HN.out, ← HM.out, e])
    go_enter Tryz.func38, Tryz.ntmps38
    go_wp2_with fail
    go_ret
    exact ⟨by rw [HNO.out]; rfl, Kp.refl _ _⟩
end Go.Proofs.YthmimipoooemjaaGreatDoor.Sg
end

section
/-
  Where of the tenth law: a place of the program's type as the document's.
-/
namespace Go.Proofs.YthmimipoooemjaaGreatDoor.Sg
open Go.RowKit
open Sim (hid Kp No)

set_option maxHeartbeats 1000000 in
set_option maxRecDepth 100000 in
theorem where_any (p q r : Int) (w : World) :
    Calls Tryz.prog 78 #[.agg #[.int .i64 p, .int .i64 q, .int .i64 r]] w fun e w' => e = .returned (.agg #[.int .i64 p, .int .i64 q, .int .i64 r]) ∧ Kp No w w' := by
  go_enter Tryz.func78, Tryz.ntmps78
  go_wp2
  refine bodyPost_ret (v := .agg #[.int .i64 p, .int .i64 q, .int .i64 r]) (by simp [results, Tryz.results78, go_sem]) rfl ⟨rfl, ?_⟩
  exact ((Kp.refl No w).alloc _).alloc _
end Go.Proofs.YthmimipoooemjaaGreatDoor.Sg
end

section
/-
  Back of the tenth law: entries of the program's type as the document's.
-/
namespace Go.Proofs.YthmimipoooemjaaGreatDoor.Sg
open Go.RowKit
open Stb (Stab Srt Mrg)
open Sim (hid Kp No)

theorem infoR : (Tryz.prog.info? 159).map (fun i => (i.zero, i.size, i.bytes)) = some (some (.agg zE.toArray), 35, 56) := by kernel_rfl
theorem builtR (nm : List Int) (p q r : Int) (h : nm.length = 32) : Tryz.prog.built 159 [(0, .agg (b8 nm).toArray), (1, .agg #[.int .i64 p, .int .i64 q, .int .i64 r])] = some (entC (nm, p, q, r)).toArray := by
  obtain ⟨x0, x1, x2, x3, x4, x5, x6, x7, x8, x9, x10, x11, x12, x13, x14, x15, x16, x17, x18, x19, x20, x21, x22, x23, x24, x25, x26, x27, x28, x29, x30, x31, rfl⟩ := x32 h
  kernel_rfl
theorem run_oneR (nm : List Int) (p q r : Int) (h : nm.length = 32) (w : World) : (Instr.buildSlice 77 1 #[(0, .agg (entC (nm, p, q, r)).toArray)]).run Tryz.prog w = .ok (.slice (some ⟨w.heap.size, 0, none⟩) 1 1) (w.alloc (.cells (entC (nm, p, q, r)).toArray 159)) := by
  obtain ⟨x0, x1, x2, x3, x4, x5, x6, x7, x8, x9, x10, x11, x12, x13, x14, x15, x16, x17, x18, x19, x20, x21, x22, x23, x24, x25, x26, x27, x28, x29, x30, x31, rfl⟩ := x32 h
  kernel_rfl
theorem own_rowT {ty : TypeId} {w : World} {g n cap : Nat} {d : List Ent} (h : Sim.Row w ty 35 (.slice (some ⟨g, 0, none⟩) n cap) n (ents d)) (hn : d.length = n) (hd : ∀ e ∈ d, EOk e) : EOwn w g 0 d := by
  have hg : g < w.heap.size := h.lt g rfl
  refine ⟨⟨hg, fun i e hi => ⟨hd e (List.mem_of_getElem? hi), fun j u hj => ?_⟩⟩, fun i hi j hj => ?_⟩
  · have hil := (List.getElem?_eq_some_iff.1 hi).1
    have hjl := (List.getElem?_eq_some_iff.1 hj).1
    rw [entC_length (hd e (List.mem_of_getElem? hi))] at hjl
    rw [Nat.zero_add, h.cellAt (i * 35 + j) (by omega), ents_at d hd i j e hi hjl]
    exact hj
  · have hx : ∃ u, (ents d)[i * 35 + j]? = some u := ⟨_, List.getElem?_eq_getElem (by rw [ents_length d hd]; omega)⟩
    obtain ⟨u, hu⟩ := hx
    rw [Nat.zero_add, h.cellAt (i * 35 + j) (by omega), hu]
    exact ⟨rfl, World.ownsRow.frozenAt h _⟩
theorem ev_of_rowT {ty : TypeId} {w : World} {v : Value} {d : List Ent} {P : Nat → Prop} (h : Sim.Row w ty 35 v d.length (ents d)) (hd : ∀ e ∈ d, EOk e) (hP : ∀ x, v.ownBlock = some x → P x) : EV P w v d := by
  obtain ⟨a, cap, rfl, h2, h3, h4, h5⟩ := h.shape
  refine ⟨a, cap, rfl, h2, h3, fun e => ⟨List.length_eq_zero_iff.1 (h4 e).1, (h4 e).2⟩, hd, fun hne => ?_⟩
  cases a with
  | none => exact absurd (List.length_eq_zero_iff.1 (h4 rfl).1) hne
  | some x =>
    obtain ⟨g, o, sp⟩ := x
    obtain ⟨e1, e2⟩ := h5 _ rfl
    cases e1
    cases e2
    exact ⟨g, 0, rfl, hP g rfl, (own_rowT h rfl hd).1⟩

/-- A row of the document's entries, of the call's own, that began at u. -/
def MineR (u w : World) (v : Value) (d : List Ent) : Prop := Sim.Row w 159 35 v d.length (ents d) ∧ (∀ x, v.ownBlock = some x → u.heap.size ≤ x) ∧ Kp No u w
theorem MineR.nil (w : World) : MineR w w (.slice none 0 0) [] := ⟨Sim.Row.nil _ _ _, by intro x hx; simp [Value.ownBlock] at hx, Kp.refl _ _⟩
theorem app_runR (w : World) (ty : TypeId) (v vx : Value) (n m : Nat) (xs ys : List Value) (hown : Sim.Row w 159 35 v n xs) (hy : Sim.Src w vx m 35 ys) (hm : 0 < m) (hlen : n + m ≤ 2000000) :
    ∃ ad cap w', (Builtin.append_ #[77, 77] ty #[v, vx]).run Tryz.prog w = .ok (.slice ad (n + m) cap) w' ∧ Sim.Row w' 159 35 (.slice ad (n + m) cap) (n + m) (xs ++ ys) ∧ w.grownBy w' v.ownBlock ∧ ((Value.slice ad (n + m) cap).ownBlock = v.ownBlock ∨ (Value.slice ad (n + m) cap).ownBlock = some w.heap.size) := by
  obtain ⟨i0, hi, hz0, hz1', hz2⟩ := info_parts infoR
  rcases hy with ⟨rfl, rfl, rfl⟩ | ⟨ad, c, rfl, hl, hc, h1⟩
  · omega
  · obtain ⟨v', w', hr, h8, h9, _, h10⟩ := run_append_own_at (P := Tryz.prog) w 0 77 ty 159 i0 (.agg zE.toArray) 35 56 Tryz.underlying77 hi hz0 hz1' hz2 rfl (by omega) v n xs hown ad m c ys hl hc h1 (by unfold maxLen; omega) (by omega) (Nat.zero_le _)
    have h8' : Sim.Row w' 159 35 v' (n + m) (xs ++ ys) := h8
    obtain ⟨ad', cap', rfl, _⟩ := h8'.shape
    exact ⟨ad', cap', w', hr, h8, h9, h10⟩

/-- One more of the document's entries behind those that there are. -/
theorem next_R {w wr W1 : World} {ad : Option Addr} {k cap : Nat} {xs : List Ent} {e : Ent} (hM : MineR w wr (.slice ad k cap) xs) (hxk : xs.length = k) (hW : Kp No wr W1) (heo : EOk e) (hk : k ≤ 1000000) (ty : TypeId) :
    ∃ ad2 cap2 w2, (Builtin.append_ #[77, 77] ty #[.slice ad k cap, .slice (some ⟨W1.heap.size, 0, none⟩) 1 1]).run Tryz.prog (W1.alloc (.cells (entC e).toArray 159)) = .ok (.slice ad2 (k + 1) cap2) w2 ∧
      Kp (fun x => (Value.slice ad k cap).ownBlock = some x) wr w2 ∧ MineR w w2 (.slice ad2 (k + 1) cap2) (xs ++ [e]) := by
  have hRA : Sim.Row (W1.alloc (.cells (entC e).toArray 159)) 159 35 (.slice ad k cap) k (ents xs) := by
    have := hM.1
    rw [hxk] at this
    exact this.kept (hW.alloc _)
  have hSC : Sim.Src (W1.alloc (.cells (entC e).toArray 159)) (.slice (some ⟨W1.heap.size, 0, none⟩) 1 1) 1 35 (entC e) := Sim.Src.one W1 (entC e) 35 159 (entC_length heo) (entC_one _)
  obtain ⟨ad2, cap2, w2, hap, hrow2, hgr2, hown2⟩ := app_runR _ ty (.slice ad k cap) (.slice (some ⟨W1.heap.size, 0, none⟩) 1 1) k 1 _ _ hRA hSC (by omega) (by omega)
  have HKA : Kp (fun x => (Value.slice ad k cap).ownBlock = some x) wr (W1.alloc (.cells (entC e).toArray 159)) := (hW.ofNo).alloc _
  have HK2 : Kp (fun x => (Value.slice ad k cap).ownBlock = some x) wr w2 := HKA.grown hgr2 (fun x hx => .inl hx)
  refine ⟨ad2, cap2, w2, hap, HK2, ?_, fun x hx => ?_, hM.2.2.trans HK2 (fun x hx => .inr (hM.2.1 x hx))⟩
  · rw [List.length_append, hxk, ents_append]
    have : ents [e] = entC e := by simp [ents]
    rw [this]
    exact hrow2
  · rcases hown2 with e1 | e1
    · exact hM.2.1 x (by rw [← e1]; exact hx)
    · rw [e1] at hx
      cases hx
      exact Nat.le_trans hM.2.2.size HKA.size

set_option maxHeartbeats 4000000 in
set_option maxRecDepth 100000 in
theorem back_any (w : World) (v : Value) (d : List Ent) (P : Nat → Prop) (hv : EV P w v d) (hl : d.length ≤ 1000000) :
    Calls Tryz.prog 37 #[v] w fun e w' => ∃ r, e = .returned r ∧ MineR w w' r d := by
  obtain ⟨a, c, rfl, h2, h3, h4, h5, h6⟩ := hv
  obtain ⟨n, hn⟩ : ∃ n, d.length = n := ⟨_, rfl⟩
  have HN := hid hn
  rw [hn] at hl ⊢
  have H6 := hid h6
  have HM0 : Hid (MineR w w (.slice none 0 0) (d.take 0)) := MineR.nil w
  clear hn h2 h3 h4 h5 h6
  go_enter Tryz.func37, Tryz.ntmps37
  go_wp2_with fail
  go_loopw [3, 4] (fun v3 v4 wr => ∃ (k : Nat) (ad : Option Addr) (cap : Nat), v3 = .slice ad k cap ∧ v4 = .int .i64 (k : Int) ∧ k ≤ n ∧ Hid (MineR w wr (.slice ad k cap) (d.take k))) (fun _ v4 _ => n - (intOf v4).toNat)
  case atStart => exact ⟨0, none, 0, rfl, rfl, Nat.zero_le _, HM0.out⟩
  case round =>
    obtain ⟨k, ad, cap, rfl, rfl, hkn, HS⟩ := hrel
    by_cases hlt : k < n
    · have hltI : (k : Int) < (n : Int) := by omega
      have hwk : IntKind.i64.wrap ((k : Int) + 1) = ((k + 1 : Nat) : Int) := by rw [IntKind.wrap_i64]; omega
      obtain ⟨g, o, rfl, _, hr⟩ := H6.out (by intro e; have := HN.out; rw [e] at this; simp at this; omega)
      obtain ⟨e, he⟩ : ∃ e, d[k]? = some e := ⟨_, List.getElem?_eq_getElem (by rw [HN.out]; exact hlt)⟩
      obtain ⟨heo, _⟩ := hr.2 k e he
      obtain ⟨nm, p, q, r⟩ := e
      have hnm : nm.length = 32 := heo.1
      have hgO : (Value.slice ad k cap).ownBlock ≠ some g := fun e => by have := HS.out.2.1 g e; have := hr.1; omega
      have hgw : g < wr.heap.size := Nat.lt_of_lt_of_le hr.1 HS.out.2.2.size
      have hrow : ∀ V, Kp (fun x => (Value.slice ad k cap).ownBlock = some x) wr V → V.rangeAt g (o + k * 35) (entC (nm, p, q, r)) := fun V hV j u hu => (hV.cell (p := ⟨g, _, none⟩) hgw hgO).trans (((hr.kp HS.out.2.2 (fun x => x)).2 k _ he).2 j u hu)
      have HLX : Hid (∀ V, Kp (fun x => (Value.slice ad k cap).ownBlock = some x) wr V → V.rangeAt g (o + k * 35) (b8 nm)) := fun V hV => rng_name (hrow V hV)
      have HLP : Hid (∀ V, Kp (fun x => (Value.slice ad k cap).ownBlock = some x) wr V → V.rangeAt g (o + k * 35 + 32) [.int .i64 p, .int .i64 q, .int .i64 r]) := fun V hV => rng_place heo (hrow V hV)
      have HI1 : Hid ((Tryz.prog.info? 53).map (·.size) = some (b8 nm).length) := by rw [Hid, b8_length, hnm]; exact infH
      have HIW : Hid ((Tryz.prog.info? 51).map (·.size) = some [Value.int .i64 p, .int .i64 q, .int .i64 r].length) := infW (nm, p, q, r)
      have HB1 := hid (builtR nm p q r hnm)
      have HB2 := hid (fun W => run_oneR nm p q r hnm W)
      have hkl : (d.take k).length = k := by rw [List.length_take, HN.out]; omega
      have HNX : Hid (d.take (k + 1) = d.take k ++ [(nm, p, q, r)]) := by rw [Hid, List.take_add_one, he]; rfl
      have HNE : Hid (∀ W1, Kp No wr W1 → ∃ ad2 cap2 w2, (Builtin.append_ #[77, 77] 77 #[.slice ad k cap, .slice (some ⟨W1.heap.size, 0, none⟩) 1 1]).run Tryz.prog (W1.alloc (.cells (entC (nm, p, q, r)).toArray 159)) = .ok (.slice ad2 (k + 1) cap2) w2 ∧
          Kp (fun x => (Value.slice ad k cap).ownBlock = some x) wr w2 ∧ MineR w w2 (.slice ad2 (k + 1) cap2) (d.take (k + 1))) := fun W1 hW => by
        rw [HNX.out]
        exact next_R HS.out hkl hW heo (by omega) _
      obtain ⟨C, hC⟩ : ∃ C, entC (nm, p, q, r) = C := ⟨_, rfl⟩
      rw [hC] at HB1 HB2 HNE
      clear hC hkl hrow hr he heo hgO hgw HNX HS
      generalize b8 nm = bx at *
      go_wp2_with fail
      refine wp_region_held_drew (S := fun V => Kp (fun x => (Value.slice ad k cap).ownBlock = some x) wr V) (by kernel_rfl) ((Kp.refl _ _).drew) (fun hHeld => ?_)
      refine wpAnyH_take (i := 0) (oi := ⟨some 11, .move (.tmp 3), 77, "law.go:28", #[], none⟩) (v := .slice ad k cap) rfl (by kernel_rfl) (by kernel_rfl) (by kernel_rfl) (fun _ _ _ h => h) (Or.inl ⟨by rfl, fun w' hw' => by (clear hw'; go_simp)⟩) hHeld ?_
      simp only [Act.put, sjA, sjB, sjC]
      refine wpAnyH_take (i := 1) (oi := ⟨some 12, .move (.tmp 0), 81, "law.go:28", #[], none⟩) (v := .slice (some ⟨g, o, none⟩) n c) rfl (by kernel_rfl) (by kernel_rfl) (by kernel_rfl) (fun _ _ _ h => h) (Or.inl ⟨by rfl, fun w' hw' => by (clear hw'; go_simp)⟩) hHeld ?_
      simp only [Act.put, sjA, sjB, sjC]
      refine wpAnyH_take (i := 2) (oi := ⟨some 13, .move (.tmp 4), 3, "law.go:28", #[], none⟩) (v := .int .i64 (k : Int)) rfl (by kernel_rfl) (by kernel_rfl) (by kernel_rfl) (fun _ _ _ h => h) (Or.inl ⟨by rfl, fun w' hw' => by (clear hw'; go_simp)⟩) hHeld ?_
      simp only [Act.put, sjA, sjB, sjC]
      refine wpAnyH_take (i := 3) (oi := ⟨some 14, .indexAddr 81 (.tmp 12) (.tmp 13), 0, "law.go:28", #[⟨1, .data⟩, ⟨2, .data⟩], none⟩) (v := .pointer (some ⟨g, o + k * 35, none⟩)) rfl (by kernel_rfl) (by kernel_rfl) (by kernel_rfl) (fun _ _ _ h => h) (Or.inl ⟨by rfl, fun w' hw' => by (clear hw'; go_simp)⟩) hHeld ?_
      simp only [Act.put, sjA, sjB, sjC]
      refine wpAnyH_take (i := 4) (oi := ⟨some 15, .fieldAddr 155 (.tmp 14) 0, 0, "law.go:28", #[⟨3, .data⟩], none⟩) (v := .pointer (some ⟨g, o + k * 35, none⟩)) rfl (by kernel_rfl) (by kernel_rfl) (by kernel_rfl) (fun _ _ _ h => h) (Or.inl ⟨by rfl, fun w' hw' => by (clear hw'; go_simp)⟩) hHeld ?_
      simp only [Act.put, sjA, sjB, sjC]
      refine wpAnyH_take (i := 5) (oi := ⟨some 16, .load 53 (.tmp 15), 53, "law.go:28", #[⟨4, .data⟩], none⟩) (v := .agg bx.toArray) rfl (by kernel_rfl) (by kernel_rfl) (by kernel_rfl) (fun _ _ _ h => h) (yieldsIf_load_mid (by rfl) _ _ rfl g (o + k * 35) rfl bx _ (HLX.out) Tryz.underlying53 rfl HI1.out) hHeld ?_
      simp only [Act.put, sjA, sjB, sjC]
      refine wpAnyH_take (i := 6) (oi := ⟨some 17, .move (.tmp 0), 81, "law.go:28", #[], none⟩) (v := .slice (some ⟨g, o, none⟩) n c) rfl (by kernel_rfl) (by kernel_rfl) (by kernel_rfl) (fun _ _ _ h => h) (Or.inl ⟨by rfl, fun w' hw' => by (clear hw'; go_simp)⟩) hHeld ?_
      simp only [Act.put, sjA, sjB, sjC]
      refine wpAnyH_take (i := 7) (oi := ⟨some 18, .move (.tmp 4), 3, "law.go:28", #[], none⟩) (v := .int .i64 (k : Int)) rfl (by kernel_rfl) (by kernel_rfl) (by kernel_rfl) (fun _ _ _ h => h) (Or.inl ⟨by rfl, fun w' hw' => by (clear hw'; go_simp)⟩) hHeld ?_
      simp only [Act.put, sjA, sjB, sjC]
      refine wpAnyH_take (i := 8) (oi := ⟨some 19, .indexAddr 81 (.tmp 17) (.tmp 18), 0, "law.go:28", #[⟨6, .data⟩, ⟨7, .data⟩], none⟩) (v := .pointer (some ⟨g, o + k * 35, none⟩)) rfl (by kernel_rfl) (by kernel_rfl) (by kernel_rfl) (fun _ _ _ h => h) (Or.inl ⟨by rfl, fun w' hw' => by (clear hw'; go_simp)⟩) hHeld ?_
      simp only [Act.put, sjA, sjB, sjC]
      refine wpAnyH_take (i := 9) (oi := ⟨some 20, .fieldAddr 155 (.tmp 19) 1, 0, "law.go:28", #[⟨8, .data⟩], none⟩) (v := .pointer (some ⟨g, o + k * 35 + 32, none⟩)) rfl (by kernel_rfl) (by kernel_rfl) (by kernel_rfl) (fun _ _ _ h => h) (Or.inl ⟨by rfl, fun w' hw' => by (clear hw'; go_simp)⟩) hHeld ?_
      simp only [Act.put, sjA, sjB, sjC]
      refine wpAnyH_take (i := 10) (oi := ⟨some 21, .load 51 (.tmp 20), 51, "law.go:28", #[⟨9, .data⟩], none⟩) (v := .agg [.int .i64 p, .int .i64 q, .int .i64 r].toArray) rfl (by kernel_rfl) (by kernel_rfl) (by kernel_rfl) (fun _ _ _ h => h) (yieldsIf_load_mid (by rfl) _ _ rfl g (o + k * 35 + 32) rfl [.int .i64 p, .int .i64 q, .int .i64 r] _ (HLP.out) Tryz.underlying51 rfl HIW.out) hHeld ?_
      simp only [Act.put, sjA, sjB, sjC]
      refine wpAnyH_ready (rs := [11]) (by kernel_rfl) (by simp) ?_
      refine AllReadyH.cons (o := ⟨some 22, .call { callee := Callee.value (Operand.func 78), args := #[.tmp 21], argTypes := #[51] }, 157, "law.go:28", #[⟨10, .data⟩], none⟩) rfl (fun K hK => ?_) AllReadyH.nil
      go_simp
      refine (where_any p q r _).mono ?_
      rintro e W1 ⟨rfl, hkW⟩
      have HKW : Hid (Kp No wr W1) := (Kp.refl No wr).drew.andNone hkW
      obtain ⟨ad2, cap2, w2, hap, hk2, hm2⟩ := HNE.out W1 HKW.out
      have HAP := hid hap
      have HK2 := hid hk2
      have HF := hid hm2
      have HKA : Hid (Kp (fun x => (Value.slice ad k cap).ownBlock = some x) wr (W1.alloc (.cells C.toArray 159))) := (HKW.out.ofNo).alloc _
      clear hap hk2 hm2 hkW
      go_wp2_with fail
      refine hK.out _ _ (HKW.out.ofNo) (fun hh => ?_)
      clear hK K hHeld
      have hHeld := hh
      clear hh
      try simp only [Act.put, sjA, sjB, sjC]
      refine wpAnyH_take (i := 12) (oi := ⟨some 23, .build 159 #[(0, .tmp 16), (1, .tmp 22)], 159, "law.go:28", #[⟨5, .data⟩, ⟨11, .data⟩], none⟩) (v := .agg C.toArray) rfl (by kernel_rfl) (by kernel_rfl) (by kernel_rfl) (fun _ _ _ h => h) (yields_two (by rfl) 159 0 1 (.tmp 16) (.tmp 22) rfl (.agg bx.toArray) (.agg #[.int .i64 p, .int .i64 q, .int .i64 r]) rfl rfl _ HB1.out) hHeld ?_
      simp only [Act.put, sjA, sjB, sjC]
      refine wpAnyH_ready (rs := [13]) (by kernel_rfl) (by simp) ?_
      refine AllReadyH.cons (o := ⟨some 24, .buildSlice 77 1 #[(0, .tmp 23)], 77, "law.go:28", #[⟨12, .data⟩], none⟩) rfl (fun K hK => ?_) AllReadyH.nil
      rw [if_pos (by rfl)]
      refine wp_valE (exec_sliceE 77 _ rfl (.agg C.toArray) _ rfl (HB2.out _)) ?_
      refine hK.out _ _ HKA.out (fun hh => ?_)
      clear hK K hHeld
      have hHeld := hh
      clear hh
      try simp only [Act.put, sjA, sjB, sjC]
      refine wpAnyH_ready (rs := [14]) (by kernel_rfl) (by simp) ?_
      refine AllReadyH.cons (o := ⟨some 25, .call { callee := Callee.builtin Builtin.append, args := #[.tmp 11, .tmp 24], argTypes := #[77, 77] }, 77, "law.go:28", #[⟨0, .data⟩, ⟨13, .data⟩, ⟨11, .chain⟩], none⟩) rfl (fun K hK => ?_) AllReadyH.nil
      rw [if_pos (by rfl)]
      refine wp_valE (exec_appE _ _ 77 rfl (.slice ad k cap) (.slice (some ⟨W1.heap.size, 0, none⟩) 1 1) _ rfl rfl HAP.out) ?_
      refine hK.out _ _ HK2.out (fun hh => ?_)
      clear hK K hHeld
      have hHeld := hh
      clear hh
      try simp only [Act.put, sjA, sjB, sjC]
      refine wpAnyH_take (i := 15) (oi := ⟨some 3, .assign (.tmp 25), 77, "law.go:28", #[⟨14, .data⟩, ⟨14, .chain⟩, ⟨0, .phase⟩, ⟨1, .phase⟩, ⟨2, .phase⟩, ⟨3, .phase⟩, ⟨4, .phase⟩, ⟨5, .phase⟩, ⟨6, .phase⟩, ⟨7, .phase⟩, ⟨8, .phase⟩, ⟨9, .phase⟩, ⟨10, .phase⟩, ⟨11, .phase⟩, ⟨12, .phase⟩, ⟨13, .phase⟩, ⟨14, .phase⟩], none⟩) (v := .slice ad2 (k + 1) cap2) rfl (by kernel_rfl) (by kernel_rfl) (by kernel_rfl) (fun _ _ _ h => h) (Or.inl ⟨by rfl, fun w' hw' => by (clear hw'; go_simp)⟩) hHeld ?_
      simp only [Act.put, sjA, sjB, sjC]
      refine wpAnyH_done (by kernel_rfl) ?_ _
      clear hHeld
      go_wp2_with fail
      go_round
      case rel => exact ⟨k + 1, ad2, cap2, rfl, by first | rfl | go_num, by omega, HF.out⟩
      case measure => simp [intOf]; omega
    · have hltI : ¬ (k : Int) < (n : Int) := by omega
      have hkn' : k = n := by omega
      have HF : Hid (MineR w wr (.slice ad k cap) d) := by
        have := HS.out
        rw [hkn', ← HN.out, List.take_length] at this
        rw [Hid, hkn', ← HN.out]
        exact this
      clear hkn'
      go_wp2_with fail
      go_ret
      exact ⟨_, rfl, HF.out⟩
end Go.Proofs.YthmimipoooemjaaGreatDoor.Sg
end

section
/-
  Memory of the tenth law of back: a table, and bytes of which one is turned.
-/
namespace Go.Proofs.YthmimipoooemjaaGreatDoor.Sg
open Go.RowKit
open Tlv (Tr Agree BySlS)
open Crc (Kept Tab)
open Sim (hid Kp No)
theorem form_mem {n : Nat} {t : Tr n} (h0 : 0 ≤ t.hd.1 ∧ t.hd.1 ≤ 255) (hl : (Tlv.bodyOf n t).length ≤ 65535) (hb : ∀ x ∈ Tlv.bodyOf n t, 0 ≤ x ∧ x ≤ 255) : ∀ x ∈ Tlv.formOf n t, 0 ≤ x ∧ x ≤ 255 := by
  intro x hx
  simp only [Tlv.formOf, List.mem_cons] at hx
  rcases hx with rfl | rfl | rfl | hx
  · exact h0
  · omega
  · omega
  · exact hb x hx
theorem num_bytes (p : Int) : ∀ x ∈ Tlv.formOf 1 (Tr.mk 1 p [] [] : Tr 1), 0 ≤ x ∧ x ≤ 255 := by
  have e : Tlv.bodyOf 1 (Tr.mk 1 p [] [] : Tr 1) = Tlv.numB (Tlv.nsz p).toNat p := rfl
  have := Tlv.nsz_bd p
  exact form_mem ⟨(by decide : (0 : Int) ≤ 1), (by decide : (1 : Int) ≤ 255)⟩ (by rw [e, Tlv.numB_length]; omega) (by rw [e]; exact Tlv.numB_byte _ _)
theorem ent_bytes {e : Ent} (he : EOk e) : ∀ x ∈ Tlv.formOf 2 (entT e), 0 ≤ x ∧ x ≤ 255 := by
  obtain ⟨h1, _, h3⟩ := ent_bsz he.1 (room := 68) (deep := 1) (by omega) (by omega)
  have h4 := Tlv.bsz_len 2 _ _ _ h1
  refine form_mem ⟨Int.le_of_lt (by decide : (0 : Int) < 3), (by decide : (3 : Int) ≤ 255)⟩ (by omega) ?_
  rw [Tlv.bodyOf_kids (show (entT e).hd.1 = 3 from rfl)]
  intro x hx
  obtain ⟨l, hl, hxl⟩ := List.mem_flatten.1 hx
  obtain ⟨k, hk, rfl⟩ := List.mem_map.1 hl
  have hk' : k ∈ ([Tr.mk 2 0 e.1 [], Tr.mk 1 e.2.1 [] [], Tr.mk 1 e.2.2.1 [] [], Tr.mk 1 e.2.2.2 [] []] : List (Tr 1)) := hk
  rcases List.mem_cons.1 hk' with rfl | hk1
  · refine form_mem (t := (Tr.mk 2 0 e.1 [] : Tr 1)) ⟨(by decide : (0 : Int) ≤ 2), (by decide : (2 : Int) ≤ 255)⟩ (show e.1.length ≤ 65535 by rw [he.1]; omega) (show ∀ x ∈ e.1, 0 ≤ x ∧ x ≤ 255 from he.2) x hxl
  rcases List.mem_cons.1 hk1 with rfl | hk2
  · exact num_bytes _ x hxl
  rcases List.mem_cons.1 hk2 with rfl | hk3
  · exact num_bytes _ x hxl
  rcases List.mem_cons.1 hk3 with rfl | hk4
  · exact num_bytes _ x hxl
  · cases hk4
theorem formE_bd {d : List Ent} (ho : ∀ e ∈ d, EOk e) (hl : d.length ≤ 900) : ∀ x ∈ formE d, 0 ≤ x ∧ x ≤ 255 := by
  have h1 := entsT_right (fun e he => (ho e he).1) hl
  have h2 := Tlv.bsz_fits 3 _ _ _ h1
  have h3 := Tlv.bsz_len 3 _ _ _ h1
  refine form_mem ⟨Int.le_of_lt (by decide : (0 : Int) < 3), (by decide : (3 : Int) ≤ 255)⟩ (by omega) ?_
  rw [Tlv.bodyOf_kids (show (entsT d).hd.1 = 3 from rfl)]
  intro x hx
  obtain ⟨l, hl, hxl⟩ := List.mem_flatten.1 hx
  obtain ⟨k, hk, rfl⟩ := List.mem_map.1 hl
  obtain ⟨e, he, rfl⟩ := List.mem_map.1 hk
  exact ent_bytes (ho e he) x hxl
theorem sealE_bd {d : List Ent} (ho : ∀ e ∈ d, EOk e) (hl : d.length ≤ 900) : ∀ x ∈ sealE d, 0 ≤ x ∧ x ≤ 255 := sealI_bd _ (formE_bd ho hl)
theorem sealE_length {d : List Ent} (ho : ∀ e ∈ d, EOk e) (hl : d.length ≤ 900) : 4 ≤ (sealE d).length ∧ (sealE d).length ≤ 65542 := by
  have := formE_length (fun e he => (ho e he).1) hl
  rw [sealE, sealI_length]
  omega
end Go.Proofs.YthmimipoooemjaaGreatDoor.Sg
end

section
/-
  Open of an index where no file of it is, and no pack.
-/
namespace Go.Proofs.YthmimipoooemjaaGreatDoor.Ix
open Go.RowKit Go.Shelf
open Stb (Stab Srt)
open Sim (hid Kp No PS Done Blk nm ByP finds pBytes)

/-- Load, where the file is not to be read. -/
theorem load_no {P : Nat → Prop} {N : Nat} (w : World) (s : Nat) (t : Addr) (p : PS) (h : Sim.Sys P N w s p) (hf : finds p nI ≠ 0) :
    Calls Tryz.prog 36 #[.pointer (some ⟨s, 0, none⟩), .pointer (some t)] w fun e w' => e = .returned (.tuple #[.slice none 0 0, .int .i64 (finds p nI : Nat)]) ∧ Kp No w w' := by
  have HC := hid (Sim.read_any w s p sI (by decide) h)
  rw [nm_sI] at HC
  unfold sI at HC
  obtain ⟨F, hF⟩ : ∃ F, finds p nI = F := ⟨_, rfl⟩
  rw [hF] at HC hf ⊢
  have hf' : ¬ ((F : Int) = 0) := by omega
  generalize pBytes nI p = bs at *
  clear hF h
  go_enter Tryz.func36, Tryz.ntmps36
  go_wp2_with fail
  refine HC.out.mono ?_
  rintro e w1 ⟨ad, cap, rfl, _, _, hk⟩
  have HK := hid hk
  clear hk HC
  go_wp2_with fail
  refine bodyPost_ret (v := .tuple #[.slice none 0 0, .int .i64 (F : Nat)]) (by simp [results, Tryz.results36, go_sem]) rfl ⟨rfl, HK.out⟩

theorem nats_lt {d : List Sg.Ent} (ho : ∀ e ∈ d, Sg.EOk e) (hl : d.length ≤ 900) : ∀ x ∈ nats (Sg.sealE d), x < 256 := by
  intro x hx
  have hb := Sg.sealE_bd ho hl
  rw [nats, List.mem_map] at hx
  obtain ⟨y, hy, rfl⟩ := hx
  have := hb y hy
  omega

theorem seal0_len : (nats (Sg.sealE [])).length = 7 := by rw [Sg.seal0]; rfl

/-- What Open leaves: a new index with no entry, its list saved. -/
def Open0P (P : Nat → Prop) (N b : Nat) (w : World) (s : Nat) (p : PS) (e : Ending) (w' : World) : Prop :=
  ∃ r, Saved (nats (Sg.sealE [])) p r ∧ TabX w' b ∧
    ((r.1 ≠ 0 ∧ e = .returned (.tuple #[.pointer none, .bool false, .int .i64 (r.1 : Nat)])) ∨
     (r.1 = 0 ∧ ∃ x v, e = .returned (.tuple #[.pointer (some ⟨x, 0, none⟩), .bool true, .int .i64 0]) ∧ w.heap.size ≤ x ∧ IxAt w' x s b v ∧ Sg.EV (fun g => w.heap.size ≤ g) w' v [] ∧
      ∃ P', Sim.Sys P' N w' s r.2 ∧ Kp (fun y => P y ∨ y = b) w w' ∧ (∀ y, P' y → P y ∨ w.heap.size ≤ y) ∧ ¬ P' x ∧ ¬ P' b))

set_option maxHeartbeats 2000000 in
set_option maxRecDepth 100000 in
theorem open0 {P : Nat → Prop} {N : Nat} (w : World) (s b h : Nat) (k : Int) (p : PS) (hS : Sim.Sys P N w s p) (hN : N + 6 ≤ 1000) (hT : TabX w b) (hb : ¬ P b) (hH : Sh.ShAt w h s b k) (hf : finds p nI = 5) (he : Sim.pList p = []) :
    Calls Tryz.prog 39 #[.pointer (some ⟨s, 0, none⟩), .pointer (some ⟨b, 0, none⟩), .pointer (some ⟨h, 0, none⟩)] w fun e w' => Open0P P (N + 6) b w s p e w' := by
  have HLD := hid (load_no w s ⟨b, 0, none⟩ p hS (by rw [hf]; omega))
  rw [hf] at HLD
  have HRB := hid (fun V (hV : Kp No w V) => rebuild0 V (some ⟨h, 0, none⟩) (fun U hU => Sh.ids_none U h s b k p (hH.kp (hV.andNone hU) (fun h => h)) (hS.kept (hV.andNone hU)) he))
  have HBC := hid (fun V v (hV : Kp No w V) (x : Nat) v0 (hX : IxAt V x s b v0) (hx : w.heap.size ≤ x) (hv : Sg.EV (fun g => w.heap.size ≤ g) V v []) => become_any V s b x p v v0 [] (hS.kept hV) hN (hT.kp hV (fun h => h)) hb hX (fun e => by have := hS.lt _ e; omega) (fun e => by have := hT.lt; omega) hv Sg.right0 (by rw [seal0_len]; omega) (nats_lt (by simp) (by simp)))
  have hbl := hT.lt
  have HPL := hid hS.lt
  have hbP := hb
  clear hS hT hH hf he
  go_enter Tryz.func39, Tryz.ntmps39
  go_wp2_with fail
  refine HLD.out.mono ?_
  rintro e w1 ⟨rfl, hk1⟩
  have HK1 := hid hk1
  clear hk1 HLD
  go_wp2_with fail
  refine (HRB.out w1 HK1.out).mono ?_
  rintro e w2 ⟨v, rfl, hv, hk2⟩
  obtain ⟨ra, rc, hr, _⟩ := id hv
  have hr' : v = .slice ra 0 rc := hr
  clear hr
  subst hr'
  have HV : Hid (Sg.EV (fun g => w.heap.size ≤ g) w2 (.slice ra 0 rc) []) := hv.mono (fun g hg => Nat.le_trans HK1.out.size hg)
  have HK2 := hid (HK1.out.andNone hk2)
  clear hv hk2 HRB HK1
  go_wp2_with fail
  have HK3 : Hid (Kp No w (w2.alloc (.cells (ixC s b (.slice none 0 0)).toArray 169))) := HK2.out.alloc _
  refine (HBC.out (w2.alloc (.cells (ixC s b (.slice none 0 0)).toArray 169)) _ HK3.out w2.heap.size _ (Blk.new w2 _ _) HK2.out.size (HV.out.kept ((Kp.refl _ _).alloc _))).mono ?_
  rintro e w4 ⟨r, hsv, rfl, hX, hT, P', hS, hK, hP⟩
  have hsz : (w2.alloc (.cells (ixC s b (.slice none 0 0)).toArray 169)).heap.size = w2.heap.size + 1 := by simp
  have hw2 := HK2.out.size
  have HF : Hid (TabX w4 b ∧ IxAt w4 w2.heap.size s b (if r.1 = 0 then .slice ra 0 rc else .slice none 0 0) ∧ Sg.EV (fun g => w.heap.size ≤ g) w4 (.slice ra 0 rc) [] ∧ ∃ P', Sim.Sys P' (N + 6) w4 s r.2 ∧ Kp (fun y => P y ∨ y = b) w w4 ∧ (∀ y, P' y → P y ∨ w.heap.size ≤ y) ∧ ¬ P' w2.heap.size ∧ ¬ P' b) := by
    refine ⟨hT, hX, ?_, P', hS, HK3.out.ofNo.trans hK (fun y hy => ?_), fun y hy => ?_, fun e => ?_, fun e => ?_⟩
    · obtain ⟨a', c', h1, h2, h3, h4, h5, _⟩ := HV.out
      exact ⟨a', c', h1, h2, h3, h4, h5, fun h => absurd rfl h⟩
    · rcases hy with e | e | e
      · exact .inl (.inl e)
      · exact .inl (.inr e)
      · right; omega
    · rcases hP y hy with e | e
      · exact .inl e
      · right; omega
    · rcases hP _ e with e | e
      · have := HPL.out _ e; omega
      · omega
    · rcases hP _ e with e | e
      · exact hbP e
      · omega
  have HSV := hid hsv
  clear hsz hX hT hS hK hP hsv HBC HV
  by_cases hz : r.1 = 0
  · have HZ := hid hz
    rw [hz]
    clear hz
    go_wp2_with fail
    refine bodyPost_ret (v := .tuple #[.pointer (some ⟨w2.heap.size, 0, none⟩), .bool true, .int .i64 0]) (by simp [results, Tryz.results39, go_sem]) rfl ?_
    obtain ⟨h1, h2, h3, h4⟩ := HF.out
    rw [if_pos HZ.out] at h2
    exact ⟨r, HSV.out, h1, .inr ⟨HZ.out, w2.heap.size, _, rfl, hw2, h2, h3, h4⟩⟩
  · have HZ := hid hz
    obtain ⟨F, hF⟩ : ∃ F, r.1 = F := ⟨_, rfl⟩
    have HFF := hid hF
    rw [hF] at hz ⊢
    have hz' : ¬ ((F : Int) = 0) := by omega
    clear hF
    go_wp2_with fail
    refine bodyPost_ret (v := .tuple #[.pointer none, .bool false, .int .i64 (F : Nat)]) (by simp [results, Tryz.results39, go_sem]) rfl ?_
    exact ⟨r, HSV.out, HF.out.1, .inl ⟨HZ.out, by rw [HFF.out]⟩⟩

end Go.Proofs.YthmimipoooemjaaGreatDoor.Ix
end

section
/-
  An index: Find.
-/
namespace Go.Proofs.YthmimipoooemjaaGreatDoor.Ix
open Go.RowKit Go.Shelf
open Sim (hid Kp No PS Done Blk nm ByP)

set_option maxHeartbeats 2000000 in
set_option maxRecDepth 100000 in
theorem find_any {Q : Nat → Prop} (w : World) (x s b : Nat) (v : Value) (d : List Sg.Ent) (h : List Int) (hX : IxAt w x s b v) (hv : Sg.EV Q w v d) (hl : d.length ≤ 1000000) (hh : h.length = 32) (hb : ∀ x ∈ h, 0 ≤ x ∧ x ≤ 255) :
    Calls Tryz.prog 43 #[.pointer (some ⟨x, 0, none⟩), .agg (Sg.b8 h).toArray] w fun e w' => Sg.FAns d h e ∧ Kp No w w' := by
  have HFD := hid (fun V (hV : Sg.EV Q V v d) => Sg.find_any V v d Q h hV hl hh hb)
  have HIH : Hid ((Tryz.prog.info? 53).map (·.size) = some (Sg.b8 h).length) := by rw [Hid, Sg.b8_length, hh]; exact Sg.infH
  have HIW := hid (show (Tryz.prog.info? 51).map (·.size) = some 3 by kernel_rfl)
  obtain ⟨bh, hbh⟩ : ∃ y, Sg.b8 h = y := ⟨_, rfl⟩
  rw [hbh] at HIH HFD ⊢
  clear hbh hh hb
  have hxl := hX.lt
  obtain ⟨W0, hW0⟩ : ∃ W0, (w.alloc (.cells bh.toArray 53)).alloc (.cells #[.int .i64 0, .int .i64 0, .int .i64 0] 51) = W0 := ⟨_, rfl⟩
  have hK0 : Kp No w W0 := by rw [← hW0]; exact ((Kp.refl No w).alloc _).alloc _
  have hz0 : W0.heap.size = w.heap.size + 2 := by rw [← hW0]; simp
  have HBX : Hid (∀ V, Kp (fun y => y = w.heap.size + 1) W0 V → V.rangeAt w.heap.size 0 bh) := fun V hV j u hu => (hV.cell (p := ⟨w.heap.size, _, none⟩) (by simp; omega) (by simp)).trans (by
    rw [← hW0, World.cell?_alloc_lt _ _ _ (by simp), World.cell?_alloc_at _ _ _ _ rfl]
    simpa using hu)
  have HTH : Hid (∀ V, Kp No W0 V → V.there (w.heap.size + 1) 0 3) := fun V hV j hj => by
    have e : (w.alloc (.cells bh.toArray 53)).heap.size = w.heap.size + 1 := by simp
    have h2 : W0.there (w.heap.size + 1) 0 3 := by rw [← hW0, ← e]; exact Sg.thereE _ _ _ _ (by simp)
    rw [hV.cell (p := ⟨w.heap.size + 1, _, none⟩) (by simp; omega) (fun x => x), hV.frozen (p := ⟨w.heap.size + 1, _, none⟩) (by simp; omega) (fun x => x)]
    exact h2 j hj
  have HE0 := hid (hv.kept hK0)
  have hX0 := hX.kp hK0 (fun h => h)
  obtain ⟨av, cv, rfl, _⟩ := id hv
  have HN := hid (none_any W0 x s b _ hX0)
  have HL : Hid (∀ V, Kp (fun y => y = w.heap.size + 1) W0 V → V.cell? ⟨x, 2, none⟩ = some (.slice av d.length cv)) := fun V hV => (hV.cell (p := ⟨x, 2, none⟩) (by simp; omega) (by simp; omega)).trans (hX0.cell 2)
  have HO3 : Hid (∀ p q r : Int, (#[.int .i64 p, .int .i64 q, .int .i64 r] : Array Value).all (·.oneCell') = true) := fun p q r => by simp [Value.oneCell']
  have HK0 := hid hK0
  obtain ⟨n, hn⟩ : ∃ n, d.length = n := ⟨_, rfl⟩
  rw [hn] at HL HE0 HFD
  clear hX hv hX0 hK0 hn
  go_enter Tryz.func43, Tryz.ntmps43
  go_wp2_with fail
  refine HN.out.mono ?_
  rintro e w1 ⟨rfl, hw1⟩
  subst w1
  clear hW0 HN
  go_wp2_with fail
  refine wp_region_held_drew (S := fun V => Kp (fun y => y = w.heap.size + 1) W0 V) (by kernel_rfl) ((Kp.refl _ _).drew) (fun hHeld => ?_)
  refine wpAnyH_take (i := 0) (oi := ⟨some 9, .move (.tmp 0), 88, "index.go:58", #[], none⟩) (v := .pointer (some ⟨x, 0, none⟩)) rfl (by kernel_rfl) (by kernel_rfl) (by kernel_rfl) (fun _ _ _ h => h) (Or.inl ⟨by rfl, fun w' hw' => by (clear hw'; go_simp)⟩) hHeld ?_
  simp only [Act.put, sjA, sjB, sjC]
  refine wpAnyH_take (i := 1) (oi := ⟨some 10, .nilCheck (.tmp 9), 0, "index.go:58", #[⟨0, .data⟩], none⟩) (v := .pointer (some ⟨x, 0, none⟩)) rfl (by kernel_rfl) (by kernel_rfl) (by kernel_rfl) (fun _ _ _ h => h) (Or.inl ⟨by rfl, fun w' hw' => by (clear hw'; go_simp)⟩) hHeld ?_
  simp only [Act.put, sjA, sjB, sjC]
  refine wpAnyH_take (i := 2) (oi := ⟨some 11, .fieldAddr 169 (.tmp 10) 2, 0, "index.go:58", #[⟨1, .data⟩], none⟩) (v := .pointer (some ⟨x, 2, none⟩)) rfl (by kernel_rfl) (by kernel_rfl) (by kernel_rfl) (fun _ _ _ h => h) (Or.inl ⟨by rfl, fun w' hw' => by (clear hw'; go_simp)⟩) hHeld ?_
  simp only [Act.put, sjA, sjB, sjC]
  refine wpAnyH_take (i := 3) (oi := ⟨some 12, .load 81 (.tmp 11), 81, "index.go:58", #[⟨2, .data⟩], none⟩) (v := .slice av n cv) rfl (by kernel_rfl) (by kernel_rfl) (by kernel_rfl) (fun _ _ _ h => h) (Or.inl ⟨by rfl, fun w' hw' => by (have q0 := HL.out w' hw'; clear hw'; go_simp)⟩) hHeld ?_
  simp only [Act.put, sjA, sjB, sjC]
  refine wpAnyH_take (i := 4) (oi := ⟨some 13, .load 53 (.tmp 3), 53, "index.go:58", #[], none⟩) (v := .agg bh.toArray) rfl (by kernel_rfl) (by kernel_rfl) (by kernel_rfl) (fun _ _ _ h => h) (yieldsIf_load_mid (by rfl) _ _ rfl w.heap.size 0 rfl bh _ (HBX.out) Tryz.underlying53 rfl HIH.out) hHeld ?_
  simp only [Act.put, sjA, sjB, sjC]
  refine wpAnyH_ready (rs := [5]) (by kernel_rfl) (by simp) ?_
  refine AllReadyH.cons (o := ⟨some 14, .call { callee := Callee.value (Operand.func 83), args := #[.tmp 12, .tmp 13], argTypes := #[81, 53] }, 94, "index.go:58", #[⟨3, .data⟩, ⟨4, .data⟩], none⟩) rfl (fun K hK => ?_) AllReadyH.nil
  go_simp
  refine (HFD.out _ (HE0.out.kept ((Kp.refl _ _).drew))).mono ?_
  rintro e w2 ⟨hfa, hk⟩
  obtain ⟨p, bb, rfl, _⟩ := id hfa
  have HFA := hid hfa
  have HK2 : Hid (Kp No W0 w2) := ((Kp.refl _ _).drew).andNone hk
  have HS2 : Hid (Kp (fun y => y = w.heap.size + 1) W0 w2) := HK2.out.ofNo
  clear hfa hk HFD
  go_wp2_with fail
  refine hK.out _ _ (HS2.out) (fun hh => ?_)
  clear hK K hHeld
  have hHeld := hh
  clear hh
  try simp only [Act.put, sjA, sjB, sjC]
  refine wpAnyH_take (i := 6) (oi := ⟨some 15, .extract (.tmp 14) 0, 51, "index.go:58", #[⟨5, .data⟩], none⟩) (v := .agg #[.int .i64 p.1, .int .i64 p.2.1, .int .i64 p.2.2]) rfl (by kernel_rfl) (by kernel_rfl) (by kernel_rfl) (fun _ _ _ h => h) (Or.inl ⟨by rfl, fun w' hw' => by (clear hw'; go_simp)⟩) hHeld ?_
  simp only [Act.put, sjA, sjB, sjC]
  refine wpAnyH_take (i := 7) (oi := ⟨some 16, .extract (.tmp 14) 1, 4, "index.go:58", #[⟨5, .data⟩], none⟩) (v := .bool bb) rfl (by kernel_rfl) (by kernel_rfl) (by kernel_rfl) (fun _ _ _ h => h) (Or.inl ⟨by rfl, fun w' hw' => by (clear hw'; go_simp)⟩) hHeld ?_
  simp only [Act.put, sjA, sjB, sjC]
  refine wpAnyH_ready (rs := [8]) (by kernel_rfl) (by simp) ?_
  refine AllReadyH.cons (o := ⟨none, .store 51 (.tmp 4) (.tmp 15), 0, "index.go:58", #[⟨6, .data⟩, ⟨5, .chain⟩, ⟨0, .phase⟩, ⟨1, .phase⟩, ⟨2, .phase⟩, ⟨3, .phase⟩, ⟨4, .phase⟩, ⟨5, .phase⟩, ⟨6, .phase⟩, ⟨7, .phase⟩], none⟩) rfl (fun K hK => ?_) AllReadyH.nil
  rw [if_pos (by rfl)]
  refine wp_store_mid 51 _ _ (by rfl) (w.heap.size + 1) 0 #[.int .i64 p.1, .int .i64 p.2.1, .int .i64 p.2.2] (by rfl) (by rfl) (HTH.out w2 HK2.out) HIW.out (HO3.out _ _ _) ?_
  have HS3 : Hid (Kp (fun y => y = w.heap.size + 1) W0 (w2.setCells (w.heap.size + 1) 0 [.int .i64 p.1, .int .i64 p.2.1, .int .i64 p.2.2])) := HS2.out.trans (Sg.setCells_kp w2 _ _ _) (fun y hy => .inl hy)
  refine hK.out _ _ (HS3.out) (fun hh => ?_)
  clear hK K hHeld
  have hHeld := hh
  clear hh
  try simp only [Act.put]
  refine wpAnyH_take (i := 9) (oi := ⟨some 5, .assign (.tmp 16), 4, "index.go:58", #[⟨7, .data⟩, ⟨8, .chain⟩, ⟨0, .phase⟩, ⟨1, .phase⟩, ⟨2, .phase⟩, ⟨3, .phase⟩, ⟨4, .phase⟩, ⟨5, .phase⟩, ⟨6, .phase⟩, ⟨7, .phase⟩, ⟨8, .phase⟩], none⟩) (v := .bool bb) rfl (by kernel_rfl) (by kernel_rfl) (by kernel_rfl) (fun _ _ _ h => h) (Or.inl ⟨by rfl, fun w' hw' => by (clear hw'; go_simp)⟩) hHeld ?_
  simp only [Act.put, sjA, sjB, sjC]
  refine wpAnyH_done (by kernel_rfl) ?_ _
  go_wp2_with fail
  have hr : (w2.setCells (w.heap.size + 1) 0 [.int .i64 p.1, .int .i64 p.2.1, .int .i64 p.2.2]).rangeAt (w.heap.size + 1) 0 [.int .i64 p.1, .int .i64 p.2.1, .int .i64 p.2.2] := World.rangeAt_setCells_same _ _ _ _ (HTH.out w2 HK2.out)
  refine bodyPost_ret (v := .tuple #[.agg #[.int .i64 p.1, .int .i64 p.2.1, .int .i64 p.2.2], .bool bb]) (Sg.results_cell_two Tryz.results43 _ _ (w.heap.size + 1) 0 _ _ rfl hr Tryz.underlying51 rfl HIW.out) rfl ⟨HFA.out, ?_⟩
  exact HK0.out.trans HS3.out (fun y hy => .inr (by omega))

end Go.Proofs.YthmimipoooemjaaGreatDoor.Ix
end

section
/-
  A save where nothing is in its way has no fault.
-/
namespace Go.Proofs.YthmimipoooemjaaGreatDoor.Ix
open Sim

theorem sum_dins (f : Nm × Nat → Nat) (x : Nm × Nat) (l : Dir) : ((dins x l).map f).sum = f x + (l.map f).sum := by
  have h := ((perm_dins x l).map f).sum_nat
  simpa using h

theorem dfind_dins_self (n : Nm) (b : Nat) : ∀ l : Dir, (∀ p ∈ l, p.1 ≠ n) → dfind (dins (n, b) l) n = some b
  | [], _ => by simp [dins, dfind]
  | y :: r, h => by
    unfold dins
    split
    · simp [dfind]
    · have hy : (y.1 == n) = false := by simpa using h y (by simp)
      have ih := dfind_dins_self n b r (fun p hp => h p (by simp [hp]))
      rw [dfind] at ih ⊢
      rw [List.find?_cons, hy]
      exact ih

theorem dfind_dput_self (l : Dir) (n : Nm) (b : Nat) : dfind (dput l n b) n = some b :=
  dfind_dins_self n b _ (fun _ hp => (mem_ddel.1 hp).2)

/-- Nothing is in the way of a step, and no temporary list is there. -/
structure Calm (p : PS) : Prop where
  down : p.down = false
  armed : p.armed = false
  temp : dfind p.seen nT = none

theorem Calm.dead {p : PS} (h : p.armed = false) : dead p = false := by simp [Sim.dead, h]
theorem wrongs_zero {p : PS} {l : List Nm} (h : p.down = false) (hl : l.all nameB = true) : wrongs p l = 0 := by simp [wrongs, h, hl]
theorem finds_of {p : PS} {n : Nm} (h : p.down = false) (hn : nameB n = true) : finds p n = if (dfind p.seen n).isSome then 0 else 5 := by
  rw [finds, wrongs_zero h (by simp [hn])]
  simp

theorem ddel_none {l : Dir} {n : Nm} (h : dfind l n = none) : ddel l n = l := by
  refine List.filter_eq_self.2 (fun p hp => ?_)
  have := dfind_none h p hp
  simpa using this

/-- The states of a save that goes well: a file at x, made, written, made safe, moved. -/
structure Went (bs : List Nat) (p : PS) (x : Nat) (j : Nat) (q : PS) : Prop where
  down : q.down = false
  armed : q.armed = false
  room : q.room = p.room
  files : ∀ y, y ≠ x → fileAt q y = fileAt p y
  file : j = 2 → fileAt q x = ⟨[], 0⟩
  fileb : 3 ≤ j → (fileAt q x).b = bs
  seen : 2 ≤ j → j ≤ 4 → q.seen = dput p.seen nT x
  seen5 : 5 ≤ j → q.seen = dput (ddel (dput p.seen nT x) nT) nI x
  fsafe : 4 ≤ j → q.files x = some ⟨bs, bs.length⟩
  chg6 : j = 6 → q.chg = []

theorem fileAt_setF_other {b y : Nat} {f : Fl} {p : PS} (h : y ≠ b) : fileAt (setF b f p) y = fileAt p y := by simp [fileAt, setF, h]
theorem fileAt_setF_same {b : Nat} {f : Fl} {p : PS} : fileAt (setF b f p) b = f := by simp [fileAt, setF]

theorem step0_ok {bs : List Nat} {p q : PS} {f : Nat} (h : Calm p) (hs : Stp bs 0 p (f, q)) : f = 0 ∧ q = p := by
  have hf : finds p nT = 5 := by rw [finds_of h.down nT_ok, h.temp]; rfl
  have hr : pRemove nT p = (5, p) := by rw [pRemove, if_pos (by rw [hf]; omega), hf]
  rw [Stp, pRm, hr] at hs
  simp at hs
  exact hs

theorem step1_ok {bs : List Nat} {p q : PS} {f : Nat} (h : Calm p) (hs : Stp bs 1 p (f, q)) : f = 0 ∧ ∃ x, p.files x = none ∧ Went bs p x 2 q := by
  obtain ⟨x, hx, he⟩ := hs
  rw [pCreate, if_neg (by rw [wrongs_zero h.down (by simp [nT_ok])]; simp), h.temp, if_neg (by simp), stp, if_neg (by rw [Calm.dead h.armed]; simp)] at he
  simp only [Prod.mk.injEq] at he
  obtain ⟨rfl, rfl⟩ := he
  refine ⟨rfl, x, hx, ⟨h.down, h.armed, rfl, fun y hy => ?_, fun _ => ?_, by omega, fun _ _ => ?_, by omega, by omega, by omega⟩⟩
  · show fileAt (setF x ⟨[], 0⟩ (tick p)) y = _
    rw [fileAt_setF_other hy]
    rfl
  · show fileAt (setF x ⟨[], 0⟩ (tick p)) x = _
    exact fileAt_setF_same
  · rfl

theorem used_went {bs : List Nat} {p q : PS} {x : Nat} (h : Calm p) (hx : p.files x = none) (w : Went bs p x 2 q) : used q = used p := by
  have e : ∀ y, fileAt q y = fileAt p y := fun y => by
    by_cases hy : y = x
    · subst hy
      rw [w.file rfl, fileAt, hx]
      rfl
    · exact w.files y hy
  have e2 : fileAt p x = ⟨[], 0⟩ := by rw [fileAt, hx]; rfl
  rw [used, used, w.seen (by omega) (by omega), dput, ddel_none h.temp, sum_dins]
  simp only [e, e2]
  simp

theorem finds_temp {bs : List Nat} {p q : PS} {x j : Nat} (w : Went bs p x j q) (h2 : 2 ≤ j) (h4 : j ≤ 4) : finds q nT = 0 ∧ blockOf q nT = x := by
  have e : dfind q.seen nT = some x := by rw [w.seen h2 h4]; exact dfind_dput_self _ _ _
  exact ⟨by rw [finds_of w.down nT_ok, e]; rfl, by rw [blockOf, e]; rfl⟩

theorem step2_ok {bs : List Nat} {p q r : PS} {x f : Nat} (h : Calm p) (hx : p.files x = none) (w : Went bs p x 2 q) (hr : used p + bs.length ≤ p.room) (hs : Stp bs 2 q (f, r)) : f = 0 ∧ Went bs p x 3 r := by
  obtain ⟨h1, h2⟩ := finds_temp w (by omega) (by omega)
  rw [Stp, pAppend, if_neg (by rw [h1]; simp), if_neg (by rw [used_went h hx w, w.room]; omega), stp, if_neg (by rw [Calm.dead w.armed]; simp), h2, w.file rfl] at hs
  simp only [Prod.mk.injEq] at hs
  obtain ⟨rfl, rfl⟩ := hs
  refine ⟨rfl, ⟨w.down, w.armed, w.room, fun y hy => ?_, by omega, fun _ => ?_, fun _ _ => w.seen (by omega) (by omega), by omega, by omega, by omega⟩⟩
  · rw [fileAt_setF_other hy]
    exact w.files y hy
  · rw [fileAt_setF_same]
    rfl

theorem step3_ok {bs : List Nat} {p q r : PS} {x f : Nat} (w : Went bs p x 3 q) (hs : Stp bs 3 q (f, r)) : f = 0 ∧ Went bs p x 4 r := by
  obtain ⟨h1, h2⟩ := finds_temp w (by omega) (by omega)
  rw [Stp, pFsync, if_neg (by rw [h1]; simp), stp, if_neg (by rw [Calm.dead w.armed]; simp), h2, w.fileb (by omega)] at hs
  simp only [Prod.mk.injEq] at hs
  obtain ⟨rfl, rfl⟩ := hs
  refine ⟨rfl, ⟨w.down, w.armed, w.room, fun y hy => ?_, by omega, fun _ => ?_, fun _ _ => w.seen (by omega) (by omega), by omega, fun _ => ?_, by omega⟩⟩
  · rw [fileAt_setF_other hy]
    exact w.files y hy
  · rw [fileAt_setF_same]
  · simp [setF]

theorem step4_ok {bs : List Nat} {p q r : PS} {x f : Nat} (w : Went bs p x 4 q) (hs : Stp bs 4 q (f, r)) : f = 0 ∧ Went bs p x 5 r := by
  have e : dfind q.seen nT = some x := by rw [w.seen (by omega) (by omega)]; exact dfind_dput_self _ _ _
  rw [Stp, pRename, if_neg (by rw [wrongs_zero w.down (by simp [nT_ok, nI_ok])]; simp), e, if_pos (by simp), stp, if_neg (by rw [Calm.dead w.armed]; simp)] at hs
  simp only [Prod.mk.injEq] at hs
  obtain ⟨rfl, rfl⟩ := hs
  refine ⟨rfl, ⟨w.down, w.armed, w.room, fun y hy => w.files y hy, by omega, fun _ => w.fileb (by omega), by omega, fun _ => ?_, fun _ => w.fsafe (by omega), by omega⟩⟩
  show pdo q.seen ⟨2, nT, nI, 0⟩ = _
  have e2 : (dfind q.seen nT).getD 0 = x := by rw [e]; rfl
  rw [pdo, if_neg (by simp), if_neg (by simp), e2, w.seen (by omega) (by omega)]

theorem step5_ok {bs : List Nat} {p q r : PS} {x f : Nat} (w : Went bs p x 5 q) (hs : Stp bs 5 q (f, r)) : f = 0 ∧ Went bs p x 6 r := by
  have hs' : (f, r) = pSyncDir q := hs
  rw [pSyncDir, if_neg (by rw [wrongs_zero w.down (by simp)]; simp), stp, if_neg (by rw [Calm.dead w.armed]; simp)] at hs'
  simp only [Prod.mk.injEq] at hs'
  obtain ⟨rfl, rfl⟩ := hs'
  exact ⟨rfl, ⟨w.down, w.armed, w.room, fun y hy => w.files y hy, by omega, fun _ => w.fileb (by omega), by omega, fun _ => w.seen5 (by omega), fun _ => w.fsafe (by omega), fun _ => rfl⟩⟩

/-- A save with nothing in its way. -/
theorem save_ok {bs : List Nat} {p : PS} {r : Nat × PS} (h : Calm p) (hr : used p + bs.length ≤ p.room) (hs : Saved bs p r) : r.1 = 0 ∧ ∃ x, p.files x = none ∧ Went bs p x 6 r.2 := by
  have R1 : ∀ {q}, Reach bs p 1 q → q = p := fun {q} ⟨q', h1, h2⟩ => by
    have h1' : q' = p := h1
    subst h1'
    exact (step0_ok h h2).2
  have R2 : ∀ {q}, Reach bs p 2 q → ∃ x, p.files x = none ∧ Went bs p x 2 q := fun {q} ⟨q', h1, h2⟩ => by
    have h1' := R1 h1
    subst h1'
    exact (step1_ok h h2).2
  have R3 : ∀ {q}, Reach bs p 3 q → ∃ x, p.files x = none ∧ Went bs p x 3 q := fun {q} ⟨q', h1, h2⟩ => by
    obtain ⟨x, hx, w⟩ := R2 h1
    exact ⟨x, hx, (step2_ok h hx w hr h2).2⟩
  have R4 : ∀ {q}, Reach bs p 4 q → ∃ x, p.files x = none ∧ Went bs p x 4 q := fun {q} ⟨q', h1, h2⟩ => by
    obtain ⟨x, hx, w⟩ := R3 h1
    exact ⟨x, hx, (step3_ok w h2).2⟩
  have R5 : ∀ {q}, Reach bs p 5 q → ∃ x, p.files x = none ∧ Went bs p x 5 q := fun {q} ⟨q', h1, h2⟩ => by
    obtain ⟨x, hx, w⟩ := R4 h1
    exact ⟨x, hx, (step4_ok w h2).2⟩
  rcases hs with ⟨h0, q', h1, h2⟩ | ⟨h0, j, hj, q', h1, h2⟩
  · obtain ⟨x, hx, w⟩ := R5 h1
    exact ⟨h0, x, hx, (step5_ok w h2).2⟩
  · exfalso
    apply h0
    obtain ⟨f, q⟩ := r
    have hj' : j = 0 ∨ j = 1 ∨ j = 2 ∨ j = 3 ∨ j = 4 ∨ j = 5 := by omega
    rcases hj' with rfl | rfl | rfl | rfl | rfl | rfl
    · have h1' : q' = p := h1
      subst h1'
      exact (step0_ok h h2).1
    · have h1' := R1 h1
      subst h1'
      exact (step1_ok h h2).1
    · obtain ⟨x, hx, w⟩ := R2 h1
      exact (step2_ok h hx w hr h2).1
    · obtain ⟨x, hx, w⟩ := R3 h1
      exact (step3_ok w h2).1
    · obtain ⟨x, hx, w⟩ := R4 h1
      exact (step4_ok w h2).1
    · obtain ⟨x, hx, w⟩ := R5 h1
      exact (step5_ok w h2).1

end Go.Proofs.YthmimipoooemjaaGreatDoor.Ix
end

section
/-
  alive of the eleventh law.
-/
namespace Go.Proofs.YthmimipoooemjaaGreatDoor.Ix
open Go.RowKit Go.Shelf
open Stb (Stab Srt)
open Sim (hid Kp No PS Done Blk nm ByP finds pBytes pList)

def e9 : Sg.Ent := (Sg.h1, 1, 0, 9)
theorem e9_ok : Sg.EOk e9 := ⟨rfl, by decide⟩
theorem right9 : Sg.RightP [e9] := ⟨by simp, fun i e hi he => by
  have hi0 : i = 0 := by simp at hi; omega
  subst hi0
  simp at he
  subst he
  exact ⟨rfl, fun j x hj => by omega⟩⟩
theorem find9 {e : Ending} (h : Sg.FAns [e9] Sg.h1 e) : e = .returned (.tuple #[.agg #[.int .i64 1, .int .i64 0, .int .i64 9], .bool true]) := by
  obtain ⟨p, b, rfl, h2, h3, _⟩ := h
  have hb : b = true := h2.2 ⟨right9, e9, by simp, rfl⟩
  subst hb
  have := h3 rfl
  simp [e9] at this
  subst this
  rfl
theorem ev9 (w : World) (A : Array Value) (hA : A = (Sg.entC e9).toArray) : Sg.EV (fun g => g = w.heap.size) (w.alloc (.cells A 155)) (.slice (some ⟨w.heap.size, 0, none⟩) 1 1) [e9] := by
  subst hA
  refine ⟨_, 1, rfl, Nat.le_refl _, by decide, by simp, fun e he => ?_, fun _ => ⟨w.heap.size, 0, rfl, rfl, by simp, fun i e hi => ?_⟩⟩
  · simp at he
    subst he
    exact e9_ok
  · have hi0 : i = 0 := by
      have := (List.getElem?_eq_some_iff.1 hi).1
      simp at this
      omega
    subst hi0
    simp at hi
    subst hi
    refine ⟨e9_ok, fun j v hv => ?_⟩
    rw [World.cell?_alloc_at _ _ _ _ rfl]
    simpa using hv
theorem stab9 {X : List Sg.Ent} (h : Stab Sg.ky ([] ++ [e9]) X) : Sg.cmpct X = [e9] := by
  have hl := h.length
  match X, hl with
  | [y], _ =>
    have : y ∈ ([] ++ [e9] : List Sg.Ent) := (h.mem y).1 (by simp)
    simp at this
    subst this
    rfl
theorem seal9_len : (nats (Sg.sealE [e9])).length ≤ 100 := by
  have h : (nats (Sg.sealE [e9])).length = (Sg.formE [e9]).length + 4 := by
    rw [Sg.sealE, nats_length, sealI_length]
  have h2 : (Sg.formE [e9]).length ≤ 96 := by decide
  omega

theorem start_calm : Calm (Sim.startPS 1000) := ⟨rfl, rfl, rfl⟩
theorem start_used (r : Nat) : Sim.used (Sim.startPS r) = 0 := rfl
theorem start_list (r : Nat) : pList (Sim.startPS r) = [] := rfl
theorem seen_one {bs : List Nat} {q : PS} {x r : Nat} (w : Went bs (Sim.startPS r) x 6 q) : q.seen = [(nI, x)] := by
  rw [w.seen5 (by omega)]
  show Sim.dput (Sim.ddel (Sim.dput [] nT x) nT) nI x = _
  simp [Sim.dput, Sim.ddel, Sim.dins]
theorem went_calm {bs : List Nat} {q : PS} {x r : Nat} (w : Went bs (Sim.startPS r) x 6 q) : Calm q := ⟨w.down, w.armed, by rw [seen_one w]; rfl⟩
theorem went_used {bs : List Nat} {q : PS} {x r : Nat} (w : Went bs (Sim.startPS r) x 6 q) : Sim.used q = bs.length ∧ q.room = r := by
  refine ⟨?_, w.room⟩
  rw [Sim.used, seen_one w]
  simp [w.fileb (by omega)]

set_option maxHeartbeats 4000000 in
set_option maxRecDepth 100000 in
theorem alive_any (w : World) : Calls Tryz.prog 31 #[] w fun e w' => e = .returned (.bool true) ∧ Kp No w w' := by
  go_enter Tryz.func31, Tryz.ntmps31
  go_wp2_with fail
  refine (Sim.new_yes 1000 (by omega) w).mono ?_
  rintro e w1 ⟨rfl, hS1, hK1⟩
  have HS1 := hid hS1
  have HK1 := hid hK1
  have hl1 : w.heap.size < w1.heap.size := hS1.lt _ rfl
  clear hS1 hK1
  go_wp2_with fail
  refine (Crc.new_any w1).mono ?_
  rintro e w2 ⟨rfl, hb2, hs2, ht2⟩
  have HS2 : Hid (Sim.Sys (· = w.heap.size) 0 w2 w.heap.size (Sim.startPS 1000)) := HS1.out.kept (Kp.below hb2)
  have HT2 : Hid (TabX w2 w1.heap.size) := ⟨0, 0, .inl rfl, ht2⟩
  have HK2 : Hid (Kp No w w2) := HK1.out.andNone (Kp.below hb2)
  have hl2 : w1.heap.size < w2.heap.size := by omega
  clear hb2 hs2 ht2 HS1 HK1
  go_wp2_with fail
  refine (Sh.open_any w2 w.heap.size w1.heap.size (Sim.startPS 1000) HS2.out (by simp [start_list]) (by simp [start_list])).mono ?_
  rintro e w3 ho
  have ho' : ∃ g P', e = .returned (.tuple #[.pointer (some ⟨g, 0, none⟩), .int .i64 0]) ∧ Sh.ShAt w3 g w.heap.size w1.heap.size 0 ∧ Sim.Sys P' 1 w3 w.heap.size (Sim.startPS 1000) ∧ Kp (· = w.heap.size) w2 w3 ∧ (∀ y, P' y → y = w.heap.size ∨ w2.heap.size ≤ y) := by
    rcases ho with ⟨h, _⟩ | ⟨_, g, P', h1, h2, h3, h4, h5, _⟩
    · exact absurd rfl h
    · exact ⟨g, P', h1, h2, h3, h4, h5⟩
  clear ho
  obtain ⟨g, P', rfl, hH, hS3, hK3, hP3⟩ := ho'
  have hnb : ¬ P' w1.heap.size := fun e => by rcases hP3 _ e with e | e <;> omega
  have hT3 : TabX w3 w1.heap.size := HT2.out.kp hK3 (fun e => by have e' : w1.heap.size = w.heap.size := e; omega)
  have HK3 : Hid (Kp No w w3) := HK2.out.trans hK3 (fun y hy => .inr (by omega))
  have HO := hid (open0 w3 w.heap.size w1.heap.size g 0 (Sim.startPS 1000) hS3 (by omega) hT3 hnb hH (Sim.start_finds nI_ok) (start_list _))
  have hl3 := hK3.size
  have HP3 := hid hP3
  clear hH hS3 hK3 hP3 hnb hT3 HS2 HT2 HK2
  go_wp2_with fail
  refine HO.out.mono ?_
  rintro e w4 ⟨r, hsv, hT4, hrest⟩
  obtain ⟨hr0, x0, hx0, hwent⟩ := save_ok start_calm (by rw [start_used, seal0_len]; decide) hsv
  have hrest' : ∃ x v, e = .returned (.tuple #[.pointer (some ⟨x, 0, none⟩), .bool true, .int .i64 0]) ∧ w3.heap.size ≤ x ∧ IxAt w4 x w.heap.size w1.heap.size v ∧ Sg.EV (fun g => w3.heap.size ≤ g) w4 v [] ∧
      ∃ P4, Sim.Sys P4 7 w4 w.heap.size r.2 ∧ Kp (fun y => P' y ∨ y = w1.heap.size) w3 w4 ∧ (∀ y, P4 y → P' y ∨ w3.heap.size ≤ y) ∧ ¬ P4 x ∧ ¬ P4 w1.heap.size := by
    rcases hrest with ⟨h, _⟩ | ⟨_, h⟩
    · exact absurd hr0 h
    · exact h
  clear hrest hsv
  obtain ⟨x, v, rfl, hx, hX4, hv4, P4, hS4, hK4, hP4, hx4, hb4⟩ := hrest'
  have hc4 := went_calm hwent
  have hu4 := went_used hwent
  have hxl := hX4.lt
  have HK4 : Hid (Kp No w w4) := HK3.out.trans hK4 (fun y hy => .inr (by
    rcases hy with e | e
    · rcases HP3.out y e with e | e <;> omega
    · omega))
  have HG4 := hid (And.intro hT4 (And.intro hX4 (And.intro hv4 (And.intro hS4 (And.intro hx4 hb4)))))
  have HC4 := hid (And.intro hc4 hu4)
  have hxb : x ≠ w1.heap.size := by omega
  have HPP : Hid (∀ y, P4 y → w.heap.size ≤ y) := fun y hy => by
    rcases hP4 y hy with e | e
    · rcases HP3.out y e with e | e <;> omega
    · omega
  have hxw : w.heap.size ≤ x := by omega
  clear hT4 hX4 hv4 hS4 hK4 hP4 hx4 hb4 hc4 hu4 hwent hx0 HO HK3 HP3 hr0
  go_wp2_with fail
  have HKA : Hid (Kp No w4 (w4.alloc (.cells (Sg.entC e9).toArray 155))) := (Kp.refl _ _).alloc _
  have hsA : (w4.alloc (.cells (Sg.entC e9).toArray 155)).heap.size = w4.heap.size + 1 := by simp
  have hlt4 := HG4.out.2.2.2.1.lt
  refine (add_any (w4.alloc (.cells (Sg.entC e9).toArray 155)) w.heap.size w1.heap.size x r.2 _ v [e9] [] (HG4.out.2.2.2.1.kept HKA.out) (by omega) (HG4.out.1.kp HKA.out (fun h => h)) HG4.out.2.2.2.2.2 (HG4.out.2.1.kp HKA.out (fun h => h)) HG4.out.2.2.2.2.1 hxb (HG4.out.2.2.1.kept HKA.out) (ev9 w4 _ rfl) (by simp) (fun X hs _ => by
    rw [stab9 hs]
    exact ⟨right9, by have := seal9_len; omega, nats_lt (by simp [e9_ok]) (by simp)⟩)).mono ?_
  rintro e w6 ⟨X, r6, w5, hs, _, hk5, hv5, r', hsv, rfl, hX6, _, P6, _, hK6, _⟩
  rw [stab9 hs] at hv5 hsv
  have hr0 : r'.1 = 0 := (save_ok HC4.out.1 (by rw [HC4.out.2.1, HC4.out.2.2, seal0_len]; have := seal9_len; omega) hsv).1
  rw [if_pos hr0] at hX6
  rw [hr0]
  obtain ⟨a6, c6, h6, _⟩ := id hv5
  have h6' : r6 = .slice a6 1 c6 := h6
  clear h6
  subst h6'
  have hv6 : Sg.EV (fun g => w4.heap.size < g) w6 (.slice a6 1 c6) [e9] := (hv5.mono (fun g hg => by omega)).kp hK6 (fun g hg hL => by
    rcases hL with e | e | e
    · have := hlt4 _ e; omega
    · omega
    · omega)
  have HK6 : Hid (Kp No w w6) := ((HK4.out.alloc _).andNone hk5).trans hK6 (fun y hy => .inr (by
    rcases hy with e | e | e
    · exact HPP.out y e
    · omega
    · omega))
  have HG6 := hid (And.intro hX6 hv6)
  clear hX6 hv6 hv5 hk5 hK6 hsv hs hr0 HG4 HC4 HKA HPP hlt4 hsA HK4
  go_wp2_with fail
  refine (find_any w6 x w.heap.size w1.heap.size _ [e9] Sg.h1 HG6.out.1 HG6.out.2 (by simp) rfl (by decide)).mono ?_
  rintro e w7 ⟨hfa, hk7⟩
  have hfe := find9 hfa
  subst hfe
  have HX7 : Hid (IxAt w7 x w.heap.size w1.heap.size (.slice a6 1 c6)) := HG6.out.1.kp hk7 (fun h => h)
  have HK7 := hid (HK6.out.andNone hk7)
  clear hfa hk7 HG6 HK6
  go_wp2_with fail
  refine (len_any _ x w.heap.size w1.heap.size 1 c6 a6 (HX7.out.kp (L := No) ((Kp.refl No w7).alloc _) (fun h => h))).mono ?_
  rintro e w8 ⟨rfl, hw8⟩
  rw [hw8]
  clear hw8
  go_wp2_with fail
  go_ret
  exact ⟨rfl, HK7.out.alloc _⟩

end Go.Proofs.YthmimipoooemjaaGreatDoor.Ix
end

section
/-
  Load of a list that was saved.
-/
namespace Go.Proofs.YthmimipoooemjaaGreatDoor.Ix
open Go.RowKit Go.Shelf
open Tlv (BySlS)
open Sim (hid Kp No PS Done Blk nm ByP finds pBytes)

set_option maxHeartbeats 1000000 in
set_option maxRecDepth 100000 in
theorem load_back {P : Nat → Prop} {N : Nat} (w : World) (s b : Nat) (p : PS) (d : List Sg.Ent) (h : Sim.Sys P N w s p) (hT : TabX w b) (hf : finds p nI = 0) (ho : ∀ e ∈ d, Sg.EOk e) (hR : Sg.RightP d) (hb : pBytes nI p = nats (Sg.sealE d)) :
    Calls Tryz.prog 36 #[.pointer (some ⟨s, 0, none⟩), .pointer (some ⟨b, 0, none⟩)] w fun e w' => ∃ v, e = .returned (.tuple #[v, .int .i64 0]) ∧ Sg.EV (fun g => w.heap.size ≤ g) w' v d ∧ Kp (fun x => x = b) w w' ∧ TabX w' b := by
  have HC := hid (Sim.read_any w s p sI (by decide) h)
  rw [nm_sI, hb, hf] at HC
  unfold sI at HC
  have hlt := nats_lt ho hR.1
  have hbd := Sg.sealE_bd ho hR.1
  have hlen := (Sg.sealE_length ho hR.1).2
  have hl2 : (nats (Sg.sealE d)).length ≤ 65542 := by rw [nats_length]; exact hlen
  have HG := hid (fun V v (hV : TabX V b) (hv : BySlS (fun g => g ≠ b ∧ g < V.heap.size) V v (Sg.sealE d)) => Sg.get_any b V v (Sg.sealE d) hV hv (by omega))
  have HI := hid (ints_nats (Sg.sealE d) hbd)
  obtain ⟨bs, hbs⟩ : ∃ bs, nats (Sg.sealE d) = bs := ⟨_, rfl⟩
  rw [hbs] at HC HI hlt hl2
  have HB := hid (And.intro ho (And.intro hR (And.intro hlt hl2)))
  have hbl := hT.lt
  have HT := hid hT
  clear h hT hb hf hlt hbd hlen ho hR hbs hl2
  go_enter Tryz.func36, Tryz.ntmps36
  go_wp2_with fail
  refine HC.out.mono ?_
  rintro e w1 ⟨ad, cap, rfl, hob, hnw, hk⟩
  have hB1 : BySlS (fun g => w.heap.size ≤ g ∧ g < w1.heap.size) w1 (.slice ad bs.length cap) (ints bs) := own_of hob HB.out.2.2.1 (by have := HB.out.2.2.2; omega) w.heap.size hnw
  rw [HI.out] at hB1
  have HB1 : Hid (BySlS (fun g => g ≠ b ∧ g < w1.heap.size) w1 (.slice ad bs.length cap) (Sg.sealE d)) := BySlS.mono hB1 (fun g hg => ⟨by omega, hg.2⟩)
  have HK := hid hk
  clear hob hnw hk HC hB1
  have HGG := hid (HG.out w1 _ (HT.out.kp HK.out (fun h => h)) HB1.out)
  clear HG HB1
  generalize bs.length = n at *
  go_wp2_with fail
  refine HGG.out.mono ?_
  rintro e w2 ⟨v, f, d', rfl, hga, hrow, hown, hoks, hkk, ht⟩
  obtain ⟨rfl, rfl⟩ := Sg.gans_back HB.out.1 HB.out.2.1 hga
  have HF : Hid (Sg.EV (fun g => w.heap.size ≤ g) w2 v d' ∧ Kp (fun x => x = b) w w2 ∧ TabX w2 b) := ⟨Sg.ev_of_row hrow hoks (fun x hx => Nat.le_trans HK.out.size (hown x hx)), HK.out.ofNo.trans (kp_kept hkk) (fun x hx => .inl hx), ht⟩
  obtain ⟨av, cv, hv, _⟩ := hrow.shape
  obtain ⟨m, hm⟩ : ∃ m, d'.length = m := ⟨_, rfl⟩
  rw [hm] at hv
  subst hv
  clear hga hrow hown hoks hkk ht hm HB HI
  go_wp2_with fail
  refine bodyPost_ret (v := .tuple #[.slice av m cv, .int .i64 0]) (by simp [results, Tryz.results36, go_sem]) rfl ⟨_, rfl, HF.out⟩

end Go.Proofs.YthmimipoooemjaaGreatDoor.Ix
end

section
/-
  What a name leads to beside other changes; what a crash takes of a file that is safe.
-/
namespace Go.Proofs.YthmimipoooemjaaGreatDoor.Ix
open Sim

/-! ### What a name leads to -/
theorem dfind_ddel_ne {d : Dir} {n m : Nm} (h : n ≠ m) : dfind (ddel d n) m = dfind d m := by
  unfold dfind ddel
  rw [List.find?_filter]
  congr 1
  congr 1
  funext a
  by_cases e : a.1 = m
  · have : a.1 ≠ n := fun e' => h (e'.symm.trans e)
    simp [e, Ne.symm h]
  · simp [e]
theorem dfind_dins_ne {n m : Nm} {f : Nat} (h : n ≠ m) : ∀ d : Dir, dfind (dins (n, f) d) m = dfind d m
  | [] => by simp [dins, dfind, h]
  | y :: r => by
    unfold dins
    split
    · unfold dfind
      rw [List.find?_cons]
      have : ((n, f).1 == m) = false := by simpa using h
      rw [this]
    · have ih := dfind_dins_ne (f := f) h r
      unfold dfind at ih ⊢
      rw [List.find?_cons, List.find?_cons]
      split
      · rfl
      · exact ih
theorem dfind_dput_ne {d : Dir} {n m : Nm} {f : Nat} (h : n ≠ m) : dfind (dput d n f) m = dfind d m := by
  unfold dput
  rw [dfind_dins_ne h, dfind_ddel_ne h]
theorem lose_safe (z : Int) (bs : List Nat) : lose z ⟨bs, bs.length⟩ = ⟨bs, bs.length⟩ := by
  unfold lose
  simp
theorem loses_keep {b : Nat} {bs : List Nat} : ∀ (d : Dir) (i : Nat) (cuts : List Int) (p : PS), p.files b = some ⟨bs, bs.length⟩ → (loses d i cuts p).files b = some ⟨bs, bs.length⟩ ∧ (loses d i cuts p).safe = p.safe
  | [], _, _, _, h => ⟨h, rfl⟩
  | e :: r, i, cuts, p, h => by
    unfold loses
    have h1 : (setF e.2 (lose (cuts.getD i 0) (fileAt p e.2)) p).files b = some ⟨bs, bs.length⟩ := by
      show (if b = e.2 then some (lose (cuts.getD i 0) (fileAt p e.2)) else p.files b) = _
      split
      · rename_i eb
        rw [← eb]
        have : fileAt p b = ⟨bs, bs.length⟩ := by unfold fileAt; rw [h]; rfl
        rw [this, lose_safe]
      · exact h
    obtain ⟨h2, h3⟩ := loses_keep r (i + 1) cuts _ h1
    exact ⟨h2, h3⟩

end Go.Proofs.YthmimipoooemjaaGreatDoor.Ix
end
