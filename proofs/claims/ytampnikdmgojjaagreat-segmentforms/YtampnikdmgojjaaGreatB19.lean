/- Of the proof: the texts SgRGet, SgForms, FrOpen, SgOpen, one behind the other. -/
import Derived.Test.YtampnikdmgojjaaGreatB17
import Derived.Test.YtampnikdmgojjaaGreatB13
import Derived.Test.YtampnikdmgojjaaGreatB18
import Derived.Deep.DeepCutAuto
import Derived.Test.YtampnikdmgojjaaGreatB14
import Derived.Test.YtampnikdmgojjaaGreatB10
import Derived.ProofKit
import Derived.OpenShut
import Derived.Deep.Slices
import Derived.Deep.Strs
import Derived.Lib.SmallJoins
import Derived.WideKeyArr2
import Derived.Test.YtampnikdmgojjaaGreatB5
section
/-
  The document's Get of entries.
-/
namespace Go.Proofs.YtampnikdmgojjaaGreat.Sg
open Go.RowKit
open Tlv (Tr Agree AgreeS RepS BySlS KSlS)
open Sim (hid Kp No)

/-- What the document's Get leaves. -/
def RGot (w w' : World) (bs : List Int) (e : Ending) : Prop :=
  ∃ v f d, e = .returned (.tuple #[v, .int .i64 f]) ∧ GAns bs f d ∧ MineR w w' v d ∧ Oks d
theorem RGot.none {w w' : World} {bs : List Int} {f : Int} (hg : GAns bs f []) (hk : Kp No w w') : RGot w w' bs (.returned (.tuple #[.slice none 0 0, .int .i64 f])) :=
  ⟨.slice Option.none 0 0, f, [], rfl, hg, ⟨Sim.Row.nil _ _ _, by intro x hx; simp [Value.ownBlock] at hx, hk⟩, by intro x hx; simp at hx⟩
theorem kslS_get {n : Nat} {S : Nat → Prop} {w w' : World} {R : Tr n → Value → Value → Prop} {v : Value} {ks : List (Tr n)} (h : KSlS S w R v ks) {k : Nat} {x : Tr n} (hx : ks[k]? = some x) (hA : AgreeS S w w') :
    ∃ b o c sb sk, v = .slice (some ⟨b, o, none⟩) ks.length c ∧ S b ∧ w'.cell? ⟨b, o + k * 4, none⟩ = some (.int .i64 x.hd.1) ∧ w'.cell? ⟨b, o + k * 4 + 1, none⟩ = some (.int .u64 x.hd.2.1) ∧ w'.cell? ⟨b, o + k * 4 + 2, none⟩ = some sb ∧ w'.cell? ⟨b, o + k * 4 + 3, none⟩ = some sk ∧ R x sb sk := by
  obtain ⟨a, cap, rfl, h2, h3, h4, h5, h6⟩ := h
  obtain ⟨b, o, rfl, hS, hc⟩ := h6 (by intro e; rw [e] at hx; simp at hx)
  obtain ⟨sb, sk, c0, c1, c2, c3, hr⟩ := hc k x hx
  exact ⟨b, o, cap, sb, sk, rfl, hS, (hA.cell hS).trans c0, (hA.cell hS).trans c1, (hA.cell hS).trans c2, (hA.cell hS).trans c3, hr⟩
theorem entR_4 {k : Tr 8} {a b c e : Tr 7} (h : k.kd = [a, b, c, e]) : entR k = (a.hd.2.2, smallI b.hd.1 b.hd.2.1, smallI c.hd.1 c.hd.2.1, smallI e.hd.1 e.hd.2.1) := by rw [entR, h]

set_option maxHeartbeats 8000000 in
set_option maxRecDepth 100000 in
theorem rget_any (b : Nat) (w : World) (v : Value) (bs : List Int) (hbw : b < w.heap.size) (h : BySlS (fun g => g ≠ b ∧ g < w.heap.size) w v bs) (hl : bs.length ≤ 80000) :
    Calls Tryz.prog 11 #[v] w fun e w' => RGot w w' bs e := by
  have hcb := toCrc (b := b) h (fun g hg => hg)
  have HCB := hid hcb
  obtain ⟨a, cap, rfl, _, _, _, _, hx6', _⟩ := id h
  have HX := hid hx6'
  clear h hcb hx6'
  by_cases h4 : bs.length < 4
  · have HGA : Hid (GAns bs 3 []) := .inl ⟨h4, rfl, rfl⟩
    have HO := hid (Crc.refOpen_short b (.slice a bs.length cap) (nats bs) w HCB.out (by rw [nats_length]; exact h4))
    clear h4
    go_enter Tryz.func11, Tryz.ntmps11
    go_wp2_with fail
    refine HO.out.mono ?_
    rintro e w1 ⟨rfl, rfl⟩
    go_wp2_with fail
    go_ret2
    exact RGot.none HGA.out (Kp.refl _ _)
  · obtain ⟨y0, y1, y2, y3, hn, hseal⟩ := tail_of HX.out (by omega)
    obtain ⟨xs, hxs⟩ : ∃ xs, bs.take (bs.length - 4) = xs := ⟨_, rfl⟩
    have HXS := hid hxs
    have hx6 : ∀ x ∈ xs, 0 ≤ x ∧ x ≤ 255 := by rw [← hxs]; exact fun x hx => HX.out x (List.mem_of_mem_take hx)
    have hxl : xs.length ≤ 80000 := by rw [← hxs, List.length_take]; omega
    rw [hxs] at hn hseal
    have hcs := HCB.out
    rw [hn] at hcs
    have HO := hid (Crc.refOpen_any b (.slice a bs.length cap) (nats xs) [y0, y1, y2, y3] w hbw hcs rfl (by rw [nats_length]; exact hxl))
    have HSEAL := hid hseal
    have H4 : Hid (4 ≤ bs.length) := by rw [Hid]; omega
    have HX6 := hid hx6
    have HXL := hid hxl
    clear hcs hn hseal hxs hx6 hxl h4
    go_enter Tryz.func11, Tryz.ntmps11
    go_wp2_with fail
    refine HO.out.mono ?_
    rintro e w1 ⟨hb1, v', q, rfl, hres⟩
    have HK1 : Hid (Kp No w w1) := Kp.below hb1
    clear hb1
    rcases hres with ⟨he, rfl, hby⟩ | ⟨hne, rfl, rfl⟩
    · have HE : Hid (sealI (bs.take (bs.length - 4)) = bs) := by rw [Hid, HXS.out]; exact HSEAL.out.1 he
      have hby2 := ofCrc hby
      rw [ints_nats _ HX6.out] at hby2
      have HBY := hid (hby2.to (B := w1.heap.size) (fun g hg => hg.2))
      obtain ⟨a', c', rfl, _⟩ := HBY.out
      clear he hby hby2
      go_wp2_with fail
      refine (Tlv.refGet_any _ xs w1 HBY.out).mono ?_
      rintro e w2 ⟨hres, hb2⟩
      have HK2 : Hid (Kp No w w2) := HK1.out.andNone (Kp.below hb2)
      clear hb2
      rcases hres with ⟨hno, rfl⟩ | ⟨t, sb, sk, hs, rfl, hr⟩
      · have HGA : Hid (GAns bs 3 []) := .inr (.inr (.inl ⟨H4.out, HE.out, fun t ht => (by rw [HXS.out, hno] at ht; cases ht), rfl, rfl⟩))
        clear hno
        go_wp2_with fail
        go_ret2
        exact RGot.none HGA.out (HK2.out.alloc _)
      · have hkl := kd_len HX6.out hs
        have HKL := hid hkl
        have HS := hid hs
        have HRT : Hid ((Tlv.bsz 9 t 65535 8).2 = true) := by
          rw [Hid]
          rw [Tlv.getT] at hs
          cases hq : Tlv.rd 8 xs with
          | none => rw [hq] at hs; simp at hs
          | some pp =>
            obtain ⟨u, m⟩ := pp
            rw [hq] at hs
            simp only at hs
            split at hs
            · cases hs
              exact (Tlv.rd_form 8 xs t m HX6.out hq).2
            · cases hs
        have HBAD : Hid (¬ GoodR t → GAns bs 3 []) := fun hng => .inr (.inr (.inl ⟨H4.out, HE.out, fun u hu => (by rw [HXS.out, HS.out] at hu; cases hu; exact fun hg => hng (good_to hg).1), rfl, rfl⟩))
        have HGOOD : Hid (GoodR t → GAns bs 0 (t.kd.map entR)) := fun hg => by
          have hg2 := good_from HRT.out hg
          exact .inr (.inr (.inr ⟨H4.out, HE.out, t, by rw [HXS.out]; exact HS.out, hg2, rfl, (good_to hg2).2.symm⟩))
        obtain ⟨a1, l1, p1, a2, l2, p2, rfl, rfl⟩ := hr.sl
        have HREP := hid hr
        have HKS := hid hr.2.2.2
        have hl2 : l2 = t.kd.length := by
          obtain ⟨x, y, e, _⟩ := hr.2.2.2
          simp only [Value.slice.injEq] at e
          omega
        have HL2 := hid hl2
        have hlk : l2 ≤ 80000 := by have := HKL.out; have := HXL.out; omega
        clear hkl hs hr hl2
        obtain ⟨tg, htg⟩ : ∃ x, t.hd.1 = x := ⟨_, rfl⟩
        obtain ⟨nu, hnu⟩ : ∃ x, t.hd.2.1 = x := ⟨_, rfl⟩
        have HTG := hid htg
        rw [htg, hnu]
        clear htg hnu
        by_cases ht3 : tg = 3
        rotate_left
        · have hneb : (tg != 3) = true := by simpa using ht3
          have HGA : Hid (GAns bs 3 []) := HBAD.out (fun hg => ht3 (by rw [← HTG.out]; exact hg.1))
          go_wp2_with fail
          go_ret2
          exact RGot.none HGA.out (HK2.out.alloc _)
        subst ht3
        obtain ⟨W0, hW0⟩ : ∃ W0, w2.alloc (.cells #[.int .i64 3, .int .u64 nu, .slice a1 l1 p1, .slice a2 l2 p2] 94) = W0 := ⟨_, rfl⟩
        have HK0 : Hid (Kp No w2 W0) := by rw [← hW0]; exact (Kp.refl No w2).alloc _
        have hz0 : w2.heap.size < W0.heap.size := by rw [← hW0]; simp
        have HB3 : Hid (∀ V, Kp No W0 V → V.cell? ⟨w2.heap.size, 3, none⟩ = some (.slice a2 l2 p2) ∧ w2.heap.size < V.heap.size) := fun V hV => ⟨(hV.cell (p := ⟨w2.heap.size, 3, none⟩) hz0 (fun x => x)).trans (by rw [← hW0]; simp), Nat.lt_of_lt_of_le hz0 hV.size⟩
        have d0 : W0.cell? ⟨w2.heap.size, 0, none⟩ = some (.int .i64 3) := by rw [← hW0]; simp
        go_wp2_with fail
        clear hW0 d0
        go_loopw [7, 8] (fun v7 v8 wr => ∃ (k : Nat) (ad : Option Addr) (cap : Nat), v7 = .slice ad k cap ∧ v8 = .int .i64 (k : Int) ∧ k ≤ l2 ∧ Hid (MineR W0 wr (.slice ad k cap) ((t.kd.map entR).take k)) ∧ Hid (∀ x ∈ t.kd.take k, OkK x ∧ EOk (entR x))) (fun _ v8 _ => l2 - (intOf v8).toNat)
        case atStart => exact ⟨0, none, 0, rfl, rfl, Nat.zero_le _, MineR.nil W0, by intro x hx; simp at hx⟩
        case round =>
          obtain ⟨k, ad, cap, rfl, rfl, hkn, HM, HO4⟩ := hrel
          obtain ⟨V, rfl⟩ : ∃ V, V = wr := ⟨_, rfl⟩
          obtain ⟨d3, hz3⟩ := HB3.out V HM.out.2.2
          have HKV : Hid (Kp No w2 V) := HK0.out.andNone HM.out.2.2
          by_cases hlt : k < l2
          · have hltI : (k : Int) < (l2 : Int) := by omega
            have hwk : IntKind.i64.wrap ((k : Int) + 1) = ((k + 1 : Nat) : Int) := by rw [IntKind.wrap_i64]; omega
            obtain ⟨x, hx⟩ : ∃ x, t.kd[k]? = some x := ⟨_, List.getElem?_eq_getElem (by rw [← HL2.out]; exact hlt)⟩
            have HXK := hid hx
            have hAS : ∀ U, Kp No V U → AgreeS (fun b => w1.heap.size ≤ b ∧ b < w2.heap.size) w2 U := fun U hU b hb => (HKV.out.andNone hU).block b hb.2 (fun x => x)
            have HAS := hid hAS
            obtain ⟨bk, ok, ck, sb', sk', ev, hbS, c0, c1, c2, c3, hrx⟩ := kslS_get HKS.out hx (hAS V (Kp.refl _ _))
            simp only [Value.slice.injEq] at ev
            obtain ⟨rfl, -, rfl⟩ := ev
            have hbV : bk < V.heap.size := Nat.lt_of_lt_of_le hbS.2 HKV.out.size
            obtain ⟨a3, l3, p3, a4, l4, p4, rfl, rfl⟩ := hrx.sl
            have hl4 : l4 = x.kd.length := by
              obtain ⟨_, _, e, _⟩ := hrx.2.2.2
              simp only [Value.slice.injEq] at e
              omega
            have HL4 := hid hl4
            have HRX := hid hrx
            obtain ⟨tx, htx⟩ : ∃ y, x.hd.1 = y := ⟨_, rfl⟩
            obtain ⟨nx, hnx⟩ : ∃ y, x.hd.2.1 = y := ⟨_, rfl⟩
            have HTX := hid htx
            rw [htx] at c0
            rw [hnx] at c1
            clear htx hnx hl4 hrx hx hAS
            have HKA : Hid (Kp No V (V.alloc (.cells #[.int .i64 tx, .int .u64 nx, .slice a3 l3 p3, .slice a4 l4 p4] 94))) := (Kp.refl No V).alloc _
            have HFAIL : Hid (¬ OkK x → GAns bs 3 []) := fun hn => HBAD.out (fun hg => hn (hg.2.1 x (List.mem_of_getElem? HXK.out)))
            have HKF : Hid (Kp No w (V.alloc (.cells #[.int .i64 tx, .int .u64 nx, .slice a3 l3 p3, .slice a4 l4 p4] 94))) := (HK2.out.andNone HKV.out).andNone HKA.out
            by_cases hx3 : tx = 3
            rotate_left
            · have hneb : (tx != 3) = true := by simpa using hx3
              have HGA : Hid (GAns bs 3 []) := HFAIL.out (fun h => hx3 (by rw [← HTX.out]; exact h.1))
              go_wp2_with fail
              go_ret2
              exact RGot.none HGA.out HKF.out
            subst hx3
            by_cases hx4 : l4 = 4
            rotate_left
            · have hneb : ((l4 : Int) != 4) = true := by simp; omega
              have HGA : Hid (GAns bs 3 []) := HFAIL.out (fun h => hx4 (by rw [HL4.out]; exact h.2.1))
              go_wp2_with fail
              go_ret2
              exact RGot.none HGA.out HKF.out
            subst hx4
            obtain ⟨ka, kb, kc, ke, hkd⟩ := kd4 HL4.out.symm
            have HKD := hid hkd
            have hks := HRX.out.2.2.2
            rw [hkd] at hks
            have hA2 := HAS.out _ HKA.out
            obtain ⟨b5, o5, c5, sa, ska, ev, hS5, ea0, ea1, ea2, ea3, hra⟩ := kslS_get hks (k := 0) (x := ka) rfl hA2
            simp only [Value.slice.injEq] at ev
            obtain ⟨rfl, -, rfl⟩ := ev
            obtain ⟨b5', o5', c5', sbb, skb, ev, _, eb0, eb1, eb2, eb3, hrb⟩ := kslS_get hks (k := 1) (x := kb) rfl hA2
            simp only [Value.slice.injEq, Option.some.injEq, Addr.mk.injEq, and_true] at ev
            obtain ⟨⟨rfl, rfl⟩, -, rfl⟩ := ev
            obtain ⟨b5', o5', c5', sc, skc, ev, _, ec0, ec1, ec2, ec3, hrc⟩ := kslS_get hks (k := 2) (x := kc) rfl hA2
            simp only [Value.slice.injEq, Option.some.injEq, Addr.mk.injEq, and_true] at ev
            obtain ⟨⟨rfl, rfl⟩, -, rfl⟩ := ev
            obtain ⟨b5', o5', c5', se, ske, ev, _, ee0, ee1, ee2, ee3, hre⟩ := kslS_get hks (k := 3) (x := ke) rfl hA2
            simp only [Value.slice.injEq, Option.some.injEq, Addr.mk.injEq, and_true] at ev
            obtain ⟨⟨rfl, rfl⟩, -, rfl⟩ := ev
            simp only [Nat.zero_mul, Nat.reduceMul, Nat.add_zero, Nat.one_mul] at ea0 ea1 ea2 ea3 eb0 eb1 eb2 eb3 ec0 ec1 ec2 ec3 ee0 ee1 ee2 ee3
            have HBA := hid hra.2.2.1
            obtain ⟨aa, ca, rfl, _, _, _, _, hbn6, haa7⟩ := id hra.2.2.1
            have HBN6 := hid hbn6
            have HSB := hid (And.intro hrb.1 (And.intro hrb.2.1 hrb.sl))
            have HSC := hid (And.intro hrc.1 (And.intro hrc.2.1 hrc.sl))
            have HSE := hid (And.intro hre.1 (And.intro hre.2.1 hre.sl))
            have HENT := hid (entR_4 hkd)
            have hb5 : b5 < (V.alloc (.cells #[.int .i64 3, .int .u64 nx, .slice a3 l3 p3, .slice (some ⟨b5, o5, none⟩) 4 p4] 94)).heap.size := Nat.lt_of_lt_of_le (Nat.lt_of_lt_of_le hS5.2 HKV.out.size) HKA.out.size
            obtain ⟨bn, hbn⟩ : ∃ y, ka.hd.2.2 = y := ⟨_, rfl⟩
            obtain ⟨ta, hta⟩ : ∃ y, ka.hd.1 = y := ⟨_, rfl⟩
            rw [hbn] at ea2 HBA HBN6 HENT haa7
            rw [hta] at ea0
            have HTA := hid hta
            have HBN := hid hbn
            have HA7 := hid haa7
            clear hbn hta haa7 hbn6 hra hrb hrc hre hks hkd
            have HFA : Hid (¬ (ta = 2 ∧ bn.length = 32) → GAns bs 3 []) := fun hn => HFAIL.out (fun h => hn (by
              have := h.2.2 ka (by rw [HKD.out]; rfl)
              rw [HTA.out, HBN.out] at this
              exact this))
            obtain ⟨nb, hnb⟩ : ∃ y, bn.length = y := ⟨_, rfl⟩
            have HNB := hid hnb
            rw [hnb] at ea2 HFA
            clear hnb
            by_cases hta2 : ta = 2
            rotate_left
            · have hneb : (ta != 2) = true := by simpa using hta2
              have HGA : Hid (GAns bs 3 []) := HFA.out (fun h => hta2 h.1)
              go_wp2_with fail
              go_ret2
              exact RGot.none HGA.out HKF.out
            subst hta2
            by_cases hb32 : nb = 32
            rotate_left
            · have hneb : ((nb : Int) != 32) = true := by simp; omega
              have HGA : Hid (GAns bs 3 []) := HFA.out (fun h => hb32 h.2)
              go_wp2_with fail
              go_ret2
              exact RGot.none HGA.out HKF.out
            subst hb32
            obtain ⟨ab, lb, cb, ab', lb', cb', rfl, rfl⟩ := HSB.out.2.2
            obtain ⟨ac, lc, cc, ac', lc', cc', rfl, rfl⟩ := HSC.out.2.2
            obtain ⟨ae, le, ce, ae', le', ce', rfl, rfl⟩ := HSE.out.2.2
            obtain ⟨t1, ht1⟩ : ∃ y, kb.hd.1 = y := ⟨_, rfl⟩
            obtain ⟨m1, hm1⟩ : ∃ y, kb.hd.2.1 = y := ⟨_, rfl⟩
            obtain ⟨t2, ht2⟩ : ∃ y, kc.hd.1 = y := ⟨_, rfl⟩
            obtain ⟨m2, hm2⟩ : ∃ y, kc.hd.2.1 = y := ⟨_, rfl⟩
            obtain ⟨t3, ht3⟩ : ∃ y, ke.hd.1 = y := ⟨_, rfl⟩
            obtain ⟨m3, hm3⟩ : ∃ y, ke.hd.2.1 = y := ⟨_, rfl⟩
            rw [ht1, hm1, ht2, hm2, ht3, hm3] at HENT
            rw [ht1] at eb0
            rw [hm1] at eb1 HSB
            rw [ht2] at ec0
            rw [hm2] at ec1 HSC
            rw [ht3] at ee0
            rw [hm3] at ee1 HSE
            have HC1 := hid (fun U => small_any t1 m1 (.slice ab lb cb) (.slice ab' lb' cb') U HSB.out.1 HSB.out.2.1 ⟨_, _, _, _, _, _, rfl, rfl⟩)
            have HC2 := hid (fun U => small_any t2 m2 (.slice ac lc cc) (.slice ac' lc' cc') U HSC.out.1 HSC.out.2.1 ⟨_, _, _, _, _, _, rfl, rfl⟩)
            have HC3 := hid (fun U => small_any t3 m3 (.slice ae le ce) (.slice ae' le' ce') U HSE.out.1 HSE.out.2.1 ⟨_, _, _, _, _, _, rfl, rfl⟩)
            clear ht1 hm1 ht2 hm2 ht3 hm3 HSB HSC HSE
            obtain ⟨s1, hs1⟩ : ∃ y, smallI t1 m1 = y := ⟨_, rfl⟩
            obtain ⟨s2, hs2⟩ : ∃ y, smallI t2 m2 = y := ⟨_, rfl⟩
            obtain ⟨s3, hs3⟩ : ∃ y, smallI t3 m3 = y := ⟨_, rfl⟩
            rw [hs1, hs2, hs3] at HENT
            rw [hs1] at HC1
            rw [hs2] at HC2
            rw [hs3] at HC3
            clear hs1 hs2 hs3
            obtain ⟨ga, oa, rfl, hSa, hcell⟩ := HA7.out (by intro e; have := HNB.out; rw [e] at this; simp at this)
            have HCELL := hid hcell
            have hgaV : ga < V.heap.size := Nat.lt_of_lt_of_le hSa.2 HKV.out.size
            clear hcell HA7 HBA
            obtain ⟨W1, hW1⟩ : ∃ W1, V.alloc (.cells #[.int .i64 3, .int .u64 nx, .slice a3 l3 p3, .slice (some ⟨b5, o5, none⟩) 4 p4] 94) = W1 := ⟨_, rfl⟩
            rw [hW1] at ea0 ea1 ea2 ea3 eb0 eb1 eb2 eb3 ec0 ec1 ec2 ec3 ee0 ee1 ee2 ee3 HKA hb5
            have x0 : W1.cell? ⟨V.heap.size, 0, none⟩ = some (.int .i64 3) := by rw [← hW1]; simp
            have x3 : W1.cell? ⟨V.heap.size, 3, none⟩ = some (.slice (some ⟨b5, o5, none⟩) 4 p4) := by rw [← hW1]; simp
            have hzV : V.heap.size < W1.heap.size := by rw [← hW1]; simp
            clear HKF HFA HFAIL HBAD HGOOD
            go_wp2_with fail
            clear hW1 c0 c1 c2 c3 d3
            go_cut [10] (fun p wx => ∃ g, p = .pointer (some ⟨g, 0, none⟩) ∧ Hid (HalfE W1 wx (z32, s1, s2, s3) g))
            case first =>
              have hz := zeroR
              have HZL : Hid (zE.length = 35) := by rw [Hid]; exact entC_length (z32_ok 0 0 0)
              obtain ⟨Z, hZ⟩ : ∃ Z, zE = Z := ⟨_, rfl⟩
              rw [hZ] at hz HZL
              clear hZ
              have hzok := z32_ok s1 s2 s3
              have HBU := hid (builtRw s1 s2 s3)
              have HST : Hid (∀ X Y : World, Kp No W1 X → Kp No (X.alloc (.cells Z.toArray 91)) Y → Y.there X.heap.size 0 35 ∧ HalfE W1 (Y.setCells X.heap.size 0 (entC (z32, s1, s2, s3))) (z32, s1, s2, s3) X.heap.size ∧ Kp No W1 (Y.setCells X.heap.size 0 (entC (z32, s1, s2, s3)))) := fun X Y h1 h2 => half_store HZL.out h1 h2
              obtain ⟨C0, hC0⟩ : ∃ C0, entC (z32, s1, s2, s3) = C0 := ⟨_, rfl⟩
              rw [hC0] at HBU HST
              have HC0L : Hid (C0.toArray.size = 35) := by rw [← hC0]; exact entC_length hzok
              have HI0 : Hid ((Tryz.prog.info? 91).map (·.size) = some C0.toArray.size) := by rw [← hC0]; exact infRE _ hzok
              have H10 : Hid (C0.toArray.all (·.oneCell') = true) := by rw [← hC0]; exact all_oneCell_toArray (entC_one _)
              clear hC0 hzok
              refine wp_region_held_drew (S := fun U => Kp No W1 U) (by kernel_rfl) ((Kp.refl _ _).drew) (fun hHeld => ?_)
              refine wpAnyH_take (i := 0) (oi := { dst := some 70, op := Op.fieldAddr 94 (Operand.tmp 9) 3, type := 0, pos := "ref.go:87", after := #[], guard := none }) (v := .pointer (some ⟨V.heap.size, 3, none⟩)) rfl (by kernel_rfl) (by kernel_rfl) (by kernel_rfl) (fun _ _ _ h => h) (Or.inl ⟨by rfl, fun w' hw' => by (clear hw'; go_simp)⟩) hHeld ?_
              simp only [Act.put, List.setIfInBounds_toArray, List.set_cons_zero, List.set_cons_succ]
              refine wpAnyH_take (i := 1) (oi := { dst := some 71, op := Op.load 92 (Operand.tmp 70), type := 92, pos := "ref.go:87", after := #[{ on := 0, ground := Ground.data }], guard := none }) (v := .slice (some ⟨b5, o5, none⟩) 4 p4) rfl (by kernel_rfl) (by kernel_rfl) (by kernel_rfl) (fun _ _ _ h => h) (Or.inl ⟨by rfl, fun w' hw' => by (have qq := (hw'.cell (p := ⟨V.heap.size, 3, none⟩) hzV (fun x => x)).trans x3; clear hw'; go_simp)⟩) hHeld ?_
              simp only [Act.put, List.setIfInBounds_toArray, List.set_cons_zero, List.set_cons_succ]
              refine wpAnyH_take (i := 2) (oi := { dst := some 72, op := Op.indexAddr 92 (Operand.tmp 71) (Operand.const (Value.int IntKind.i64 1)), type := 0, pos := "ref.go:87", after := #[{ on := 1, ground := Ground.data }], guard := none }) (v := .pointer (some ⟨b5, o5 + 4, none⟩)) rfl (by kernel_rfl) (by kernel_rfl) (by kernel_rfl) (fun _ _ _ h => h) (Or.inl ⟨by rfl, fun w' hw' => by (clear hw'; go_simp)⟩) hHeld ?_
              simp only [Act.put, List.setIfInBounds_toArray, List.set_cons_zero, List.set_cons_succ]
              refine wpAnyH_take (i := 3) (oi := { dst := some 73, op := Op.load 94 (Operand.tmp 72), type := 94, pos := "ref.go:87", after := #[{ on := 2, ground := Ground.data }], guard := none }) (v := .agg #[.int .i64 t1, .int .u64 m1, .slice ab lb cb, .slice ab' lb' cb']) rfl (by kernel_rfl) (by kernel_rfl) (by kernel_rfl) (fun _ _ _ h => h) (Or.inl ⟨by rfl, fun w' hw' => by (have q0 := (hw'.cell (p := ⟨b5, o5 + 4, none⟩) hb5 (fun x => x)).trans eb0; have q1 := (hw'.cell (p := ⟨b5, o5 + 4 + 1, none⟩) hb5 (fun x => x)).trans eb1; have q2 := (hw'.cell (p := ⟨b5, o5 + 4 + 2, none⟩) hb5 (fun x => x)).trans eb2; have q3 := (hw'.cell (p := ⟨b5, o5 + 4 + 3, none⟩) hb5 (fun x => x)).trans eb3; clear hw'; go_simp)⟩) hHeld ?_
              simp only [Act.put, List.setIfInBounds_toArray, List.set_cons_zero, List.set_cons_succ]
              refine wpAnyH_take (i := 5) (oi := { dst := some 75, op := Op.fieldAddr 94 (Operand.tmp 9) 3, type := 0, pos := "ref.go:87", after := #[], guard := none }) (v := .pointer (some ⟨V.heap.size, 3, none⟩)) rfl (by kernel_rfl) (by kernel_rfl) (by kernel_rfl) (fun _ _ _ h => h) (Or.inl ⟨by rfl, fun w' hw' => by (clear hw'; go_simp)⟩) hHeld ?_
              simp only [Act.put, List.setIfInBounds_toArray, List.set_cons_zero, List.set_cons_succ]
              refine wpAnyH_take (i := 6) (oi := { dst := some 76, op := Op.load 92 (Operand.tmp 75), type := 92, pos := "ref.go:87", after := #[{ on := 5, ground := Ground.data }], guard := none }) (v := .slice (some ⟨b5, o5, none⟩) 4 p4) rfl (by kernel_rfl) (by kernel_rfl) (by kernel_rfl) (fun _ _ _ h => h) (Or.inl ⟨by rfl, fun w' hw' => by (have qq := (hw'.cell (p := ⟨V.heap.size, 3, none⟩) hzV (fun x => x)).trans x3; clear hw'; go_simp)⟩) hHeld ?_
              simp only [Act.put, List.setIfInBounds_toArray, List.set_cons_zero, List.set_cons_succ]
              refine wpAnyH_take (i := 7) (oi := { dst := some 77, op := Op.indexAddr 92 (Operand.tmp 76) (Operand.const (Value.int IntKind.i64 2)), type := 0, pos := "ref.go:87", after := #[{ on := 6, ground := Ground.data }], guard := none }) (v := .pointer (some ⟨b5, o5 + 8, none⟩)) rfl (by kernel_rfl) (by kernel_rfl) (by kernel_rfl) (fun _ _ _ h => h) (Or.inl ⟨by rfl, fun w' hw' => by (clear hw'; go_simp)⟩) hHeld ?_
              simp only [Act.put, List.setIfInBounds_toArray, List.set_cons_zero, List.set_cons_succ]
              refine wpAnyH_take (i := 8) (oi := { dst := some 78, op := Op.load 94 (Operand.tmp 77), type := 94, pos := "ref.go:87", after := #[{ on := 7, ground := Ground.data }], guard := none }) (v := .agg #[.int .i64 t2, .int .u64 m2, .slice ac lc cc, .slice ac' lc' cc']) rfl (by kernel_rfl) (by kernel_rfl) (by kernel_rfl) (fun _ _ _ h => h) (Or.inl ⟨by rfl, fun w' hw' => by (have q0 := (hw'.cell (p := ⟨b5, o5 + 8, none⟩) hb5 (fun x => x)).trans ec0; have q1 := (hw'.cell (p := ⟨b5, o5 + 8 + 1, none⟩) hb5 (fun x => x)).trans ec1; have q2 := (hw'.cell (p := ⟨b5, o5 + 8 + 2, none⟩) hb5 (fun x => x)).trans ec2; have q3 := (hw'.cell (p := ⟨b5, o5 + 8 + 3, none⟩) hb5 (fun x => x)).trans ec3; clear hw'; go_simp)⟩) hHeld ?_
              simp only [Act.put, List.setIfInBounds_toArray, List.set_cons_zero, List.set_cons_succ]
              refine wpAnyH_take (i := 10) (oi := { dst := some 80, op := Op.fieldAddr 94 (Operand.tmp 9) 3, type := 0, pos := "ref.go:87", after := #[], guard := none }) (v := .pointer (some ⟨V.heap.size, 3, none⟩)) rfl (by kernel_rfl) (by kernel_rfl) (by kernel_rfl) (fun _ _ _ h => h) (Or.inl ⟨by rfl, fun w' hw' => by (clear hw'; go_simp)⟩) hHeld ?_
              simp only [Act.put, List.setIfInBounds_toArray, List.set_cons_zero, List.set_cons_succ]
              refine wpAnyH_take (i := 11) (oi := { dst := some 81, op := Op.load 92 (Operand.tmp 80), type := 92, pos := "ref.go:87", after := #[{ on := 10, ground := Ground.data }], guard := none }) (v := .slice (some ⟨b5, o5, none⟩) 4 p4) rfl (by kernel_rfl) (by kernel_rfl) (by kernel_rfl) (fun _ _ _ h => h) (Or.inl ⟨by rfl, fun w' hw' => by (have qq := (hw'.cell (p := ⟨V.heap.size, 3, none⟩) hzV (fun x => x)).trans x3; clear hw'; go_simp)⟩) hHeld ?_
              simp only [Act.put, List.setIfInBounds_toArray, List.set_cons_zero, List.set_cons_succ]
              refine wpAnyH_take (i := 12) (oi := { dst := some 82, op := Op.indexAddr 92 (Operand.tmp 81) (Operand.const (Value.int IntKind.i64 3)), type := 0, pos := "ref.go:87", after := #[{ on := 11, ground := Ground.data }], guard := none }) (v := .pointer (some ⟨b5, o5 + 12, none⟩)) rfl (by kernel_rfl) (by kernel_rfl) (by kernel_rfl) (fun _ _ _ h => h) (Or.inl ⟨by rfl, fun w' hw' => by (clear hw'; go_simp)⟩) hHeld ?_
              simp only [Act.put, List.setIfInBounds_toArray, List.set_cons_zero, List.set_cons_succ]
              refine wpAnyH_take (i := 13) (oi := { dst := some 83, op := Op.load 94 (Operand.tmp 82), type := 94, pos := "ref.go:87", after := #[{ on := 12, ground := Ground.data }], guard := none }) (v := .agg #[.int .i64 t3, .int .u64 m3, .slice ae le ce, .slice ae' le' ce']) rfl (by kernel_rfl) (by kernel_rfl) (by kernel_rfl) (fun _ _ _ h => h) (Or.inl ⟨by rfl, fun w' hw' => by (have q0 := (hw'.cell (p := ⟨b5, o5 + 12, none⟩) hb5 (fun x => x)).trans ee0; have q1 := (hw'.cell (p := ⟨b5, o5 + 12 + 1, none⟩) hb5 (fun x => x)).trans ee1; have q2 := (hw'.cell (p := ⟨b5, o5 + 12 + 2, none⟩) hb5 (fun x => x)).trans ee2; have q3 := (hw'.cell (p := ⟨b5, o5 + 12 + 3, none⟩) hb5 (fun x => x)).trans ee3; clear hw'; go_simp)⟩) hHeld ?_
              simp only [Act.put, List.setIfInBounds_toArray, List.set_cons_zero, List.set_cons_succ]
              refine wpAnyH_ready (rs := [4, 17]) (by kernel_rfl) (by simp) ?_
              refine (AllReadyH.cons (o := { dst := some 74, op := Op.call { callee := Callee.value (Operand.func 39), args := #[Operand.tmp 73], argTypes := #[94] }, type := 3, pos := "ref.go:87", after := #[{ on := 3, ground := Ground.data }], guard := none }) rfl (fun K hK => ?_) (AllReadyH.cons (o := { dst := some 10, op := Op.alloc 91, type := 0, pos := "ref.go:87", after := #[], guard := none }) rfl (fun K hK => ?_) AllReadyH.nil))
              · go_simp
                refine (HC1.out _).mono ?_
                rintro e' wa ⟨rfl, hkx⟩
                have HKwa : Hid (Kp No W1 wa) := ((Kp.refl No W1).drew).andNone hkx
                clear hkx
                go_wp2_with fail
                refine hK.out _ _ HKwa.out (fun hh => ?_)
                clear hK K hHeld
                have hHeld := hh
                clear hh
                try simp only [Act.put, List.setIfInBounds_toArray, List.set_cons_zero, List.set_cons_succ]
                refine wpAnyH_ready (rs := [9, 17]) (by kernel_rfl) (by simp) ?_
                refine (AllReadyH.cons (o := { dst := some 79, op := Op.call { callee := Callee.value (Operand.func 39), args := #[Operand.tmp 78], argTypes := #[94] }, type := 3, pos := "ref.go:87", after := #[{ on := 8, ground := Ground.data }, { on := 4, ground := Ground.chain }], guard := none }) rfl (fun K hK => ?_) (AllReadyH.cons (o := { dst := some 10, op := Op.alloc 91, type := 0, pos := "ref.go:87", after := #[], guard := none }) rfl (fun K hK => ?_) AllReadyH.nil))
                · go_simp
                  refine (HC2.out _).mono ?_
                  rintro e' wb ⟨rfl, hkx⟩
                  have HKwb : Hid (Kp No W1 wb) := HKwa.out.andNone hkx
                  clear hkx
                  go_wp2_with fail
                  refine hK.out _ _ HKwb.out (fun hh => ?_)
                  clear hK K hHeld
                  have hHeld := hh
                  clear hh
                  try simp only [Act.put, List.setIfInBounds_toArray, List.set_cons_zero, List.set_cons_succ]
                  refine wpAnyH_ready (rs := [14, 17]) (by kernel_rfl) (by simp) ?_
                  refine (AllReadyH.cons (o := { dst := some 84, op := Op.call { callee := Callee.value (Operand.func 39), args := #[Operand.tmp 83], argTypes := #[94] }, type := 3, pos := "ref.go:87", after := #[{ on := 13, ground := Ground.data }, { on := 9, ground := Ground.chain }], guard := none }) rfl (fun K hK => ?_) (AllReadyH.cons (o := { dst := some 10, op := Op.alloc 91, type := 0, pos := "ref.go:87", after := #[], guard := none }) rfl (fun K hK => ?_) AllReadyH.nil))
                  · go_simp
                    refine (HC3.out _).mono ?_
                    rintro e' wd ⟨rfl, hkx⟩
                    have HKwd : Hid (Kp No W1 wd) := HKwb.out.andNone hkx
                    clear hkx
                    go_wp2_with fail
                    refine hK.out _ _ HKwd.out (fun hh => ?_)
                    clear hK K hHeld
                    have hHeld := hh
                    clear hh
                    try simp only [Act.put, List.setIfInBounds_toArray, List.set_cons_zero, List.set_cons_succ]
                    refine wpAnyH_take (i := 15) (oi := { dst := some 85, op := Op.build 52 #[(0, Operand.tmp 74), (1, Operand.tmp 79), (2, Operand.tmp 84)], type := 52, pos := "ref.go:87", after := #[{ on := 4, ground := Ground.data }, { on := 9, ground := Ground.data }, { on := 14, ground := Ground.data }], guard := none }) (v := .agg #[.int .i64 s1, .int .i64 s2, .int .i64 s3]) rfl (by kernel_rfl) (by kernel_rfl) (by kernel_rfl) (fun _ _ _ h => h) (Or.inl ⟨by rfl, fun w' hw' => by (clear hw'; go_simp)⟩) hHeld ?_
                    simp only [Act.put, List.setIfInBounds_toArray, List.set_cons_zero, List.set_cons_succ]
                    refine wpAnyH_take (i := 16) (oi := { dst := some 86, op := Op.build 91 #[(1, Operand.tmp 85)], type := 91, pos := "ref.go:87", after := #[{ on := 15, ground := Ground.data }], guard := none }) (v := .agg C0.toArray) rfl (by kernel_rfl) (by kernel_rfl) (by kernel_rfl) (fun _ _ _ h => h) (yields_one (by rfl) 91 1 (.tmp 85) rfl (.agg #[.int .i64 s1, .int .i64 s2, .int .i64 s3]) rfl _ HBU.out) hHeld ?_
                    simp only [Act.put, List.setIfInBounds_toArray, List.set_cons_zero, List.set_cons_succ]
                    refine wpAnyH_ready (rs := [17]) (by kernel_rfl) (by simp) ?_
                    refine (AllReadyH.cons (o := { dst := some 10, op := Op.alloc 91, type := 0, pos := "ref.go:87", after := #[], guard := none }) rfl (fun K hK => ?_) AllReadyH.nil)
                    go_simp
                    refine hK.out _ _ (HKwd.out.alloc _) (fun hh => ?_)
                    clear hK K hHeld
                    have hHeld := hh
                    clear hh
                    try simp only [Act.put, List.setIfInBounds_toArray, List.set_cons_zero, List.set_cons_succ]
                    obtain ⟨hth, hhf, hkf⟩ := HST.out (wd) ((wd).alloc (.cells Z.toArray 91)) HKwd.out (Kp.refl No _)
                    have HTH := hid hth
                    have HHF := hid hhf
                    have HKFF := hid hkf
                    clear hth hhf hkf
                    refine wpAnyH_ready (rs := [18]) (by kernel_rfl) (by simp) ?_
                    refine AllReadyH.cons (o := { dst := none, op := Op.store 91 (Operand.tmp 10) (Operand.tmp 86), type := 0, pos := "ref.go:87", after := #[{ on := 17, ground := Ground.data }, { on := 16, ground := Ground.data }, { on := 14, ground := Ground.chain }, { on := 0, ground := Ground.phase }, { on := 1, ground := Ground.phase }, { on := 2, ground := Ground.phase }, { on := 3, ground := Ground.phase }, { on := 4, ground := Ground.phase }, { on := 5, ground := Ground.phase }, { on := 6, ground := Ground.phase }, { on := 7, ground := Ground.phase }, { on := 8, ground := Ground.phase }, { on := 9, ground := Ground.phase }, { on := 10, ground := Ground.phase }, { on := 11, ground := Ground.phase }, { on := 12, ground := Ground.phase }, { on := 13, ground := Ground.phase }, { on := 14, ground := Ground.phase }, { on := 15, ground := Ground.phase }, { on := 16, ground := Ground.phase }, { on := 17, ground := Ground.phase }], guard := none }) rfl (fun K hK => ?_) AllReadyH.nil
                    rw [if_pos (by rfl)]
                    refine wp_store_mid 91 _ _ (by rfl) (wd).heap.size 0 C0.toArray (by rfl) (by rfl) (by rw [HC0L.out]; exact HTH.out) HI0.out H10.out ?_
                    refine hK.out _ _ HKFF.out (fun hh => ?_)
                    clear hK K hHeld hh
                    refine wpAnyH_done (by kernel_rfl) ?_ _
                    go_wp2_with fail
                    go_meet
                    exact ⟨_, rfl, HHF.out⟩
                  · go_simp
                    refine hK.out _ _ (HKwb.out.alloc _) (fun hh => ?_)
                    clear hK K hHeld
                    have hHeld := hh
                    clear hh
                    try simp only [Act.put, List.setIfInBounds_toArray, List.set_cons_zero, List.set_cons_succ]
                    refine wpAnyH_ready (rs := [14]) (by kernel_rfl) (by simp) ?_
                    refine (AllReadyH.cons (o := { dst := some 84, op := Op.call { callee := Callee.value (Operand.func 39), args := #[Operand.tmp 83], argTypes := #[94] }, type := 3, pos := "ref.go:87", after := #[{ on := 13, ground := Ground.data }, { on := 9, ground := Ground.chain }], guard := none }) rfl (fun K hK => ?_) AllReadyH.nil)
                    go_simp
                    refine (HC3.out _).mono ?_
                    rintro e' wd ⟨rfl, hkx⟩
                    have HKwd : Hid (Kp No W1 wd) := (HKwb.out.alloc _).andNone hkx
                    have HAwd : Hid (Kp No ((wb).alloc (.cells Z.toArray 91)) wd) := (Kp.refl No _).andNone hkx
                    clear hkx
                    go_wp2_with fail
                    refine hK.out _ _ HKwd.out (fun hh => ?_)
                    clear hK K hHeld
                    have hHeld := hh
                    clear hh
                    try simp only [Act.put, List.setIfInBounds_toArray, List.set_cons_zero, List.set_cons_succ]
                    refine wpAnyH_take (i := 15) (oi := { dst := some 85, op := Op.build 52 #[(0, Operand.tmp 74), (1, Operand.tmp 79), (2, Operand.tmp 84)], type := 52, pos := "ref.go:87", after := #[{ on := 4, ground := Ground.data }, { on := 9, ground := Ground.data }, { on := 14, ground := Ground.data }], guard := none }) (v := .agg #[.int .i64 s1, .int .i64 s2, .int .i64 s3]) rfl (by kernel_rfl) (by kernel_rfl) (by kernel_rfl) (fun _ _ _ h => h) (Or.inl ⟨by rfl, fun w' hw' => by (clear hw'; go_simp)⟩) hHeld ?_
                    simp only [Act.put, List.setIfInBounds_toArray, List.set_cons_zero, List.set_cons_succ]
                    refine wpAnyH_take (i := 16) (oi := { dst := some 86, op := Op.build 91 #[(1, Operand.tmp 85)], type := 91, pos := "ref.go:87", after := #[{ on := 15, ground := Ground.data }], guard := none }) (v := .agg C0.toArray) rfl (by kernel_rfl) (by kernel_rfl) (by kernel_rfl) (fun _ _ _ h => h) (yields_one (by rfl) 91 1 (.tmp 85) rfl (.agg #[.int .i64 s1, .int .i64 s2, .int .i64 s3]) rfl _ HBU.out) hHeld ?_
                    simp only [Act.put, List.setIfInBounds_toArray, List.set_cons_zero, List.set_cons_succ]
                    obtain ⟨hth, hhf, hkf⟩ := HST.out (wb) (wd) HKwb.out HAwd.out
                    have HTH := hid hth
                    have HHF := hid hhf
                    have HKFF := hid hkf
                    clear hth hhf hkf
                    refine wpAnyH_ready (rs := [18]) (by kernel_rfl) (by simp) ?_
                    refine AllReadyH.cons (o := { dst := none, op := Op.store 91 (Operand.tmp 10) (Operand.tmp 86), type := 0, pos := "ref.go:87", after := #[{ on := 17, ground := Ground.data }, { on := 16, ground := Ground.data }, { on := 14, ground := Ground.chain }, { on := 0, ground := Ground.phase }, { on := 1, ground := Ground.phase }, { on := 2, ground := Ground.phase }, { on := 3, ground := Ground.phase }, { on := 4, ground := Ground.phase }, { on := 5, ground := Ground.phase }, { on := 6, ground := Ground.phase }, { on := 7, ground := Ground.phase }, { on := 8, ground := Ground.phase }, { on := 9, ground := Ground.phase }, { on := 10, ground := Ground.phase }, { on := 11, ground := Ground.phase }, { on := 12, ground := Ground.phase }, { on := 13, ground := Ground.phase }, { on := 14, ground := Ground.phase }, { on := 15, ground := Ground.phase }, { on := 16, ground := Ground.phase }, { on := 17, ground := Ground.phase }], guard := none }) rfl (fun K hK => ?_) AllReadyH.nil
                    rw [if_pos (by rfl)]
                    refine wp_store_mid 91 _ _ (by rfl) (wb).heap.size 0 C0.toArray (by rfl) (by rfl) (by rw [HC0L.out]; exact HTH.out) HI0.out H10.out ?_
                    refine hK.out _ _ HKFF.out (fun hh => ?_)
                    clear hK K hHeld hh
                    refine wpAnyH_done (by kernel_rfl) ?_ _
                    go_wp2_with fail
                    go_meet
                    exact ⟨_, rfl, HHF.out⟩
                · go_simp
                  refine hK.out _ _ (HKwa.out.alloc _) (fun hh => ?_)
                  clear hK K hHeld
                  have hHeld := hh
                  clear hh
                  try simp only [Act.put, List.setIfInBounds_toArray, List.set_cons_zero, List.set_cons_succ]
                  refine wpAnyH_ready (rs := [9]) (by kernel_rfl) (by simp) ?_
                  refine (AllReadyH.cons (o := { dst := some 79, op := Op.call { callee := Callee.value (Operand.func 39), args := #[Operand.tmp 78], argTypes := #[94] }, type := 3, pos := "ref.go:87", after := #[{ on := 8, ground := Ground.data }, { on := 4, ground := Ground.chain }], guard := none }) rfl (fun K hK => ?_) AllReadyH.nil)
                  go_simp
                  refine (HC2.out _).mono ?_
                  rintro e' wb ⟨rfl, hkx⟩
                  have HKwb : Hid (Kp No W1 wb) := (HKwa.out.alloc _).andNone hkx
                  have HAwb : Hid (Kp No ((wa).alloc (.cells Z.toArray 91)) wb) := (Kp.refl No _).andNone hkx
                  clear hkx
                  go_wp2_with fail
                  refine hK.out _ _ HKwb.out (fun hh => ?_)
                  clear hK K hHeld
                  have hHeld := hh
                  clear hh
                  try simp only [Act.put, List.setIfInBounds_toArray, List.set_cons_zero, List.set_cons_succ]
                  refine wpAnyH_ready (rs := [14]) (by kernel_rfl) (by simp) ?_
                  refine (AllReadyH.cons (o := { dst := some 84, op := Op.call { callee := Callee.value (Operand.func 39), args := #[Operand.tmp 83], argTypes := #[94] }, type := 3, pos := "ref.go:87", after := #[{ on := 13, ground := Ground.data }, { on := 9, ground := Ground.chain }], guard := none }) rfl (fun K hK => ?_) AllReadyH.nil)
                  go_simp
                  refine (HC3.out _).mono ?_
                  rintro e' wd ⟨rfl, hkx⟩
                  have HKwd : Hid (Kp No W1 wd) := HKwb.out.andNone hkx
                  have HAwd : Hid (Kp No ((wa).alloc (.cells Z.toArray 91)) wd) := HAwb.out.andNone hkx
                  clear hkx
                  go_wp2_with fail
                  refine hK.out _ _ HKwd.out (fun hh => ?_)
                  clear hK K hHeld
                  have hHeld := hh
                  clear hh
                  try simp only [Act.put, List.setIfInBounds_toArray, List.set_cons_zero, List.set_cons_succ]
                  refine wpAnyH_take (i := 15) (oi := { dst := some 85, op := Op.build 52 #[(0, Operand.tmp 74), (1, Operand.tmp 79), (2, Operand.tmp 84)], type := 52, pos := "ref.go:87", after := #[{ on := 4, ground := Ground.data }, { on := 9, ground := Ground.data }, { on := 14, ground := Ground.data }], guard := none }) (v := .agg #[.int .i64 s1, .int .i64 s2, .int .i64 s3]) rfl (by kernel_rfl) (by kernel_rfl) (by kernel_rfl) (fun _ _ _ h => h) (Or.inl ⟨by rfl, fun w' hw' => by (clear hw'; go_simp)⟩) hHeld ?_
                  simp only [Act.put, List.setIfInBounds_toArray, List.set_cons_zero, List.set_cons_succ]
                  refine wpAnyH_take (i := 16) (oi := { dst := some 86, op := Op.build 91 #[(1, Operand.tmp 85)], type := 91, pos := "ref.go:87", after := #[{ on := 15, ground := Ground.data }], guard := none }) (v := .agg C0.toArray) rfl (by kernel_rfl) (by kernel_rfl) (by kernel_rfl) (fun _ _ _ h => h) (yields_one (by rfl) 91 1 (.tmp 85) rfl (.agg #[.int .i64 s1, .int .i64 s2, .int .i64 s3]) rfl _ HBU.out) hHeld ?_
                  simp only [Act.put, List.setIfInBounds_toArray, List.set_cons_zero, List.set_cons_succ]
                  obtain ⟨hth, hhf, hkf⟩ := HST.out (wa) (wd) HKwa.out HAwd.out
                  have HTH := hid hth
                  have HHF := hid hhf
                  have HKFF := hid hkf
                  clear hth hhf hkf
                  refine wpAnyH_ready (rs := [18]) (by kernel_rfl) (by simp) ?_
                  refine AllReadyH.cons (o := { dst := none, op := Op.store 91 (Operand.tmp 10) (Operand.tmp 86), type := 0, pos := "ref.go:87", after := #[{ on := 17, ground := Ground.data }, { on := 16, ground := Ground.data }, { on := 14, ground := Ground.chain }, { on := 0, ground := Ground.phase }, { on := 1, ground := Ground.phase }, { on := 2, ground := Ground.phase }, { on := 3, ground := Ground.phase }, { on := 4, ground := Ground.phase }, { on := 5, ground := Ground.phase }, { on := 6, ground := Ground.phase }, { on := 7, ground := Ground.phase }, { on := 8, ground := Ground.phase }, { on := 9, ground := Ground.phase }, { on := 10, ground := Ground.phase }, { on := 11, ground := Ground.phase }, { on := 12, ground := Ground.phase }, { on := 13, ground := Ground.phase }, { on := 14, ground := Ground.phase }, { on := 15, ground := Ground.phase }, { on := 16, ground := Ground.phase }, { on := 17, ground := Ground.phase }], guard := none }) rfl (fun K hK => ?_) AllReadyH.nil
                  rw [if_pos (by rfl)]
                  refine wp_store_mid 91 _ _ (by rfl) (wa).heap.size 0 C0.toArray (by rfl) (by rfl) (by rw [HC0L.out]; exact HTH.out) HI0.out H10.out ?_
                  refine hK.out _ _ HKFF.out (fun hh => ?_)
                  clear hK K hHeld hh
                  refine wpAnyH_done (by kernel_rfl) ?_ _
                  go_wp2_with fail
                  go_meet
                  exact ⟨_, rfl, HHF.out⟩
              · go_simp
                refine hK.out _ _ (((Kp.refl No W1).drew).alloc _) (fun hh => ?_)
                clear hK K hHeld
                have hHeld := hh
                clear hh
                try simp only [Act.put, List.setIfInBounds_toArray, List.set_cons_zero, List.set_cons_succ]
                refine wpAnyH_ready (rs := [4]) (by kernel_rfl) (by simp) ?_
                refine (AllReadyH.cons (o := { dst := some 74, op := Op.call { callee := Callee.value (Operand.func 39), args := #[Operand.tmp 73], argTypes := #[94] }, type := 3, pos := "ref.go:87", after := #[{ on := 3, ground := Ground.data }], guard := none }) rfl (fun K hK => ?_) AllReadyH.nil)
                go_simp
                refine (HC1.out _).mono ?_
                rintro e' wa ⟨rfl, hkx⟩
                have HKwa : Hid (Kp No W1 wa) := (((Kp.refl No W1).drew).alloc _).andNone hkx
                have HAwa : Hid (Kp No ((W1.drew).alloc (.cells Z.toArray 91)) wa) := (Kp.refl No _).andNone hkx
                clear hkx
                go_wp2_with fail
                refine hK.out _ _ HKwa.out (fun hh => ?_)
                clear hK K hHeld
                have hHeld := hh
                clear hh
                try simp only [Act.put, List.setIfInBounds_toArray, List.set_cons_zero, List.set_cons_succ]
                refine wpAnyH_ready (rs := [9]) (by kernel_rfl) (by simp) ?_
                refine (AllReadyH.cons (o := { dst := some 79, op := Op.call { callee := Callee.value (Operand.func 39), args := #[Operand.tmp 78], argTypes := #[94] }, type := 3, pos := "ref.go:87", after := #[{ on := 8, ground := Ground.data }, { on := 4, ground := Ground.chain }], guard := none }) rfl (fun K hK => ?_) AllReadyH.nil)
                go_simp
                refine (HC2.out _).mono ?_
                rintro e' wb ⟨rfl, hkx⟩
                have HKwb : Hid (Kp No W1 wb) := HKwa.out.andNone hkx
                have HAwb : Hid (Kp No ((W1.drew).alloc (.cells Z.toArray 91)) wb) := HAwa.out.andNone hkx
                clear hkx
                go_wp2_with fail
                refine hK.out _ _ HKwb.out (fun hh => ?_)
                clear hK K hHeld
                have hHeld := hh
                clear hh
                try simp only [Act.put, List.setIfInBounds_toArray, List.set_cons_zero, List.set_cons_succ]
                refine wpAnyH_ready (rs := [14]) (by kernel_rfl) (by simp) ?_
                refine (AllReadyH.cons (o := { dst := some 84, op := Op.call { callee := Callee.value (Operand.func 39), args := #[Operand.tmp 83], argTypes := #[94] }, type := 3, pos := "ref.go:87", after := #[{ on := 13, ground := Ground.data }, { on := 9, ground := Ground.chain }], guard := none }) rfl (fun K hK => ?_) AllReadyH.nil)
                go_simp
                refine (HC3.out _).mono ?_
                rintro e' wd ⟨rfl, hkx⟩
                have HKwd : Hid (Kp No W1 wd) := HKwb.out.andNone hkx
                have HAwd : Hid (Kp No ((W1.drew).alloc (.cells Z.toArray 91)) wd) := HAwb.out.andNone hkx
                clear hkx
                go_wp2_with fail
                refine hK.out _ _ HKwd.out (fun hh => ?_)
                clear hK K hHeld
                have hHeld := hh
                clear hh
                try simp only [Act.put, List.setIfInBounds_toArray, List.set_cons_zero, List.set_cons_succ]
                refine wpAnyH_take (i := 15) (oi := { dst := some 85, op := Op.build 52 #[(0, Operand.tmp 74), (1, Operand.tmp 79), (2, Operand.tmp 84)], type := 52, pos := "ref.go:87", after := #[{ on := 4, ground := Ground.data }, { on := 9, ground := Ground.data }, { on := 14, ground := Ground.data }], guard := none }) (v := .agg #[.int .i64 s1, .int .i64 s2, .int .i64 s3]) rfl (by kernel_rfl) (by kernel_rfl) (by kernel_rfl) (fun _ _ _ h => h) (Or.inl ⟨by rfl, fun w' hw' => by (clear hw'; go_simp)⟩) hHeld ?_
                simp only [Act.put, List.setIfInBounds_toArray, List.set_cons_zero, List.set_cons_succ]
                refine wpAnyH_take (i := 16) (oi := { dst := some 86, op := Op.build 91 #[(1, Operand.tmp 85)], type := 91, pos := "ref.go:87", after := #[{ on := 15, ground := Ground.data }], guard := none }) (v := .agg C0.toArray) rfl (by kernel_rfl) (by kernel_rfl) (by kernel_rfl) (fun _ _ _ h => h) (yields_one (by rfl) 91 1 (.tmp 85) rfl (.agg #[.int .i64 s1, .int .i64 s2, .int .i64 s3]) rfl _ HBU.out) hHeld ?_
                simp only [Act.put, List.setIfInBounds_toArray, List.set_cons_zero, List.set_cons_succ]
                obtain ⟨hth, hhf, hkf⟩ := HST.out (W1.drew) (wd) ((Kp.refl No W1).drew) HAwd.out
                have HTH := hid hth
                have HHF := hid hhf
                have HKFF := hid hkf
                clear hth hhf hkf
                refine wpAnyH_ready (rs := [18]) (by kernel_rfl) (by simp) ?_
                refine AllReadyH.cons (o := { dst := none, op := Op.store 91 (Operand.tmp 10) (Operand.tmp 86), type := 0, pos := "ref.go:87", after := #[{ on := 17, ground := Ground.data }, { on := 16, ground := Ground.data }, { on := 14, ground := Ground.chain }, { on := 0, ground := Ground.phase }, { on := 1, ground := Ground.phase }, { on := 2, ground := Ground.phase }, { on := 3, ground := Ground.phase }, { on := 4, ground := Ground.phase }, { on := 5, ground := Ground.phase }, { on := 6, ground := Ground.phase }, { on := 7, ground := Ground.phase }, { on := 8, ground := Ground.phase }, { on := 9, ground := Ground.phase }, { on := 10, ground := Ground.phase }, { on := 11, ground := Ground.phase }, { on := 12, ground := Ground.phase }, { on := 13, ground := Ground.phase }, { on := 14, ground := Ground.phase }, { on := 15, ground := Ground.phase }, { on := 16, ground := Ground.phase }, { on := 17, ground := Ground.phase }], guard := none }) rfl (fun K hK => ?_) AllReadyH.nil
                rw [if_pos (by rfl)]
                refine wp_store_mid 91 _ _ (by rfl) (W1.drew).heap.size 0 C0.toArray (by rfl) (by rfl) (by rw [HC0L.out]; exact HTH.out) HI0.out H10.out ?_
                refine hK.out _ _ HKFF.out (fun hh => ?_)
                clear hK K hHeld hh
                refine wpAnyH_done (by kernel_rfl) ?_ _
                go_wp2_with fail
                go_meet
                exact ⟨_, rfl, HHF.out⟩
            case rest =>
              obtain ⟨g, rfl, HH⟩ := hcut
              obtain ⟨U, rfl⟩ : ∃ U, U = wc := ⟨_, rfl⟩
              clear eb0 eb1 eb2 eb3 ec0 ec1 ec2 ec3 ee0 ee1 ee2 ee3 HC1 HC2 HC3
              have hnb : bn.length = 32 := HNB.out
              have HNBL := hid hnb
              clear hnb
              go_wp2_with fail
              go_loopw [11] (fun v11 wq => ∃ (j : Nat), v11 = .int .i64 (j : Int) ∧ j ≤ 32 ∧ Hid (HalfE W1 wq (padTo bn j, s1, s2, s3) g)) (fun v11 _ => 32 - (intOf v11).toNat)
              case atStart => exact ⟨0, rfl, Nat.zero_le _, by rw [Hid, padTo_zero]; exact HH.out⟩
              case round =>
                obtain ⟨j, rfl, hj32, HQ⟩ := hrel
                obtain ⟨Q, rfl⟩ : ∃ Q, Q = wr := ⟨_, rfl⟩
                have hKQ : Kp No W1 Q := Kp.below HQ.out.1
                have hzQ := hKQ.size
                by_cases hj : j < 32
                · have hjI : (j : Int) < 32 := by omega
                  have hj0 : (0 : Int) ≤ (j : Int) := by omega
                  have hwj : IntKind.i64.wrap ((j : Int) + 1) = ((j + 1 : Nat) : Int) := by rw [IntKind.wrap_i64]; omega
                  obtain ⟨gc, gf, gz, hnx, _⟩ := half_next HQ.out HNBL.out hj
                  have HNX := hid hnx
                  have y3 : Q.cell? ⟨V.heap.size, 3, none⟩ = some (.slice (some ⟨b5, o5, none⟩) 4 p4) := (hKQ.cell (p := ⟨V.heap.size, 3, none⟩) hzV (fun x => x)).trans x3
                  have y2 : Q.cell? ⟨b5, o5 + 2, none⟩ = some (.slice (some ⟨ga, oa, none⟩) 32 ca) := (hKQ.cell (p := ⟨b5, o5 + 2, none⟩) hb5 (fun x => x)).trans ea2
                  have y1 : Q.cell? ⟨ga, oa + j, none⟩ = some (.int .u8 (bn.getD j 0)) := (((HKV.out.andNone HKA.out).andNone hKQ).cell (p := ⟨ga, oa + j, none⟩) hSa.2 (fun x => x)).trans (HCELL.out j (by rw [HNBL.out]; exact hj))
                  have z1 : V.heap.size < Q.heap.size := by omega
                  have z2 : b5 < Q.heap.size := by omega
                  have z3 : ga < Q.heap.size := by omega
                  generalize bn.getD j 0 = xx at *
                  clear hnx
                  go_wp2_with fail
                  go_round
                  case rel => exact ⟨j + 1, by first | rfl | go_num, by omega, HNX.out⟩
                  case measure => simp [intOf]; omega
                · have hjI : ¬ (j : Int) < 32 := by omega
                  have hj2 : j = 32 := by omega
                  have HFULL : Hid (HalfE W1 Q (bn, s1, s2, s3) g) := by
                    have := HQ.out
                    rw [hj2, padTo_full HNBL.out] at this
                    exact this
                  have heo : EOk (bn, s1, s2, s3) := ⟨HNBL.out, HBN6.out⟩
                  have HEO := hid heo
                  have HR35 := hid HFULL.out.2.2.2.1
                  have HIE := hid (infRE _ heo)
                  have hDk : (t.kd.map entR)[k]? = some (bn, s1, s2, s3) := by rw [List.getElem?_map, HXK.out]; simp [HENT.out]
                  have hDl : ((t.kd.map entR).take k).length = k := by rw [List.length_take, List.length_map, ← HL2.out]; omega
                  obtain ⟨ad2, cap2, w5, hap, hk5, hm5⟩ := next_R (e := (bn, s1, s2, s3)) HM.out hDl (HKA.out.andNone hKQ) heo (by omega) 22
                  have HM5 : Hid (MineR W0 w5 (.slice ad2 (k + 1) cap2) ((t.kd.map entR).take (k + 1))) := by rw [Hid, List.take_add_one, hDk]; exact hm5
                  have H5 : Hid (∀ y ∈ t.kd.take (k + 1), OkK y ∧ EOk (entR y)) := by
                    intro y hy
                    rw [List.take_add_one, HXK.out] at hy
                    rcases List.mem_append.1 hy with hy | hy
                    · exact HO4.out y hy
                    · simp at hy
                      subst hy
                      refine ⟨⟨HTX.out, HL4.out.symm, fun a0 ha => ?_⟩, by rw [HENT.out]; exact heo⟩
                      rw [HKD.out] at ha
                      simp at ha
                      subst ha
                      rw [HTA.out, HBN.out]
                      exact ⟨rfl, HNBL.out⟩
                  have HB2 := hid (run_oneRX heo)
                  have HAP := hid hap
                  generalize entC (bn, s1, s2, s3) = C at *
                  clear hj2 hap hk5 hm5 hDk hDl heo x0 x3 ea0 ea1 ea2 ea3
                  go_wp2_with (first
                    | (refine wpList_load_mid (by rfl) 91 _ (by rfl) g 0 (by rfl) C _ HR35.out Tryz.underlying91 rfl HIE.out ?_)
                    | (refine wpList_valE (by rfl) (exec_sliceE 22 _ rfl (.agg C.toArray) _ rfl (HB2.out _)) ?_)
                    | (refine wpList_valE (by rfl) (exec_appE _ _ 22 rfl (.slice ad k cap) (.slice (some ⟨Q.heap.size, 0, none⟩) 1 1) _ rfl rfl HAP.out) ?_))
                  go_round
                  case rel => exact ⟨k + 1, ad2, cap2, rfl, by first | rfl | go_num, by omega, HM5.out, H5.out⟩
                  case measure => simp [intOf]; omega
          · have hltI : ¬ (k : Int) < (l2 : Int) := by omega
            have hkl : k = t.kd.length := by rw [← HL2.out]; omega
            have HMD : Hid (MineR W0 V (.slice ad k cap) (t.kd.map entR)) := by
              have := HM.out
              rw [List.take_of_length_le (by rw [List.length_map]; omega)] at this
              exact this
            have HAL : Hid (∀ x ∈ t.kd, OkK x ∧ EOk (entR x)) := by
              have := HO4.out
              rw [List.take_of_length_le (by omega)] at this
              exact this
            have HOKS : Hid (Oks (t.kd.map entR)) := fun x hx => by
              obtain ⟨y, hy, rfl⟩ := List.mem_map.1 hx
              exact (HAL.out y hy).2
            have HEV : Hid (EV (fun g => W0.heap.size ≤ g) V (.slice ad k cap) (t.kd.map entR)) := ev_of_rowT HMD.out.1 HOKS.out HMD.out.2.1
            have hkl2 : (t.kd.map entR).length ≤ 1000000 := by rw [List.length_map, ← hkl]; omega
            have HRR := hid (rright_any V _ _ _ HEV.out hkl2)
            clear hkl hkl2
            go_wp2_with fail
            refine HRR.out.mono ?_
            rintro e w5 ⟨⟨rb, rfl, hrb⟩, hk5⟩
            have HK5 : Hid (Kp No w w5) := (HK2.out.andNone HKV.out).andNone hk5
            have HK5V := hid hk5
            have HRB := hid hrb
            clear hrb hk5
            cases rb with
            | false =>
              have HGA : Hid (GAns bs 3 []) := HBAD.out (fun hg => by have := HRB.out.2 hg.2.2; cases this)
              go_wp2_with fail
              go_ret2
              exact RGot.none HGA.out HK5.out
            | true =>
              have HGA : Hid (GAns bs 0 (t.kd.map entR)) := HGOOD.out ⟨HTG.out, fun x hx => (HAL.out x hx).1, HRB.out.1 rfl⟩
              have HFIN : Hid (RGot w w5 bs (.returned (.tuple #[.slice ad k cap, .int .i64 0]))) := ⟨_, 0, _, rfl, HGA.out, ⟨HMD.out.1.kept HK5V.out, fun x hx => Nat.le_trans (Nat.le_trans HK2.out.size HK0.out.size) (HMD.out.2.1 x hx), HK5.out⟩, HOKS.out⟩
              go_wp2_with fail
              go_ret2
              exact HFIN.out
    · have HGA : Hid (GAns bs 4 []) := .inr (.inl ⟨H4.out, fun e => hne (HSEAL.out.2 (by rw [← HXS.out]; exact e)), rfl, rfl⟩)
      clear hne
      go_wp2_with fail
      go_ret2
      exact RGot.none HGA.out HK1.out
end Go.Proofs.YtampnikdmgojjaaGreat.Sg
end

section
/-
  The law of forms, walked.
-/
namespace Go.Proofs.YtampnikdmgojjaaGreat.Sg
open Go.RowKit
open Stb (Stab Srt Mrg)
open Tlv (Tr Agree BySlS)
open Crc (Kept Tab)
open Sim (hid Kp No)

theorem gans_det {bs : List Int} {f f' : Int} {d d' : List Ent} (h : GAns bs f d) (h' : GAns bs f' d') : f = f' ∧ d = d' := by
  rcases h with ⟨a1, a2, a3⟩ | ⟨a1, a2, a3, a4⟩ | ⟨a1, a2, a3, a4, a5⟩ | ⟨a1, a2, t, a3, a4, a5, a6⟩ <;>
  rcases h' with ⟨b1, b2, b3⟩ | ⟨b1, b2, b3, b4⟩ | ⟨b1, b2, b3, b4, b5⟩ | ⟨b1, b2, u, b3, b4, b5, b6⟩
  · exact ⟨by rw [a2, b2], by rw [a3, b3]⟩
  · omega
  · omega
  · omega
  · omega
  · exact ⟨by rw [a3, b3], by rw [a4, b4]⟩
  · exact absurd b2 a2
  · exact absurd b2 a2
  · omega
  · exact absurd a2 b2
  · exact ⟨by rw [a4, b4], by rw [a5, b5]⟩
  · exact absurd b4 (a3 u b3)
  · omega
  · exact absurd a2 b2
  · exact absurd a4 (b3 t a3)
  · rw [a3] at b3
    cases b3
    exact ⟨by rw [a5, b5], by rw [a6, b6]⟩
theorem gans_len {bs : List Int} {f : Int} {d : List Ent} (h : GAns bs f d) : d.length ≤ 900 := by
  rcases h with ⟨_, _, h1⟩ | ⟨_, _, _, h1⟩ | ⟨_, _, _, _, h1⟩ | ⟨_, _, t, _, h1, _, h2⟩
  · rw [h1]; simp
  · rw [h1]; simp
  · rw [h1]; simp
  · rw [h2]; exact h1.2.1.1
/-- What Put answers. -/
def PutA (d : List Ent) (F : Int) (XS : List Int) : Prop := (RightP d ∧ F = 0 ∧ XS = sealE d) ∨ (¬ RightP d ∧ F = 1 ∧ XS = [])
theorem putA_ex (d : List Ent) : ∃ F XS, PutA d F XS := by
  by_cases h : RightP d
  · exact ⟨0, sealE d, .inl ⟨h, rfl, rfl⟩⟩
  · exact ⟨1, [], .inr ⟨h, rfl, rfl⟩⟩
theorem own_bytes {b base : Nat} {w : World} {v : Value} {d : List Ent} (ho : Crc.Own w base v (nats (sealE d))) (hb : b < base) (hd : ∀ e ∈ d, EOk e) (hl : d.length ≤ 900) : ∃ a c, v = .slice a (sealE d).length c ∧ BySlS (fun g => g ≠ b ∧ g < w.heap.size) w (.slice a (sealE d).length c) (sealE d) := by
  have hs := sealE_length hd hl
  have hc := ho.bySl hb (by rw [nats_length]; omega) (nats_lt _ (sealE_bd hd hl))
  have h2 := ofCrc hc
  rw [ints_nats _ (sealE_bd hd hl)] at h2
  obtain ⟨a, c, rfl, _⟩ := id h2
  exact ⟨a, c, rfl, h2⟩
theorem put_all (b : Nat) (w : World) (v : Value) (d : List Ent) (P : Nat → Prop) (hT : TabX w b) (hv : EV P w v d) (hl : d.length ≤ 1000000) {F : Int} {XS : List Int} (hA : PutA d F XS) :
    Calls Tryz.prog 7 #[.pointer (some ⟨b, 0, none⟩), v] w fun e w' => ∃ a c, e = .returned (.tuple #[.slice a XS.length c, .int .i64 F]) ∧ BySlS (fun g => g ≠ b ∧ g < w'.heap.size) w' (.slice a XS.length c) XS ∧ Kept b w w' ∧ TabX w' b := by
  rcases hA with ⟨hR, rfl, rfl⟩ | ⟨hR, rfl, rfl⟩
  · refine (put_yes b w v d P hT hv hR).mono ?_
    rintro e w' ⟨v', rfl, ho, hk, ht⟩
    obtain ⟨a, c, rfl, hb⟩ := own_bytes ho hT.lt hv.ok hR.1
    exact ⟨a, c, rfl, hb, hk, ht⟩
  · refine (put_no _ w v d P hv hl hR).mono ?_
    rintro e w' ⟨rfl, hk⟩
    exact ⟨none, 0, rfl, Tlv.BySlS.none _ _, Kept.below hk.toBelow', hT.below hk.toBelow'⟩
theorem rput_all (b : Nat) (w : World) (v : Value) (d : List Ent) (P : Nat → Prop) (hbw : b < w.heap.size) (hv : EV P w v d) (hP : ∀ g, P g → g < w.heap.size) (hl : d.length ≤ 1000000) {F : Int} {XS : List Int} (hA : PutA d F XS) :
    Calls Tryz.prog 9 #[v] w fun e w' => ∃ a c, e = .returned (.tuple #[.slice a XS.length c, .int .i64 F]) ∧ BySlS (fun g => g ≠ b ∧ g < w'.heap.size) w' (.slice a XS.length c) XS ∧ Kp No w w' := by
  rcases hA with ⟨hR, rfl, rfl⟩ | ⟨hR, rfl, rfl⟩
  · refine (rput_yes w v d P hv hP (by omega) hR).mono ?_
    rintro e w' ⟨v', rfl, ho, hk⟩
    obtain ⟨a, c, rfl, hb⟩ := own_bytes ho hbw hv.ok hR.1
    exact ⟨a, c, rfl, hb, hk⟩
  · refine (rput_no w v d P hv hl hR).mono ?_
    rintro e w' ⟨rfl, hk⟩
    exact ⟨none, 0, rfl, Tlv.BySlS.none _ _, hk⟩
theorem EV.under {P : Nat → Prop} {B : Nat} {w W : World} {v : Value} {d : List Ent} (h : EV P w v d) (hb : Below B w W) (hP : ∀ g, P g → g < B) : EV P W v d :=
  h.kp (L := fun x => ¬ x < B) ⟨hb.os, hb.tape, hb.output, hb.size, fun j _ hn => hb.block j (Classical.not_not.1 hn)⟩ (fun g hg hn => hn (hP g hg))
theorem bytes_on {b : Nat} {S : Nat → Prop} {w w' : World} {v : Value} {xs : List Int} (h : BySlS S w v xs) (k : Kp (fun x => x = b) w w') (hS : ∀ g, S g → g ≠ b ∧ g < w.heap.size) : BySlS S w' v xs := h.agree (fun g hg => k.block g (hS g hg).2 (hS g hg).1) (fun _ h => h)
theorem bytesL {b : Nat} {w w' : World} {v : Value} {xs : List Int} (h : BySlS (fun g => g ≠ b ∧ g < w.heap.size) w v xs) (k : Kp (fun x => x = b) w w') : BySlS (fun g => g ≠ b ∧ g < w'.heap.size) w' v xs :=
  h.agree (fun g hg => k.block g hg.2 hg.1) (fun _ hg => ⟨hg.1, Nat.lt_of_lt_of_le hg.2 k.size⟩)
theorem kpNo {b : Nat} {w w' : World} (k : Kp No w w') : Kp (fun x => x = b) w w' := k.ofNo

theorem fForm {P : Nat → Prop} {w : World} {v : Value} {d : List Ent} (h : EV P w v d) : ∃ a c, v = .slice a d.length c := by
  obtain ⟨a, c, e, _⟩ := h
  exact ⟨a, c, e⟩
theorem fShape {w : World} {t : TypeId} {sz n : Nat} {v : Value} {xs : List Value} (h : Sim.Row w t sz v n xs) : ∃ a c, v = .slice a n c := by
  obtain ⟨a, c, e, _⟩ := h.shape
  exact ⟨a, c, e⟩

set_option maxHeartbeats 4000000 in
set_option maxRecDepth 100000 in
theorem forms_big (w : World) (a1 a2 : Option Addr) (n1 n2 c1 c2 : Nat) (h : 60 < n1 ∨ 2000 < n2) : Calls Tryz.prog 3 #[.slice a1 n1 c1, .slice a2 n2 c2] w fun e w' => e = .returned (.bool true) ∧ Below w.heap.size w w' := by
  by_cases h1 : 60 < n1
  · have hI : (60 : Int) < (n1 : Int) := by omega
    go_enter Tryz.func3, Tryz.ntmps3
    go_wp2_with fail
    refine (alive_any _).mono ?_
    rintro e w1 ⟨rfl, hk⟩
    have HK := hid hk
    clear hk
    go_wp2_with fail
    go_ret
    exact ⟨rfl, HK.out.toBelow'⟩
  · have hI : ¬ (60 : Int) < (n1 : Int) := by omega
    have hI2 : (2000 : Int) < (n2 : Int) := by omega
    go_enter Tryz.func3, Tryz.ntmps3
    go_wp2_with fail
    refine (alive_any _).mono ?_
    rintro e w1 ⟨rfl, hk⟩
    have HK := hid hk
    clear hk
    go_wp2_with fail
    go_ret
    exact ⟨rfl, HK.out.toBelow'⟩

set_option maxHeartbeats 8000000 in
set_option maxRecDepth 100000 in
theorem forms_main (w : World) (v1 v2 : Value) (l : List Ent) (P1 : Nat → Prop) (hl : EV P1 w v1 l) (hP1 : ∀ g, P1 g → g < w.heap.size) (bs : List Int) (hb : Tlv.BySl 0 w.heap.size w v2 bs) :
    Calls Tryz.prog 3 #[v1, v2] w fun e w' => e = .returned (.bool true) ∧ Below w.heap.size w w' := by
  have HL := hid hl
  have HB := hid hb
  have HP1 := hid hP1
  obtain ⟨a1, c1, rfl⟩ := fForm hl
  obtain ⟨a2, c2, rfl, _⟩ := hb
  obtain ⟨n1, hn1⟩ : ∃ n, l.length = n := ⟨_, rfl⟩
  obtain ⟨n2, hn2⟩ : ∃ n, bs.length = n := ⟨_, rfl⟩
  have HN1 := hid hn1
  have HN2 := hid hn2
  rw [hn1] at HL ⊢
  rw [hn2] at HB ⊢
  clear hn1 hn2 hl hP1
  by_cases hbig : 60 < n1 ∨ 2000 < n2
  · exact forms_big w a1 a2 n1 n2 c1 c2 hbig
  have hb1 : n1 ≤ 60 := by omega
  have hb2 : n2 ≤ 2000 := by omega
  clear hbig
  have hI : ¬ (60 : Int) < (n1 : Int) := by omega
  have hI2 : ¬ (2000 : Int) < (n2 : Int) := by omega
  obtain ⟨F, XS, hA⟩ := putA_ex l
  have HA := hid hA
  clear hA
  obtain ⟨B, hB⟩ : ∃ B, w.heap.size = B := ⟨_, rfl⟩
  have HBZ := hid hB
  go_enter Tryz.func3, Tryz.ntmps3
  go_wp2_with fail
  refine (Crc.new_any w).mono ?_
  rintro e w1 ⟨rfl, hB1, hs1, ht1⟩
  have HB1 := hid hB1
  have HO1 : Hid (On w1 w1 w.heap.size) := ⟨Kp.refl _ _, 0, 0, .inl rfl, ht1⟩
  have hlt1 : w.heap.size < w1.heap.size := by omega
  have HLW : Hid (∀ W, On w1 W w.heap.size → EV P1 W (.slice a1 n1 c1) l) := fun W hW => HL.out.under (On.fin HB1.out hW) HP1.out
  have HBW : Hid (∀ W, On w1 W w.heap.size → BySlS (fun g => g ≠ w.heap.size ∧ g < W.heap.size) W (.slice a2 n2 c2) bs) := fun W hW => On.bytes HB1.out hW HB.out
  have HSZ : Hid (∀ W, On w1 W w.heap.size → w1.heap.size ≤ W.heap.size) := fun W hW => hW.1.size
  clear hB1 hs1 ht1 hB HBZ
  go_wp2_with fail
  refine (own_any _ _ l P1 (HLW.out _ HO1.out) (by rw [HN1.out]; omega)).mono ?_
  rintro e w2 ⟨r1, rfl, hM⟩
  have HV2 := hid (ev_of_row (P := fun g => w1.heap.size ≤ g) hM.1 (HLW.out _ HO1.out).ok hM.2.1)
  have HO2 := hid (HO1.out.kp hM.2.2)
  obtain ⟨x1, y1, rfl⟩ := fShape hM.1
  clear hM
  go_wp2_with fail
  refine (put_all w.heap.size w2 _ l _ HO2.out.2 HV2.out (by rw [HN1.out]; omega) HA.out).mono ?_
  rintro e w3 ⟨ax, cx, rfl, hbx, hk3, ht3⟩
  have HO3 := hid (HO2.out.kept hk3 ht3)
  have HX3 := hid hbx
  clear hbx hk3 ht3 HV2
  go_wp2_with fail
  refine (rput_all w.heap.size w3 _ l P1 (by have := HSZ.out _ HO3.out; omega) (HLW.out _ HO3.out) (fun g hg => by have := HSZ.out _ HO3.out; have := HP1.out g hg; omega) (by rw [HN1.out]; omega) HA.out).mono ?_
  rintro e w4 ⟨ay, cy, rfl, hby, hk4⟩
  have HO4 := hid (HO3.out.kp hk4)
  have HX4 := hid (bytesL HX3.out (kpNo hk4))
  have HY4 := hid hby
  clear hby hk4 HX3
  go_wp2_with fail
  refine (get_any w.heap.size w4 _ bs HO4.out.2 (HBW.out _ HO4.out) (by rw [HN2.out]; omega)).mono ?_
  rintro e w5 ⟨vm, fm, dm, rfl, hga, hrow, hown, hok, hk5, ht5⟩
  have HO5 := hid (HO4.out.kept hk5 ht5)
  have HX5 := hid (bytesL HX4.out (kpK hk5))
  have HY5 := hid (bytesL HY4.out (kpK hk5))
  have HGA := hid hga
  have hz4 := HSZ.out _ HO4.out
  have HEM : Hid (EV (fun g => w.heap.size < g) w5 vm dm) := ev_of_row hrow hok (fun x hx => by have := hown x hx; omega)
  obtain ⟨am, cm, rfl⟩ := fShape hrow
  clear hga hrow hown hok hk5 ht5 HX4 HY4 hz4
  go_wp2_with fail
  refine (rget_any w.heap.size w5 _ bs (by have := HSZ.out _ HO5.out; omega) (HBW.out _ HO5.out) (by rw [HN2.out]; omega)).mono ?_
  rintro e w6 ⟨vn, fn, dn, rfl, hgn, hmn, hokn⟩
  obtain ⟨rfl, rfl⟩ := gans_det HGA.out hgn
  have HO6 := hid (HO5.out.kp hmn.2.2)
  have HX6 := hid (bytesL HX5.out (kpNo hmn.2.2))
  have HY6 := hid (bytesL HY5.out (kpNo hmn.2.2))
  have HEM6 := hid (HEM.out.kept hmn.2.2)
  have hz5 := HSZ.out _ HO5.out
  have HEN6 : Hid (EV (fun g => w.heap.size < g) w6 vn dm) := ev_of_rowT hmn.1 hokn (fun x hx => by have := hmn.2.1 x hx; omega)
  obtain ⟨an, cn, rfl⟩ := fShape hmn.1
  obtain ⟨nm, hnm⟩ : ∃ n, dm.length = n := ⟨_, rfl⟩
  have HNM := hid hnm
  have hdl : nm ≤ 1000000 := by
    have := gans_len hgn
    omega
  rw [hnm] at HEM6 HEN6 ⊢
  clear hnm hgn hmn hokn HX5 HY5 HEM HGA hz5
  go_wp2_with fail
  -- Right
  refine (own_any _ _ l P1 (HLW.out _ HO6.out) (by rw [HN1.out]; omega)).mono ?_
  rintro e w7 ⟨r7, rfl, hM⟩
  have HV7 := hid (ev_of_row (P := fun g => w6.heap.size ≤ g) hM.1 (HLW.out _ HO6.out).ok hM.2.1)
  have HK7 := hid hM.2.2
  have HO7 := hid (HO6.out.kp hM.2.2)
  obtain ⟨x7, y7, rfl⟩ := fShape hM.1
  clear hM
  go_wp2_with fail
  refine (right_any w7 _ l _ HV7.out (by rw [HN1.out]; omega)).mono ?_
  rintro e w8 ⟨⟨rb, rfl, hrb⟩, hk8⟩
  have HK8 := hid (HK7.out.andNone hk8)
  have HO8 := hid (HO7.out.kp hk8)
  have HRB := hid hrb
  clear hrb hk8 HV7
  go_wp2_with fail
  refine (rright_any w8 _ l P1 (HLW.out _ HO8.out) (by rw [HN1.out]; omega)).mono ?_
  rintro e w9 ⟨⟨rb2, rfl, hrb2⟩, hk9⟩
  have hbb : rb2 = rb := by
    rw [Bool.eq_iff_iff]
    exact hrb2.trans HRB.out.symm
  subst hbb
  have HK9 := hid (HK8.out.andNone hk9)
  have HO9 := hid (HO8.out.kp hk9)
  have hbeq : (rb2 == rb2) = true := by cases rb2 <;> rfl
  clear hrb2 hk9 HRB
  go_wp2_with fail
  -- Sort
  refine (own_any _ _ l P1 (HLW.out _ HO9.out) (by rw [HN1.out]; omega)).mono ?_
  rintro e wa ⟨ra, rfl, hM⟩
  have HVa := hid (ev_of_row (P := fun g => w9.heap.size ≤ g) hM.1 (HLW.out _ HO9.out).ok hM.2.1)
  have HKa := hid (HK9.out.andNone hM.2.2)
  have HOa := hid (HO9.out.kp hM.2.2)
  obtain ⟨xa, ya, rfl⟩ := fShape hM.1
  clear hM
  go_wp2_with fail
  refine (sort_any wa _ l _ HVa.out (by rw [HN1.out]; omega)).mono ?_
  rintro e wb ⟨rS, X, rfl, hs3, hr3, hk3, hv3⟩
  have HSS := hid (And.intro hs3 hr3)
  have hSl : (cmpct X).length ≤ 1000000 := by
    have q1 := cmpct_length X
    have q2 := hs3.length
    have q3 := HN1.out
    omega
  obtain ⟨S, hS⟩ : ∃ S, cmpct X = S := ⟨_, rfl⟩
  rw [hS] at hv3 hSl
  have HSE := hid hS
  have HVS := hid hv3
  have HKb := hid (HKa.out.andNone hk3)
  have HOb := hid (HOa.out.kp hk3)
  obtain ⟨aS, cS, rfl⟩ := fForm hv3
  have HSL := hid hSl
  clear hs3 hr3 hk3 hv3 hS hSl HVa
  go_wp2_with fail
  refine (back_any wb _ S _ HVS.out HSL.out).mono ?_
  rintro e wd ⟨rd, rfl, hm⟩
  have HVd := hid (ev_of_rowT (P := fun g => wb.heap.size ≤ g) hm.1 HVS.out.ok hm.2.1)
  have HKd := hid (HKb.out.andNone hm.2.2)
  have HOd := hid (HOb.out.kp hm.2.2)
  obtain ⟨ad, cd, rfl⟩ := fShape hm.1
  clear hm
  go_wp2_with fail
  refine (rsort_any wd _ l P1 (HLW.out _ HOd.out) (by rw [HN1.out]; omega)).mono ?_
  rintro e we ⟨re, out, rfl, hso, _, hme⟩
  have hSO : S = out := by rw [← HSE.out]; exact hso.eq HSS.out.1 HSS.out.2
  subst hSO
  have HVe := hid (ev_of_rowT (P := fun g => wd.heap.size ≤ g) hme.1 HVS.out.ok hme.2.1)
  have HWe := hid (HVd.out.kept hme.2.2)
  have HKe := hid (HKd.out.andNone hme.2.2)
  have HOe := hid (HOd.out.kp hme.2.2)
  obtain ⟨ae, ce, rfl⟩ := fShape hme.1
  clear hme hso HVd
  go_wp2_with fail
  refine (same_any we _ _ S S _ _ HWe.out HVe.out HSL.out).mono ?_
  rintro e wf ⟨rfl, hkf⟩
  have hdt : decide (S = S) = true := by simp
  rw [hdt]
  have HKf := hid (HKe.out.andNone hkf)
  have HOf := hid (HOe.out.kp hkf)
  clear hdt hkf HVe HWe
  go_wp2_with fail
  -- Bytes
  refine (Tlv.refBytes_any _ _ XS XS wf ((bytesL HX6.out (kpNo HKf.out)).to (B := wf.heap.size) (fun g hg => hg.2)) ((bytesL HY6.out (kpNo HKf.out)).to (B := wf.heap.size) (fun g hg => hg.2))).mono ?_
  rintro e wg ⟨rfl, hbg⟩
  have hdt : decide (XS = XS) = true := by simp
  rw [hdt]
  have HKg := hid (HKf.out.andNone (Kp.below hbg))
  have HOg := hid (HOf.out.kp (Kp.below hbg))
  clear hdt hbg
  go_wp2_with fail
  -- what is read
  refine (back_any wg _ dm _ (HEM6.out.kept HKg.out) (by rw [HNM.out]; omega)).mono ?_
  rintro e wh ⟨rh, rfl, hm⟩
  have HVh := hid (ev_of_rowT (P := fun g => wg.heap.size ≤ g) hm.1 HEM6.out.ok hm.2.1)
  have HKh := hid (HKg.out.andNone hm.2.2)
  have HOh := hid (HOg.out.kp hm.2.2)
  obtain ⟨ah, ch, rfl⟩ := fShape hm.1
  rw [HNM.out] at HVh ⊢
  clear hm
  go_wp2_with fail
  refine (same_any wh _ _ dm dm _ _ HVh.out (HEN6.out.kept HKh.out) (by rw [HNM.out]; omega)).mono ?_
  rintro e wi ⟨rfl, hki⟩
  have hdt : decide (dm = dm) = true := by simp
  rw [hdt]
  have HOi := hid (HOh.out.kp hki)
  clear hdt hki
  go_wp2_with fail
  refine (alive_any _).mono ?_
  rintro e wj ⟨rfl, hkj⟩
  have HF := hid (On.fin HB1.out (HOi.out.kp hkj))
  clear hkj
  go_wp2_with fail
  go_ret
  exact ⟨rfl, HF.out⟩
end Go.Proofs.YtampnikdmgojjaaGreat.Sg
end

section
/-
  Records that came in, opened.
-/
namespace Go.Proofs.YtampnikdmgojjaaGreat
open Go.RowKit Go.ChangeShapes Go.WideShapes

theorem mapM_each {α β : Type} {f : α → Option β} : ∀ (L : List α) (ys : List β), L.mapM f = some ys → ∀ i ∈ L, ∃ y, f i = some y
  | [], _, _, i, hi => by simp at hi
  | a :: L, ys, h, i, hi => by
    rw [List.mapM_cons] at h
    simp only [bind, Option.bind_eq_some_iff, pure, Option.some.injEq] at h
    obtain ⟨y, hy, zs, hzs, _⟩ := h
    rcases List.mem_cons.1 hi with rfl | hi
    · exact ⟨y, hy⟩
    · exact mapM_each L zs hzs i hi

section
variable {H : Type} {enc : TypeId × Value → H} {P : Program} {W : World} {base : Nat} {sp : Nat → Bool} {held : Bool} {t e : TypeId} {n : Nat} {q : IntKind}
/-- The cells of an array of integers that came in. -/
theorem arr_ints (hu : P.underlying t = some (.array n e)) (he : P.underlying e = some (.int q)) (h1 : P.cellsOf e = 1) {fuel : Nat} {cs : List Value} {x : DataW H × List MemPlace} (hl : cs.length = n)
    (h : DataW.trod enc P W base sp held fuel t cs = some x) : ∃ zs : List Int, cs = zs.map (fun z => Value.int q z) ∧ zs.length = n ∧ ∀ z ∈ zs, (Lit.int q z).wf = true := by
  cases fuel with
  | zero => simp [DataW.trod] at h
  | succ m =>
    rw [DataW.trod_step] at h
    unfold DataW.trodStep at h
    simp only [hu] at h
    split at h
    · simp only [Option.map_eq_some_iff] at h
      obtain ⟨ys, hy, _⟩ := h
      have hE : ∀ i, i < n → ∃ z, cs[i]? = some (.int q z) ∧ (Lit.int q z).wf = true := fun i hi => by
        obtain ⟨y, hy⟩ := mapM_each _ ys hy i (List.mem_range.2 hi)
        obtain ⟨a, ea, _, wa⟩ := DataW.trod_int he hy
        rw [h1, Nat.mul_one] at ea
        refine ⟨a, ?_, wa⟩
        have h := congrArg (fun l : List Value => l[0]?) ea
        simpa [List.getElem?_take, List.getElem?_drop] using h
      refine ⟨cs.map intOf, ?_, by simpa using hl, ?_⟩
      · apply List.ext_getElem?
        intro i
        by_cases hi : i < n
        · obtain ⟨z, hz, _⟩ := hE i hi
          simp [hz, intOf]
        · have : cs[i]? = none := List.getElem?_eq_none (by omega)
          simp [this]
      · intro z hz
        obtain ⟨x, hx, rfl⟩ := List.mem_map.1 hz
        obtain ⟨i, hi, rfl⟩ := List.getElem_of_mem hx
        obtain ⟨z, hz, hw⟩ := hE i (by omega)
        rw [List.getElem?_eq_getElem hi] at hz
        simp only [Option.some.injEq] at hz
        rw [hz]
        exact hw
    · simp at h
end

/-- A slice of bytes, as it came in. -/
def InRow (W : World) (a : Option Addr) (l c : Nat) : Prop :=
  (a = none ∧ l = 0 ∧ c = 0) ∨ ∃ (y : Addr) (zs : List Int), a = some y ∧ l ≤ c ∧ c ≤ maxLen ∧ zs.length = c ∧ (∀ i, i < zs.length → W.cell? (y.add i) = some (.int .u8 (zs.getD i 0))) ∧ ∀ n ∈ zs, (Lit.int .u8 n).wf = true

theorem InRow.le {W : World} {a : Option Addr} {l c : Nat} (h : InRow W a l c) : l ≤ 9223372036854775807 := by
  rcases h with ⟨_, rfl, _⟩ | ⟨_, _, _, h1, h2, _⟩
  · omega
  · unfold maxLen at h2; omega

theorem spot_none {w : World} {x : Addr} {v : Value} (c0 : w.cell? (x.add 0) = some v) : x.spot = none := by
  have e : x.add 0 = x := rfl
  rw [e] at c0
  unfold World.cell? at c0
  split at c0
  · split at c0
    · cases c0
    · rename_i hs; simpa using hs
  · cases c0

theorem addr_plus (g o i : Nat) : (⟨g, o, none⟩ : Addr).add i = ⟨g, o + i, none⟩ := by unfold Addr.add; split <;> simp_all

theorem u8_wf {y : Int} (h : (Lit.int .u8 y).wf = true) : 0 ≤ y ∧ y ≤ 255 := by
  have hmin : IntKind.u8.min = 0 := rfl
  have hmax : IntKind.u8.max = 255 := rfl
  simp only [Lit.wf, Bool.and_eq_true, decide_eq_true_eq] at h
  omega

theorem i64_wf {y : Int} (h : (Lit.int .i64 y).wf = true) : -9223372036854775808 ≤ y ∧ y ≤ 9223372036854775807 := by
  have hmin : IntKind.i64.min = -9223372036854775808 := rfl
  have hmax : IntKind.i64.max = 9223372036854775807 := rfl
  simp only [Lit.wf, Bool.and_eq_true, decide_eq_true_eq] at h
  omega
theorem u32_wf {y : Int} (h : (Lit.int .u32 y).wf = true) : 0 ≤ y ∧ y ≤ 4294967295 := by
  have hmin : IntKind.u32.min = 0 := rfl
  have hmax : IntKind.u32.max = 4294967295 := rfl
  simp only [Lit.wf, Bool.and_eq_true, decide_eq_true_eq] at h
  omega

theorem InRow.bytes {w : World} {a : Option Addr} {len cap : Nat} (h : InRow w a len cap) (hl : len ≤ 140737488355328) : ∃ bs : List Int, bs.length = len ∧ Tlv.BySl 0 w.heap.size w (.slice a len cap) bs := by
  rcases h with ⟨rfl, rfl, rfl⟩ | ⟨x, zs, rfl, h1, h2, h3, h4, h5⟩
  · exact ⟨[], rfl, Tlv.BySl.none _ _ _⟩
  · have hlen : (zs.take len).length = len := List.length_take_of_le (by omega)
    refine ⟨zs.take len, hlen, _, cap, by rw [hlen], by rw [hlen]; exact h1, h2, by simp, by rw [hlen]; omega, fun y hy => u8_wf (h5 y (List.mem_of_mem_take hy)), fun hne => ?_⟩
    have hpos : 0 < len := by have := List.length_pos_iff.2 hne; omega
    have c0 := h4 0 (by omega)
    have hx := spot_none c0
    obtain ⟨b, o, s⟩ := x
    simp only at hx
    subst hx
    refine ⟨b, o, rfl, Nat.zero_le _, World.block_lt_of_cell? w _ c0, fun i hi => ?_⟩
    have := h4 i (by omega)
    rw [addr_plus] at this
    rw [this]
    rw [hlen] at hi
    simp [hi]



end Go.Proofs.YtampnikdmgojjaaGreat
end

section
/-
  A list of the document's entries that came in, opened.
-/
namespace Go.Proofs.YtampnikdmgojjaaGreat.Sg
open Go.RowKit Go.ChangeShapes Go.WideShapes

theorem mapM_get {α β : Type} {f : α → Option β} : ∀ (L : List α) (ys : List β), L.mapM f = some ys → ∀ i : Nat, ys[i]? = (L[i]?).bind f
  | [], ys, h, i => by
    simp only [List.mapM_nil, pure, Option.some.injEq] at h
    subst h
    simp
  | a :: L, ys, h, i => by
    rw [List.mapM_cons] at h
    simp only [bind, Option.bind_eq_some_iff, pure, Option.some.injEq] at h
    obtain ⟨y, hy, zs, hzs, rfl⟩ := h
    cases i with
    | zero => simp [hy]
    | succ i => simpa using mapM_get L zs hzs i

theorem cells_get {w : World} {base n : Nat} {a : Addr} {cs : List Value} (h : w.cells? base a n = some cs) (i : Nat) (hi : i < n) : w.cell? (a.add i) = cs[i]? := by
  unfold World.cells? at h
  split at h
  · have := mapM_get _ _ h i
    rw [List.getElem?_range hi] at this
    exact this.symm
  · cases h

theorem trod_struct2 {H : Type} {enc : TypeId × Value → H} {P : Program} {w : World} {base : Nat} {spare : Nat → Bool} {held : Bool} {t : TypeId} {f0 f1 : Field} {fuel : Nat} {cs : List Value} {x : DataW H × List MemPlace} (ht : P.underlying t = some (.struct #[f0, f1])) (h : DataW.trod enc P w base spare held fuel t cs = some x) :
    ∃ y0 y1 n, cs.length = P.cellsOf t ∧ DataW.trod enc P w base spare held n f0.type ((cs.drop f0.offset).take (P.cellsOf f0.type)) = some y0 ∧
      DataW.trod enc P w base spare held n f1.type ((cs.drop f1.offset).take (P.cellsOf f1.type)) = some y1 := by
  obtain ⟨xs, n, _, rfl, hl, hlen, hf⟩ := DataW.trod_struct ht h
  match xs, hlen with
  | [y0, y1], _ => exact ⟨y0, y1, n, hl, by simpa using hf 0 f0 rfl, by simpa using hf 1 f1 rfl⟩

set_option maxRecDepth 100000 in
/-- An entry's cells that came in. -/
theorem ent_cells {H : Type} {enc : TypeId × Value → H} {W : World} {fuel : Nat} {cs : List Value} {x : DataW H × List MemPlace} (h : DataW.trod enc Tryz.prog W 0 (fun _ => true) true fuel 91 cs = some x) :
    ∃ e : Ent, cs = entC e ∧ EOk e := by
  obtain ⟨y0, y1, n, hl, h0, h1⟩ := trod_struct2 Tryz.underlying91 h
  have e75 : Tryz.prog.cellsOf 91 = 35 := by kernel_rfl
  have e46 : Tryz.prog.cellsOf 46 = 32 := by kernel_rfl
  have e73 : Tryz.prog.cellsOf 52 = 3 := by kernel_rfl
  have e3 : Tryz.prog.cellsOf 3 = 1 := by kernel_rfl
  rw [e75] at hl
  simp only [e46, e73] at h0 h1
  obtain ⟨nm, hnm, hnl, hwf⟩ := arr_ints Tryz.underlying46 Tryz.underlying5 (by kernel_rfl) (by simp; omega) h0
  obtain ⟨_, _, _, m, _, _, p0, p1, p2⟩ := Go.Deep.trod_struct3 Tryz.underlying52 h1
  simp only [e3] at p0 p1 p2
  obtain ⟨p, hp, _, _⟩ := DataW.trod_int Tryz.underlying3 p0
  obtain ⟨q, hq, _, _⟩ := DataW.trod_int Tryz.underlying3 p1
  obtain ⟨r, hr, _, _⟩ := DataW.trod_int Tryz.underlying3 p2
  refine ⟨(nm, p, q, r), ?_, hnl, fun y hy => u8_wf (hwf y hy)⟩
  simp only [List.drop_zero] at hnm
  have l3 : (cs.drop 32).length = 3 := by simp; omega
  have e : cs.drop 32 = [.int .i64 p, .int .i64 q, .int .i64 r] := by
    match hc : cs.drop 32, l3 with
    | [a, b, c], _ =>
      rw [hc] at hp hq hr
      simp at hp hq hr
      rw [hp, hq, hr]
  rw [← List.take_append_drop 32 cs, hnm, e]
  rfl

theorem spotless {w : World} {x : Addr} {v : Value} (c0 : w.cell? (x.add 0) = some v) : x.spot = none := spot_none c0

set_option maxRecDepth 100000 in
theorem ents_of {H : Type} {enc : TypeId × Value → H} {W : World} {a0 : Option Addr} {len cap fuel : Nat} {x : DataW H × List MemPlace}
    (h : DataW.trod enc Tryz.prog W 0 (fun _ => true) true fuel 22 [.slice a0 len cap] = some x) :
    ∃ d : List Ent, d.length = len ∧ EV (fun g => g < W.heap.size) W (.slice a0 len cap) d := by
  rcases Go.Deep.open_slice Tryz.underlying22 h with ⟨hcs, _⟩ | ⟨a, l, c, m, n, D, Pl, hcs, _, hl, hm, hmm, _, hr⟩
  · simp only [List.cons.injEq, Value.slice.injEq, and_true] at hcs
    obtain ⟨rfl, rfl, rfl⟩ := hcs
    exact ⟨[], rfl, EV.nil _ _⟩
  · simp only [List.cons.injEq, Value.slice.injEq, and_true] at hcs
    obtain ⟨rfl, rfl, rfl⟩ := hcs
    simp only [if_true] at hmm
    subst hmm
    have e26 : Tryz.prog.cellsOf 91 = 35 := by kernel_rfl
    rw [e26] at hr
    have each : ∀ r, r < len → ∃ t : Ent, EOk t ∧ ∀ i, i < 35 → W.cell? ((a.add (r * 35)).add i) = (entC t)[i]? := by
      intro r hr1
      obtain ⟨cs', h1, h2⟩ := hr r (by omega)
      obtain ⟨e, rfl, he⟩ := ent_cells h2
      exact ⟨e, he, fun i hi => cells_get h1 i hi⟩
    obtain ⟨y, hy⟩ := Go.Deep.choose_lt each
    have hlen : ((List.range len).map y).length = len := by simp
    have hget : ∀ j t, ((List.range len).map y)[j]? = some t → j < len ∧ t = y j := fun j t hj => by
      have hjl : j < len := by
        have := (List.getElem?_eq_some_iff.1 hj).1
        simpa using this
      simp only [List.getElem?_map, List.getElem?_range hjl, Option.map_some, Option.some.injEq] at hj
      exact ⟨hjl, hj.symm⟩
    refine ⟨(List.range len).map y, hlen, some a, _, by rw [hlen], by rw [hlen]; exact hl, hm, by simp, fun e he => ?_, fun hne => ?_⟩
    · obtain ⟨j, hj⟩ := List.mem_iff_getElem?.1 he
      obtain ⟨hjl, rfl⟩ := hget j e hj
      exact (hy j hjl).1
    · have hpos : 0 < len := by
        have := List.length_pos_iff.2 hne
        omega
      have h00 := (hy 0 hpos).2 0 (by omega)
      obtain ⟨v0, hv0⟩ : ∃ v, (entC (y 0))[0]? = some v := ⟨_, List.getElem?_eq_getElem (by rw [entC_length (hy 0 hpos).1]; omega)⟩
      rw [hv0] at h00
      have ha : a.spot = none := by
        rw [Nat.zero_mul] at h00
        have e : (a.add 0) = a := rfl
        rw [e] at h00
        exact spot_none h00
      obtain ⟨b, o, s⟩ := a
      simp only at ha
      subst ha
      have hb : b < W.heap.size := by
        rw [addr_plus, addr_plus] at h00
        exact World.block_lt_of_cell? W _ h00
      refine ⟨b, o, rfl, hb, hb, fun j t hj => ?_⟩
      obtain ⟨hjl, rfl⟩ := hget j t hj
      refine ⟨(hy j hjl).1, fun i v hv => ?_⟩
      have hi : i < 35 := by
        have := (List.getElem?_eq_some_iff.1 hv).1
        rw [entC_length (hy j hjl).1] at this
        exact this
      have h := (hy j hjl).2 i hi
      rw [addr_plus, addr_plus, hv] at h
      exact h
end Go.Proofs.YtampnikdmgojjaaGreat.Sg
end
