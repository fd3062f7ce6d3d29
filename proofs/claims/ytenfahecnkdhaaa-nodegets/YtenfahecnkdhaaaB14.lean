/- Of the proof: the texts NdRGetD, NdAlive, NdSameF, NdPutsW, NdRLinks, one behind the other. -/
import Derived.Test.YtenfahecnkdhaaaB10
import Derived.Test.YtenfahecnkdhaaaB12
import Derived.Test.YtenfahecnkdhaaaB13
import Derived.Test.YtenfahecnkdhaaaB4
import Derived.Test.YtenfahecnkdhaaaB3
section
/-
  GetDir, of the document.
-/
namespace Go.Proofs.Ytenfahecnkdhaaa.Nd
open Go.RowKit
open Tlv (Tr Agree AgreeS RepS BySlS KSlS)
open Sim (hid Kp No)
set_option linter.unusedSimpArgs false

theorem isDir_none {bs : List Int} {t : Tr 9} (hb : ∀ x ∈ bs, 0 ≤ x ∧ x ≤ 255) (hg : Tlv.getT bs = some t) (h : t.hd.1 = 3 → (∀ x ∈ t.kd, DocE x) → RightP (t.kd.map entOf) → objP (entsT (t.kd.map entOf)) → False) : ∀ d, ¬ IsDir bs d := fun d hd => by
  obtain ⟨t', h1, h2, h3, rfl, h4, h5⟩ := docD_no hb hd
  rw [hg] at h1
  cases h1
  exact h h2 h3 h4 h5
theorem isDir_nil {bs : List Int} (hb : ∀ x ∈ bs, 0 ≤ x ∧ x ≤ 255) (hg : Tlv.getT bs = none) : ∀ d, ¬ IsDir bs d := fun d hd => by
  obtain ⟨t', h1, _⟩ := docD_no hb hd
  rw [hg] at h1
  cases h1
/-- One more entry behind those that there are. -/
theorem next_R {w wr W1 : World} {ad : Option Addr} {k cap : Nat} {xs : List Ent} {e : Ent} (hM : MineR w wr (.slice ad k cap) xs) (hxk : xs.length = k) (hW : Kp No wr W1) (heo : EOk e) (hk : k ≤ 1000000) (ty : TypeId) :
    ∃ ad2 cap2 w2, (Builtin.append_ #[25, 25] ty #[.slice ad k cap, .slice (some ⟨W1.heap.size, 0, none⟩) 1 1]).run Try.prog (W1.alloc (.cells (entC e).toArray 79)) = .ok (.slice ad2 (k + 1) cap2) w2 ∧
      Kp (fun x => (Value.slice ad k cap).ownBlock = some x) W1 w2 ∧ MineR w w2 (.slice ad2 (k + 1) cap2) (xs ++ [e]) := by
  have hRA : Sim.Row (W1.alloc (.cells (entC e).toArray 79)) 79 34 (.slice ad k cap) k (ents xs) := by
    have := hM.1
    rw [hxk] at this
    exact this.kept (hW.alloc _)
  have hSC : Sim.Src (W1.alloc (.cells (entC e).toArray 79)) (.slice (some ⟨W1.heap.size, 0, none⟩) 1 1) 1 34 (entC e) := Sim.Src.one W1 (entC e) 34 79 (entC_length heo) (entC_one _)
  obtain ⟨ad2, cap2, w2, hap, hrow2, hgr2, hown2⟩ := app_runR _ ty (.slice ad k cap) (.slice (some ⟨W1.heap.size, 0, none⟩) 1 1) k 1 _ _ hRA hSC (by omega) (by omega)
  have HKA : Kp (fun x => (Value.slice ad k cap).ownBlock = some x) wr (W1.alloc (.cells (entC e).toArray 79)) := (hW.ofNo).alloc _
  have HKB : Kp (fun x => (Value.slice ad k cap).ownBlock = some x) W1 (W1.alloc (.cells (entC e).toArray 79)) := (Kp.refl _ _).alloc _
  have HK2 : Kp (fun x => (Value.slice ad k cap).ownBlock = some x) wr w2 := HKA.grown hgr2 (fun x hx => .inl hx)
  refine ⟨ad2, cap2, w2, hap, HKB.grown hgr2 (fun x hx => .inl hx), ?_, fun x hx => ?_, hM.2.2.trans HK2 (fun x hx => .inr (hM.2.1 x hx))⟩
  · rw [List.length_append, hxk, ents_append]
    have : ents [e] = entC e := by simp [ents]
    rw [this]
    exact hrow2
  · rcases hown2 with e1 | e1
    · exact hM.2.1 x (by rw [← e1]; exact hx)
    · rw [e1] at hx
      cases hx
      exact Nat.le_trans hM.2.2.size HKA.size
theorem names_rt {t : Tr 9} {room : Int} (h : Tlv.Rt 9 t room) : ∀ x ∈ t.kd, ((entOf x).1.length : Int) ≤ max room 0 := by
  intro x hx
  obtain ⟨r, h3, h4⟩ := (Rt_count h).2 x hx
  unfold entOf
  split
  · rename_i a b c hk
    obtain ⟨r', h5, h6⟩ := (Rt_count h4).2 a (by rw [hk]; simp)
    have := Rt_bytes h6
    show (a.hd.2.2.length : Int) ≤ _
    omega
  · simp [zEn]
    omega
theorem convS {w V : World} {S : Nat → Prop} {v : Value} {bs : List Int} (h : BySlS S w v bs) (hw : AgreeS S w V) (hS : ∀ b, S b → b < V.heap.size) : (convert 26 9 v).run Try.prog V = .ok (.string (txt bs)) V :=
  Tlv.conv_bytes ((h.agree hw (fun _ h => h)).to hS)

set_option maxHeartbeats 16000000 in
set_option maxRecDepth 100000 in
theorem rGetDir_any (w : World) (K0 : Int) (v : Value) (bs : List Int) (hv : Tlv.BySl 0 w.heap.size w v bs) :
    Calls Try.prog 22 #[.agg #[.int .i64 K0, v]] w fun e w' => GDA w w' K0 bs e ∧ Below w.heap.size w w' := by
  obtain ⟨a, c, rfl, hxx⟩ := id hv
  clear hxx
  have HBS := hid (Tlv.BySl.bytes hv)
  obtain ⟨n, hn⟩ : ∃ n, bs.length = n := ⟨_, rfl⟩
  rw [hn] at hv ⊢
  obtain ⟨W0, hW0⟩ : ∃ W, w.alloc (.cells #[.int .i64 K0, .slice a n c] 29) = W := ⟨_, rfl⟩
  have HB0 : Hid (Below w.heap.size w W0) := by rw [Hid, ← hW0]; exact (Below.refl _ _).alloc (Nat.le_refl _) _
  have hbox : W0.cell? ⟨w.heap.size, 0, none⟩ = some (.int .i64 K0) ∧ W0.cell? ⟨w.heap.size, 1, none⟩ = some (.slice a n c) := by rw [← hW0]; simp [go_sem]
  have HGT := hid (Tlv.refGet_any (.slice a n c) bs W0 (hv.agree (Agree.below HB0.out) (Nat.le_refl _) HB0.out.size))
  clear hv hn
  obtain ⟨hx0, hx1⟩ := hbox
  by_cases hk : K0 = 3
  · subst hk
    go_enter Try.func22, Try.ntmps22
    go_wp2_with fail
    refine HGT.out.mono ?_
    rintro e w2 ⟨hres, hb2⟩
    have HB2 := hid hb2
    have HBW := hid (HB0.out.trans (hb2.mono HB0.out.size))
    clear hx0 hx1 hW0 HGT hb2
    rcases hres with ⟨hno, rfl⟩ | ⟨t, sb, sk, hg, rfl, hrep⟩
    · have HA : Hid (∀ w', GDA w w' 3 bs (.returned (.tuple #[.slice none 0 0, .int .i64 3]))) := fun w' => .inr (.inl ⟨rfl, isDir_nil HBS.out hno, rfl⟩)
      clear hno
      go_wp2_with fail
      go_ret2
      exact ⟨HA.out _, HBW.out.alloc HBW.out.size _⟩
    · obtain ⟨a3, l3, p3, a4, l4, p4, rfl, rfl⟩ := hrep.sl
      have HGT := hid hg
      have HRT := hid (getT_Rt HBS.out hg)
      obtain ⟨tg, htg⟩ : ∃ x, t.hd.1 = x := ⟨_, rfl⟩
      obtain ⟨nm, hnm⟩ : ∃ x, t.hd.2.1 = x := ⟨_, rfl⟩
      have HLK := hid (kslS_len hrep.2.2.2).symm
      have hcnt : l4 ≤ 65535 := by have h1 := (Rt_count HRT.out).1; have h2 := HLK.out; omega
      have HTG := hid htg
      rw [htg, hnm]
      obtain ⟨W2, hW2⟩ : ∃ W, w2.alloc (.cells #[.int .i64 tg, .int .u64 nm, .slice a3 l3 p3, .slice a4 l4 p4] 86) = W := ⟨_, rfl⟩
      have HBA : Hid (Below w.heap.size w W2) := by rw [Hid, ← hW2]; exact HBW.out.alloc HBW.out.size _
      have HZ2 : Hid (W2.heap.size = w2.heap.size + 1) := by rw [Hid, ← hW2]; simp
      have HR2 : Hid (RepS (fun b => b < W2.heap.size) W2 9 t (.slice a3 l3 p3) (.slice a4 l4 p4)) := hrep.agree (fun b hb => by rw [← hW2]; exact Below.heap_alloc _ _ _ hb.2) (fun b hb => by have := HZ2.out; have := hb.2; omega)
      have HV2 : Hid (∀ V, Kp No W2 V → V.cell? ⟨w2.heap.size, 0, none⟩ = some (.int .i64 tg) ∧ V.cell? ⟨w2.heap.size, 3, none⟩ = some (.slice a4 l4 p4)) := fun V hV => by
        have hz := HZ2.out
        have e : ∀ o, V.cell? ⟨w2.heap.size, o, none⟩ = W2.cell? ⟨w2.heap.size, o, none⟩ := fun o => hV.cell (p := ⟨w2.heap.size, o, none⟩) (by show w2.heap.size < _; omega) (fun x => x)
        rw [e, e, ← hW2]
        exact ⟨by simp, by simp⟩
      have HA : Hid ((∀ d, ¬ IsDir bs d) → ∀ w', GDA w w' 3 bs (.returned (.tuple #[.slice none 0 0, .int .i64 3]))) := fun h w' => .inr (.inl ⟨rfl, h, rfl⟩)
      have HNO : Hid ((t.hd.1 = 3 → (∀ x ∈ t.kd, DocE x) → RightP (t.kd.map entOf) → objP (entsT (t.kd.map entOf)) → False) → ∀ d, ¬ IsDir bs d) := isDir_none HBS.out HGT.out
      obtain ⟨f0, f3⟩ := HV2.out W2 (Kp.refl _ _)
      clear hg hrep htg hnm
      by_cases h3 : tg = 3
      · subst h3
        obtain ⟨D, hD⟩ : ∃ D, t.kd.map entOf = D := ⟨_, rfl⟩
        have HD := hid hD
        rw [hD] at HNO
        have HM0 : Hid (MineR W2 W2 (.slice none 0 0) (D.take 0)) := MineR.nil _
        clear hD
        go_wp2_with fail
        clear f0 f3 hW2
        go_loopw [6, 7] (fun v6 v7 wr => ∃ (k : Nat) (ad : Option Addr) (cap : Nat), v6 = .slice ad k cap ∧ v7 = .int .i64 (k : Int) ∧ k ≤ l4 ∧ Hid (MineR W2 wr (.slice ad k cap) (D.take k)) ∧ Hid (∀ x ∈ t.kd.take k, DocE x ∧ EOk (entOf x))) (fun _ v7 _ => l4 - (intOf v7).toNat)
        case atStart => exact ⟨0, none, 0, rfl, rfl, Nat.zero_le _, HM0.out, by intro x hx; simp at hx⟩
        case round =>
          obtain ⟨k, ad, cap, rfl, rfl, hkl, HS, HTK⟩ := hrel
          have HKR : Hid (Kp No W2 wr) := HS.out.2.2
          have HBR : Hid (Below w.heap.size w wr) := HBA.out.trans (HKR.out.toBelow'.mono HBA.out.size)
          obtain ⟨f0, f3⟩ := HV2.out wr HKR.out
          by_cases hlt : k < l4
          · have hltI : (k : Int) < (l4 : Int) := by omega
            have hwk : IntKind.i64.wrap ((k : Int) + 1) = ((k + 1 : Nat) : Int) := by rw [IntKind.wrap_i64]; omega
            obtain ⟨g, o, x, sbx, skx, rfl, hg2, hx, d0, d1, d2, d3, hrx⟩ := kid_atS HR2.out.2.2.2 (k := k) (by rw [HLK.out]; exact hlt)
            obtain ⟨ax, lx, cx, ay, ly, cy, rfl, rfl⟩ := hrx.sl
            have hg2' : g < W2.heap.size := hg2
            rw [← HKR.out.cell (p := ⟨g, _, none⟩) hg2' (fun x => x)] at d0 d1 d2 d3
            have hg2r : g < wr.heap.size := Nat.lt_of_lt_of_le hg2' HKR.out.size
            have HX := hid hx
            have HXM : Hid (x ∈ t.kd) := List.mem_of_getElem? hx
            have HNE : Hid (¬ DocE x → ∀ w', GDA w w' 3 bs (.returned (.tuple #[.slice none 0 0, .int .i64 3]))) := fun h => HA.out (HNO.out (fun _ h2 _ _ => h (h2 x HXM.out)))
            have HTK1 : Hid (t.kd.take (k + 1) = t.kd.take k ++ [x]) := by rw [Hid, List.take_add_one, hx]; rfl
            have hDk : D[k]? = some (entOf x) := by rw [← HD.out, List.getElem?_map, hx]; rfl
            have HNX : Hid (D.take (k + 1) = D.take k ++ [entOf x]) := by rw [Hid, List.take_add_one, hDk]; rfl
            have HDL : Hid ((D.take k).length = k) := by rw [Hid, List.length_take, ← HD.out, List.length_map, HLK.out]; omega
            have HKX := hid hrx.2.2.2
            have HLX := hid (kslS_len hrx.2.2.2).symm
            obtain ⟨tgx, htx⟩ : ∃ y, x.hd.1 = y := ⟨_, rfl⟩
            obtain ⟨nx, hnx⟩ : ∃ y, x.hd.2.1 = y := ⟨_, rfl⟩
            have HTX := hid htx
            rw [htx] at d0
            rw [hnx] at d1
            clear hx hrx htx hnx hg2 hDk
            by_cases q3 : tgx = 3
            · subst q3
              by_cases ql : ly = 3
              · subst ql
                obtain ⟨ka, kb, kc, hkd⟩ := kd3 HLX.out
                have HKD := hid hkd
                have hks := HKX.out
                rw [hkd] at hks
                obtain ⟨gk, ok, xa, sa, ska, rfl, hgk, hxa, a0, a1, a2, a3', ra⟩ := kid_atS hks (k := 0) (by simp)
                obtain ⟨g', o', xb, sb', skb, e1, _, hxb, b0, b1, b2, b3, rb⟩ := kid_atS hks (k := 1) (by simp)
                simp only [Option.some.injEq, Addr.mk.injEq] at e1
                obtain ⟨rfl, rfl, e2⟩ := e1
                clear e2
                obtain ⟨g', o', xc, sc, skc, e1, _, hxc, c0, c1, c2, c3, rc⟩ := kid_atS hks (k := 2) (by simp)
                simp only [Option.some.injEq, Addr.mk.injEq] at e1
                obtain ⟨rfl, rfl, e2⟩ := e1
                clear e2
                simp only [List.getElem?_cons_zero, List.getElem?_cons_succ, Option.some.injEq] at hxa hxb hxc
                subst hxa
                subst hxb
                subst hxc
                simp only [Nat.zero_mul, Nat.one_mul, Nat.add_zero, Nat.add_assoc, Nat.reduceAdd, Nat.reduceMul] at a0 a2 b0 b1 c0 c1 c2 c3
                have hgk' : gk < W2.heap.size := hgk
                have HCK : Hid (∀ (V : World) (j : Nat), (∀ b, b < W2.heap.size → V.heap[b]? = W2.heap[b]?) → V.cell? ⟨gk, j, none⟩ = W2.cell? ⟨gk, j, none⟩) := fun V j h => World.cell?_of_block (w := W2) (h gk hgk')
                have ha2 := a2
                rw [← HKR.out.cell (p := ⟨gk, _, none⟩) hgk' (fun x => x)] at a0 a2 b0 b1 c0 c1 c2 c3
                have hgkr : gk < wr.heap.size := Nat.lt_of_lt_of_le hgk' HKR.out.size
                obtain ⟨aa, la, ca, aa2, la2, ca2, rfl, rfl⟩ := ra.sl
                obtain ⟨ac, lc, cc, ac2, lc2, cc2, rfl, rfl⟩ := rc.sl
                have HAA := hid ha2
                clear ha2
                have HNA := hid ra.2.2.1
                have HNC := hid rc.2.2.1
                have hnb : 0 ≤ kb.hd.2.1 := rb.1
                have HKX2 := hid hkd
                obtain ⟨ta, hta⟩ : ∃ y, ka.hd.1 = y := ⟨_, rfl⟩
                obtain ⟨tb, htb⟩ : ∃ y, kb.hd.1 = y := ⟨_, rfl⟩
                obtain ⟨nb, hnb'⟩ : ∃ y, kb.hd.2.1 = y := ⟨_, rfl⟩
                obtain ⟨tc, htc⟩ : ∃ y, kc.hd.1 = y := ⟨_, rfl⟩
                obtain ⟨nc, hnc'⟩ : ∃ y, kc.hd.2.1 = y := ⟨_, rfl⟩
                obtain ⟨ba, hba⟩ : ∃ y, ka.hd.2.2 = y := ⟨_, rfl⟩
                obtain ⟨bc, hbc⟩ : ∃ y, kc.hd.2.2 = y := ⟨_, rfl⟩
                have HTA := hid hta
                have HTB := hid htb
                have HNB := hid hnb'
                have HTC := hid htc
                have HBA2 := hid hba
                have HBC2 := hid hbc
                rw [hta] at a0
                rw [htb] at b0
                rw [hnb'] at b1 hnb
                rw [htc] at c0
                rw [hnc'] at c1
                rw [hba] at HNA
                rw [hbc] at HNC
                clear hks hkd ra rb rc a1 a3' b2 b3 hta htb hnb' htc hnc' hba hbc hgk
                have HPA : Hid (DocE x → ta = 2 ∧ tb = 1 ∧ (nb = 0 ∨ nb = 1) ∧ tc = 2 ∧ bc.length = 32) := fun h => by
                  obtain ⟨_, ua, ub, uc, hu, h1, h2, h4, h5, h6⟩ := h
                  rw [HKD.out] at hu
                  simp only [List.cons.injEq, and_true] at hu
                  obtain ⟨rfl, rfl, rfl⟩ := hu
                  rw [HTA.out] at h1
                  rw [HTB.out] at h2
                  rw [HNB.out] at h4
                  rw [HTC.out] at h5
                  rw [HBC2.out] at h6
                  exact ⟨h1, h2, h4, h5, h6⟩
                by_cases qa : ta = 2
                · subst qa
                  by_cases qb : tb = 1
                  · subst qb
                    by_cases qn : nb > 1
                    · have HF := hid (HNE.out (fun h => by have := (HPA.out h).2.2.1; omega))
                      clear HPA
                      go_wp2_with fail
                      go_ret2
                      exact ⟨HF.out _, HBR.out.alloc HBR.out.size _⟩
                    · have qn2 : decide (nb > 1) = false := by simpa using qn
                      have HN01 : Hid (nb = 0 ∨ nb = 1) := by rw [Hid]; omega
                      obtain ⟨W3, hW3⟩ : ∃ W, wr.alloc (.cells #[.int .i64 3, .int .u64 nx, .slice ax lx cx, .slice (some ⟨gk, ok, none⟩) 3 cy] 86) = W := ⟨_, rfl⟩
                      have HK3 : Hid (Kp No wr W3) := by rw [Hid, ← hW3]; exact (Kp.refl No wr).alloc _
                      have HZ3 : Hid (W3.heap.size = wr.heap.size + 1) := by rw [Hid, ← hW3]; simp
                      have HT8 : Hid (W3.cell? ⟨wr.heap.size, 3, none⟩ = some (.slice (some ⟨gk, ok, none⟩) 3 cy)) := by rw [Hid, ← hW3]; simp
                      have HK23 : Hid (Kp No W2 W3) := HKR.out.andNone HK3.out
                      have HNC3 := hid (HNC.out.agree (S' := fun b => b < W3.heap.size) (w' := W3) (fun b hb => HK23.out.block b hb (fun x => x)) (fun b hb => Nat.lt_of_lt_of_le hb HK23.out.size))
                      have HRH := hid (rhash_any W3 tc nc ac ac2 lc cc lc2 cc2 bc HNC3.out)
                      have HOKC := hid (bySlS_ok HNC.out)
                      have HOKA := hid (bySlS_ok HNA.out)
                      have HW3 := hid hW3
                      clear hW3
                      go_wp2_with fail
                      rw [HW3.out]
                      refine HRH.out.mono ?_
                      rintro e w5 ⟨hres, k5⟩
                      have HK5 := hid k5
                      clear k5 HRH d0 d1 d2 d3 f0 f3 a0 a2 b0 b1 c0 c1 c2 c3 qn qn2
                      rcases hres with ⟨h1, h2, rfl⟩ | ⟨hno, rfl⟩
                      · have HDE : Hid (DocE x) := ⟨HTX.out, ka, kb, kc, HKD.out, HTA.out, HTB.out, by rw [HNB.out]; exact HN01.out, by rw [HTC.out]; exact h1, by rw [HBC2.out]; exact h2⟩
                        have HEQ : Hid (entOf x = (ba, decide (nb = 1), bc)) := by rw [Hid, entOf_3 HKD.out, entryOf, HBA2.out, HNB.out, HBC2.out, h32_same h2]
                        have HEO : Hid (EOk (ba, decide (nb = 1), bc)) := ⟨HOKA.out, h2, HOKC.out⟩
                        obtain ⟨cbx, hcbx⟩ : ∃ y, b8 bc = y := ⟨_, rfl⟩
                        have hcl : cbx.length = 32 := by rw [← hcbx, b8_length, h2]
                        have HIH : Hid ((Try.prog.info? 68).map (·.size) = some cbx.length) := by rw [Hid, hcl]; exact infH
                        have HOB : Hid (cbx.toArray.all (·.oneCell') = true) := by rw [← hcbx]; exact all_oneCell_toArray (b8_one bc)
                        have HB1 := hid (builtD' ba (decide (nb = 1)) bc h2)
                        have HB2 := hid (fun W => run_oneD' ba (decide (nb = 1)) bc h2 W)
                        have HT2 : Hid (∀ z ∈ t.kd.take (k + 1), DocE z ∧ EOk (entOf z)) := fun z hz => by
                          rw [HTK1.out] at hz
                          rcases List.mem_append.1 hz with hz | hz
                          · exact HTK.out z hz
                          · rw [List.mem_singleton.1 hz]
                            exact ⟨HDE.out, by rw [HEQ.out]; exact HEO.out⟩
                        have HNX2 : Hid (D.take (k + 1) = D.take k ++ [(ba, decide (nb = 1), bc)]) := by rw [Hid, HNX.out, HEQ.out]
                        have HQ1 : Hid ((nb == 1) = decide (nb = 1)) := by rw [Hid, Bool.eq_iff_iff]; simp
                        rw [hcbx] at HB1 ⊢
                        have HCBX := hid hcbx
                        clear h1 h2 hcbx HPA HNE
                        go_wp2_with (first
                          | (refine wpList_store_box (fun W => ∀ V, Kp No W V → V.rangeAt w5.heap.size 0 cbx ∧ Kp No w5 V) (by rfl) 68 _ _ (by rfl) w5.heap.size 0 cbx.toArray (by rfl) (by rfl) (there8 w5 _ _ _ (by rw [List.size_toArray, hcl]; exact Nat.le_refl _)) HIH.out HOB.out (boxH w5 _ cbx rfl hcl) ?_; intro W1 hW1; have HW1 := hid hW1; clear hW1))
                        have HK1 : Hid (Kp No wr W1) := HK3.out.andNone (HK5.out.andNone (HW1.out W1 (Kp.refl _ _)).2)
                        have HK21 : Hid (Kp No W2 W1) := HKR.out.andNone HK1.out
                        have hz3 := HZ3.out
                        have hz5 := HK5.out.size
                        have hb1 : w5.heap.size < W1.heap.size := by
                          obtain ⟨v0, hv0⟩ : ∃ v0, cbx[0]? = some v0 := ⟨_, List.getElem?_eq_getElem (by omega)⟩
                          exact World.block_lt_of_cell? _ _ ((HW1.out W1 (Kp.refl _ _)).1 0 v0 hv0)
                        have hol : ∀ r, (Value.slice ad k cap).ownBlock = some r → W2.heap.size ≤ r ∧ r < wr.heap.size := fun r hr => ⟨HS.out.2.1 r hr, HS.out.1.lt r hr⟩
                        have HRX : Hid (∀ V, Kp (fun x => (Value.slice ad k cap).ownBlock = some x) W1 V → V.rangeAt w5.heap.size 0 cbx) := fun V hV j u hu => (hV.cell (p := ⟨w5.heap.size, _, none⟩) hb1 (fun hx => by have := (hol w5.heap.size hx).2; omega)).trans ((HW1.out W1 (Kp.refl _ _)).1 j u hu)
                        have HX8 : Hid (∀ V, Kp (fun x => (Value.slice ad k cap).ownBlock = some x) W1 V → V.cell? ⟨wr.heap.size, 3, none⟩ = some (.slice (some ⟨gk, ok, none⟩) 3 cy)) := fun V hV => by
                          rw [hV.cell (p := ⟨wr.heap.size, 3, none⟩) (by show wr.heap.size < _; omega) (fun hx => by have := (hol wr.heap.size hx).2; omega), (HK5.out.andNone (HW1.out W1 (Kp.refl _ _)).2).cell (p := ⟨wr.heap.size, 3, none⟩) (by show wr.heap.size < _; omega) (fun x => x)]
                          exact HT8.out
                        have hblk : ∀ V, Kp (fun x => (Value.slice ad k cap).ownBlock = some x) W1 V → ∀ b, b < W2.heap.size → V.heap[b]? = W2.heap[b]? := fun V hV b hb => (hV.block b (Nat.lt_of_lt_of_le hb HK21.out.size) (fun hx => by have := (hol b hx).1; omega)).trans (HK21.out.block b hb (fun x => x))
                        have HKC : Hid (∀ V, Kp (fun x => (Value.slice ad k cap).ownBlock = some x) W1 V → V.cell? ⟨gk, ok + 2, none⟩ = some (.slice aa la ca) ∧ V.cell? ⟨gk, ok + 5, none⟩ = some (.int .u64 nb)) := fun V hV => by
                          rw [HCK.out V _ (hblk V hV), HCK.out V _ (hblk V hV)]
                          have h := HKX.out
                          rw [HKD.out] at h
                          obtain ⟨gk', ok', ya, sa', _, ea, _, hya, _, _, h2, _, _⟩ := kid_atS h (k := 0) (by simp)
                          obtain ⟨gk2, ok2, yb, _, _, eb, _, hyb, _, h5, _, _, _⟩ := kid_atS h (k := 1) (by simp)
                          simp only [Option.some.injEq, Addr.mk.injEq] at ea eb
                          obtain ⟨rfl, rfl, _⟩ := ea
                          obtain ⟨rfl, rfl, _⟩ := eb
                          simp only [List.getElem?_cons_zero, List.getElem?_cons_succ, Option.some.injEq] at hya hyb
                          subst hya
                          subst hyb
                          simp only [Nat.zero_mul, Nat.one_mul, Nat.add_zero, Nat.add_assoc, Nat.reduceAdd] at h2 h5
                          rw [HNB.out] at h5
                          exact ⟨HAA.out, h5⟩
                        have HCV : Hid (∀ V, Kp (fun x => (Value.slice ad k cap).ownBlock = some x) W1 V → (convert 26 9 (.slice aa la ca)).run Try.prog V = .ok (.string (txt ba)) V) := fun V hV => convS HNA.out (hblk V hV) (fun b hb => Nat.lt_of_lt_of_le hb (Nat.le_trans HK21.out.size hV.size))
                        obtain ⟨T, hT⟩ : ∃ T, txt ba = T := ⟨_, rfl⟩
                        obtain ⟨ad2, cap2, w6, hap, hkp, hm6⟩ := next_R (W1 := W1.drew) HS.out HDL.out HK1.out.drew HEO.out (by omega) 25
                        rw [← HNX2.out] at hm6
                        have HM6 := hid hm6
                        have HKP := hid (((Kp.refl (fun x => (Value.slice ad k cap).ownBlock = some x) W1).drew).trans hkp (fun x hx => .inl hx))
                        obtain ⟨C, hC⟩ : ∃ C, entC (ba, decide (nb = 1), bc) = C := ⟨_, rfl⟩
                        rw [hC] at hap HB1 HB2
                        rw [hT] at HB1 HCV
                        have HAP := hid hap
                        clear hap hm6 hkp hC hT hblk hol hz3 hz5 hb1 hcl
                        go_wp2_with fail
                        refine wp_region_held_drew (S := fun V => Kp (fun x => (Value.slice ad k cap).ownBlock = some x) W1 V) (by kernel_rfl) ((Kp.refl _ _).drew) (fun hHeld => ?_)
                        refine wpAnyH_take (i := 0) (oi := { dst := some 84, op := Op.move (Operand.tmp 6), type := 25, pos := "ref.go:144", after := #[], guard := none }) (v := .slice ad k cap) rfl (by kernel_rfl) (by kernel_rfl) (by kernel_rfl) (fun _ _ _ h => h) (Or.inl ⟨by rfl, fun w' hw' => by (clear hw'; go_simp)⟩) hHeld ?_
                        simp only [Act.put, List.setIfInBounds_toArray, List.set_cons_zero, List.set_cons_succ]
                        refine wpAnyH_take (i := 1) (oi := { dst := some 85, op := Op.fieldAddr 86 (Operand.tmp 8) 3, type := 0, pos := "ref.go:144", after := #[], guard := none }) (v := .pointer (some ⟨wr.heap.size, 3, none⟩)) rfl (by kernel_rfl) (by kernel_rfl) (by kernel_rfl) (fun _ _ _ h => h) (Or.inl ⟨by rfl, fun w' hw' => by (clear hw'; go_simp)⟩) hHeld ?_
                        simp only [Act.put, List.setIfInBounds_toArray, List.set_cons_zero, List.set_cons_succ]
                        refine wpAnyH_take (i := 2) (oi := { dst := some 86, op := Op.load 84 (Operand.tmp 85), type := 84, pos := "ref.go:144", after := #[{ on := 1, ground := Ground.data }], guard := none }) (v := .slice (some ⟨gk, ok, none⟩) 3 cy) rfl (by kernel_rfl) (by kernel_rfl) (by kernel_rfl) (fun _ _ _ h => h) (Or.inl ⟨by rfl, fun w' hw' => by (have q := HX8.out _ hw'; clear hw'; go_simp)⟩) hHeld ?_
                        simp only [Act.put, List.setIfInBounds_toArray, List.set_cons_zero, List.set_cons_succ]
                        refine wpAnyH_take (i := 3) (oi := { dst := some 87, op := Op.indexAddr 84 (Operand.tmp 86) (Operand.const (Value.int IntKind.i64 0)), type := 0, pos := "ref.go:144", after := #[{ on := 2, ground := Ground.data }], guard := none }) (v := .pointer (some ⟨gk, ok, none⟩)) rfl (by kernel_rfl) (by kernel_rfl) (by kernel_rfl) (fun _ _ _ h => h) (Or.inl ⟨by rfl, fun w' hw' => by (clear hw'; go_simp)⟩) hHeld ?_
                        simp only [Act.put, List.setIfInBounds_toArray, List.set_cons_zero, List.set_cons_succ]
                        refine wpAnyH_take (i := 4) (oi := { dst := some 88, op := Op.fieldAddr 86 (Operand.tmp 87) 2, type := 0, pos := "ref.go:144", after := #[{ on := 3, ground := Ground.data }], guard := none }) (v := .pointer (some ⟨gk, ok + 2, none⟩)) rfl (by kernel_rfl) (by kernel_rfl) (by kernel_rfl) (fun _ _ _ h => h) (Or.inl ⟨by rfl, fun w' hw' => by (clear hw'; go_simp)⟩) hHeld ?_
                        simp only [Act.put, List.setIfInBounds_toArray, List.set_cons_zero, List.set_cons_succ]
                        refine wpAnyH_take (i := 5) (oi := { dst := some 89, op := Op.load 26 (Operand.tmp 88), type := 26, pos := "ref.go:144", after := #[{ on := 4, ground := Ground.data }], guard := none }) (v := .slice aa la ca) rfl (by kernel_rfl) (by kernel_rfl) (by kernel_rfl) (fun _ _ _ h => h) (Or.inl ⟨by rfl, fun w' hw' => by (have q := (HKC.out _ hw').1; clear hw'; go_simp)⟩) hHeld ?_
                        simp only [Act.put, List.setIfInBounds_toArray, List.set_cons_zero, List.set_cons_succ]
                        refine wpAnyH_take (i := 6) (oi := { dst := some 90, op := Op.convert 26 9 (Operand.tmp 89), type := 9, pos := "ref.go:144", after := #[{ on := 5, ground := Ground.data }], guard := none }) (v := .string T) rfl (by kernel_rfl) (by kernel_rfl) (by kernel_rfl) (fun _ _ _ h => h) (Or.inl ⟨by rfl, fun w' hw' => exec_conv 26 9 (.tmp 89) rfl (.slice aa la ca) (.string T) rfl (HCV.out w' hw')⟩) hHeld ?_
                        simp only [Act.put, List.setIfInBounds_toArray, List.set_cons_zero, List.set_cons_succ]
                        refine wpAnyH_take (i := 7) (oi := { dst := some 91, op := Op.fieldAddr 86 (Operand.tmp 8) 3, type := 0, pos := "ref.go:144", after := #[], guard := none }) (v := .pointer (some ⟨wr.heap.size, 3, none⟩)) rfl (by kernel_rfl) (by kernel_rfl) (by kernel_rfl) (fun _ _ _ h => h) (Or.inl ⟨by rfl, fun w' hw' => by (clear hw'; go_simp)⟩) hHeld ?_
                        simp only [Act.put, List.setIfInBounds_toArray, List.set_cons_zero, List.set_cons_succ]
                        refine wpAnyH_take (i := 8) (oi := { dst := some 92, op := Op.load 84 (Operand.tmp 91), type := 84, pos := "ref.go:144", after := #[{ on := 7, ground := Ground.data }], guard := none }) (v := .slice (some ⟨gk, ok, none⟩) 3 cy) rfl (by kernel_rfl) (by kernel_rfl) (by kernel_rfl) (fun _ _ _ h => h) (Or.inl ⟨by rfl, fun w' hw' => by (have q := HX8.out _ hw'; clear hw'; go_simp)⟩) hHeld ?_
                        simp only [Act.put, List.setIfInBounds_toArray, List.set_cons_zero, List.set_cons_succ]
                        refine wpAnyH_take (i := 9) (oi := { dst := some 93, op := Op.indexAddr 84 (Operand.tmp 92) (Operand.const (Value.int IntKind.i64 1)), type := 0, pos := "ref.go:144", after := #[{ on := 8, ground := Ground.data }], guard := none }) (v := .pointer (some ⟨gk, ok + 4, none⟩)) rfl (by kernel_rfl) (by kernel_rfl) (by kernel_rfl) (fun _ _ _ h => h) (Or.inl ⟨by rfl, fun w' hw' => by (clear hw'; go_simp)⟩) hHeld ?_
                        simp only [Act.put, List.setIfInBounds_toArray, List.set_cons_zero, List.set_cons_succ]
                        refine wpAnyH_take (i := 10) (oi := { dst := some 94, op := Op.fieldAddr 86 (Operand.tmp 93) 1, type := 0, pos := "ref.go:144", after := #[{ on := 9, ground := Ground.data }], guard := none }) (v := .pointer (some ⟨gk, ok + 5, none⟩)) rfl (by kernel_rfl) (by kernel_rfl) (by kernel_rfl) (fun _ _ _ h => h) (Or.inl ⟨by rfl, fun w' hw' => by (clear hw'; go_simp)⟩) hHeld ?_
                        simp only [Act.put, List.setIfInBounds_toArray, List.set_cons_zero, List.set_cons_succ]
                        refine wpAnyH_take (i := 11) (oi := { dst := some 95, op := Op.load 83 (Operand.tmp 94), type := 83, pos := "ref.go:144", after := #[{ on := 10, ground := Ground.data }], guard := none }) (v := .int .u64 nb) rfl (by kernel_rfl) (by kernel_rfl) (by kernel_rfl) (fun _ _ _ h => h) (Or.inl ⟨by rfl, fun w' hw' => by (have q := (HKC.out _ hw').2; clear hw'; go_simp)⟩) hHeld ?_
                        simp only [Act.put, List.setIfInBounds_toArray, List.set_cons_zero, List.set_cons_succ]
                        refine wpAnyH_take (i := 12) (oi := { dst := some 96, op := Op.binOp BinOp.eql 83 (Operand.tmp 95) (Operand.const (Value.int IntKind.u64 1)) 83, type := 4, pos := "ref.go:144", after := #[{ on := 11, ground := Ground.data }], guard := none }) (v := .bool (decide (nb = 1))) rfl (by kernel_rfl) (by kernel_rfl) (by kernel_rfl) (fun _ _ _ h => h) (Or.inl ⟨by rfl, fun w' hw' => by (clear hw'; go_simp; exact HQ1.out)⟩) hHeld ?_
                        simp only [Act.put, List.setIfInBounds_toArray, List.set_cons_zero, List.set_cons_succ]
                        refine wpAnyH_take (i := 13) (oi := { dst := some 97, op := Op.load 68 (Operand.tmp 9), type := 68, pos := "ref.go:144", after := #[], guard := none }) (v := .agg cbx.toArray) rfl (by kernel_rfl) (by kernel_rfl) (by kernel_rfl) (fun _ _ _ h => h) (yieldsIf_load_mid (by rfl) _ _ rfl w5.heap.size 0 rfl cbx _ (HRX.out) Try.underlying68 rfl HIH.out) hHeld ?_
                        simp only [Act.put, List.setIfInBounds_toArray, List.set_cons_zero, List.set_cons_succ]
                        refine wpAnyH_take (i := 14) (oi := { dst := some 98, op := Op.build 79 #[(0, Operand.tmp 90), (1, Operand.tmp 96), (2, Operand.tmp 97)], type := 79, pos := "ref.go:144", after := #[{ on := 6, ground := Ground.data }, { on := 12, ground := Ground.data }, { on := 13, ground := Ground.data }], guard := none }) (v := .agg C.toArray) rfl (by kernel_rfl) (by kernel_rfl) (by kernel_rfl) (fun _ _ _ h => h) (yields_three (by rfl) 79 (.tmp 90) (.tmp 96) (.tmp 97) rfl (.string T) (.bool (decide (nb = 1))) (.agg cbx.toArray) rfl rfl rfl _ HB1.out) hHeld ?_
                        simp only [Act.put, List.setIfInBounds_toArray, List.set_cons_zero, List.set_cons_succ]
                        refine wpAnyH_ready (rs := [15]) (by kernel_rfl) (by simp) ?_
                        refine (AllReadyH.cons (o := { dst := some 99, op := Op.buildSlice 25 1 #[(0, Operand.tmp 98)], type := 25, pos := "ref.go:144", after := #[{ on := 14, ground := Ground.data }], guard := none }) rfl (fun K hK => ?_) AllReadyH.nil)
                        rw [if_pos (by rfl)]
                        refine wp_valE (exec_sliceE 25 _ rfl (.agg C.toArray) _ rfl (HB2.out _)) ?_
                        refine hK.out _ _ (((((Kp.refl No W1).drew).alloc _).ofNo)) (fun hh => ?_)
                        clear hK K hHeld
                        have hHeld := hh
                        clear hh
                        try simp only [Act.put, List.setIfInBounds_toArray, List.set_cons_zero, List.set_cons_succ]
                        refine wpAnyH_ready (rs := [16]) (by kernel_rfl) (by simp) ?_
                        refine (AllReadyH.cons (o := { dst := some 100, op := Op.call { callee := Callee.builtin Builtin.append, args := #[Operand.tmp 84, Operand.tmp 99], argTypes := #[25, 25] }, type := 25, pos := "ref.go:144", after := #[{ on := 0, ground := Ground.data }, { on := 15, ground := Ground.data }], guard := none }) rfl (fun K hK => ?_) AllReadyH.nil)
                        rw [if_pos (by rfl)]
                        refine wp_valE (exec_appE _ _ 25 rfl (.slice ad k cap) (.slice (some ⟨W1.heap.size, 0, none⟩) 1 1) _ rfl rfl HAP.out) ?_
                        refine hK.out _ _ (HKP.out) (fun hh => ?_)
                        clear hK K hHeld
                        have hHeld := hh
                        clear hh
                        try simp only [Act.put, List.setIfInBounds_toArray, List.set_cons_zero, List.set_cons_succ]
                        refine wpAnyH_take (i := 17) (oi := { dst := some 6, op := Op.assign (Operand.tmp 100), type := 25, pos := "ref.go:144", after := #[{ on := 16, ground := Ground.data }, { on := 16, ground := Ground.chain }, { on := 0, ground := Ground.phase }, { on := 1, ground := Ground.phase }, { on := 2, ground := Ground.phase }, { on := 3, ground := Ground.phase }, { on := 4, ground := Ground.phase }, { on := 5, ground := Ground.phase }, { on := 6, ground := Ground.phase }, { on := 7, ground := Ground.phase }, { on := 8, ground := Ground.phase }, { on := 9, ground := Ground.phase }, { on := 10, ground := Ground.phase }, { on := 11, ground := Ground.phase }, { on := 12, ground := Ground.phase }, { on := 13, ground := Ground.phase }, { on := 14, ground := Ground.phase }, { on := 15, ground := Ground.phase }, { on := 16, ground := Ground.phase }], guard := none }) (v := .slice ad2 (k + 1) cap2) rfl (by kernel_rfl) (by kernel_rfl) (by kernel_rfl) (fun _ _ _ h => h) (Or.inl ⟨by rfl, fun w' hw' => by (clear hw'; go_simp)⟩) hHeld ?_
                        simp only [Act.put, List.setIfInBounds_toArray, List.set_cons_zero, List.set_cons_succ]
                        refine wpAnyH_done (by kernel_rfl) ?_ _
                        clear hHeld
                        go_wp2_with fail
                        go_round
                        case rel => exact ⟨k + 1, ad2, cap2, rfl, by first | rfl | go_num, by omega, HM6.out, HT2.out⟩
                        case measure => simp [intOf]; omega
                      · have HF := hid (HNE.out (fun h => by have := HPA.out h; exact hno ⟨this.2.2.2.1, this.2.2.2.2⟩))
                        have HIZ : Hid ((Try.prog.info? 68).map (·.size) = some zHash.length) := by rw [Hid]; exact infH
                        have HOZ : Hid (zHash.toArray.all (·.oneCell') = true) := all_oneCell_toArray (fun v hv => by rw [List.eq_of_mem_replicate hv]; rfl)
                        clear hno HPA HNE
                        go_wp2_with (refine wpList_store_box (fun W => ∀ V, Kp No W V → V.rangeAt w5.heap.size 0 zHash ∧ Kp No w5 V) (by rfl) 68 _ _ (by rfl) w5.heap.size 0 zHash.toArray (by rfl) (by rfl) (there8 w5 _ _ _ (by simp [zHash])) HIZ.out HOZ.out (boxH w5 _ zHash rfl (by simp [zHash])) ?_; intro W1 hW1; have HW1 := hid hW1; clear hW1)
                        go_ret2
                        exact ⟨HF.out _, HBR.out.trans ((HK3.out.andNone (HK5.out.andNone (HW1.out W1 (Kp.refl _ _)).2)).toBelow'.mono HBR.out.size)⟩
                  · have HF := hid (HNE.out (fun h => qb (HPA.out h).2.1))
                    have q1 : (tb == 1) = false := by simpa using qb
                    have q2 : (tb != 1) = true := by simpa using qb
                    clear HPA
                    go_wp2_with fail
                    go_ret2
                    exact ⟨HF.out _, HBR.out.alloc HBR.out.size _⟩
                · have HF := hid (HNE.out (fun h => qa (HPA.out h).1))
                  have q1 : (ta == 2) = false := by simpa using qa
                  have q2 : (ta != 2) = true := by simpa using qa
                  clear HPA
                  go_wp2_with fail
                  go_ret2
                  exact ⟨HF.out _, HBR.out.alloc HBR.out.size _⟩
              · have HF := hid (HNE.out (fun h => ql (by rw [← HLX.out]; exact docE_len h)))
                have q1 : ¬ ((ly : Int) = 3) := by omega
                have q2 : ((ly : Int) == 3) = false := by simpa using q1
                have q4 : ((ly : Int) != 3) = true := by simpa using q1
                clear ql
                go_wp2_with fail
                go_ret2
                exact ⟨HF.out _, HBR.out.alloc HBR.out.size _⟩
            · have HF := hid (HNE.out (fun h => q3 (by rw [← HTX.out]; exact h.1)))
              have q1 : (tgx == 3) = false := by simpa using q3
              have q2 : (tgx != 3) = true := by simpa using q3
              go_wp2_with fail
              go_ret2
              exact ⟨HF.out _, HBR.out.alloc HBR.out.size _⟩
          · have hltI : ¬ (k : Int) < (l4 : Int) := by omega
            have hkl' : k = l4 := by omega
            subst hkl'
            have ek : t.kd.take k = t.kd := List.take_of_length_le (by have := HLK.out; omega)
            have ed : D.take k = D := List.take_of_length_le (by have := HLK.out; rw [← HD.out, List.length_map]; omega)
            have hS := HS.out
            have hT := HTK.out
            rw [ek] at hT
            rw [ed] at hS
            have HDA := hid (fun x hx => (hT x hx).1 : ∀ x ∈ t.kd, DocE x)
            have HOD : Hid (∀ e ∈ D, EOk e) := fun e he => by
              rw [← HD.out] at he
              obtain ⟨y, hy, rfl⟩ := List.mem_map.1 he
              exact (hT y hy).2
            have HDL : Hid (D.length = k) := by rw [Hid, ← HD.out, List.length_map]; exact HLK.out
            have HEV := hid (ev_of_rowT (P := fun g => W2.heap.size ≤ g ∧ g < wr.heap.size) hS.1 HOD.out (fun x hx => ⟨hS.2.1 x hx, hS.1.lt x hx⟩))
            have HNM2 : Hid (∀ e ∈ D, e.1.length ≤ 1000000) := fun e he => by
              rw [← HD.out] at he
              obtain ⟨y, hy, rfl⟩ := List.mem_map.1 he
              have := names_rt HRT.out y hy
              omega
            have HPF := hid (rPutDir_any wr (.slice ad k cap) D (HEV.out.mono (fun g hg => hg.2)) (by rw [HDL.out]; omega) HNM2.out (fun hr => sz_ents HOD.out (Nat.le_trans hr.1 (by omega)) (fun e he => Nat.le_trans (right_names hr e he) (by omega))))
            clear ek ed hT hlt hS
            go_wp2_with fail
            refine HPF.out.mono ?_
            rintro e w6 ⟨hp, hb6⟩
            obtain ⟨k0, a0, n0, c0, fa, bs0, rfl, hy0, ho0⟩ := hp
            have HKK : Hid (Kp No wr w6) := Kp.below hb6
            have HBE : Hid (Below w.heap.size w w6) := HBR.out.trans (HKK.out.toBelow'.mono HBR.out.size)
            clear hb6 hy0 HPF f0 f3
            rcases ho0 with ⟨hok, rfl, rfl, hxx⟩ | ⟨hok, rfl, rfl, hxx⟩ <;> clear hxx
            · have HID : Hid (IsDir bs D) := by
                have := docD_yes HBS.out HGT.out HTG.out HDA.out
                rw [HD.out] at this
                exact this hok.1 hok.2
              have HAY : Hid (∀ w', EV (fun g => w.heap.size ≤ g) w' (.slice ad k cap) D → GDA w w' 3 bs (.returned (.tuple #[.slice ad k cap, .int .i64 0]))) := fun w' h => .inr (.inr ⟨D, ad, k, cap, rfl, HID.out, rfl, h⟩)
              clear hok
              go_wp2_with fail
              go_ret2
              exact ⟨HAY.out _ ((HEV.out.kept (HKK.out.alloc _)).mono (fun g hg => Nat.le_trans HBA.out.size hg.1)), HBE.out.alloc HBE.out.size _⟩
            · have HF := hid (HA.out (HNO.out (fun _ _ h1 h2 => hok ⟨h1, h2⟩)))
              clear hok
              go_wp2_with fail
              go_ret2
              exact ⟨HF.out _, HBE.out.alloc HBE.out.size _⟩
      · have HF := hid (HA.out (HNO.out (fun h _ _ _ => h3 (by rw [← HTG.out]; exact h))))
        have q1 : (tg == 3) = false := by simpa using h3
        have q2 : (tg != 3) = true := by simpa using h3
        clear HNO
        go_wp2_with fail
        go_ret2
        exact ⟨HF.out _, HBA.out⟩
  · have HF : Hid (∀ w', GDA w w' K0 bs (.returned (.tuple #[.slice none 0 0, .int .i64 1]))) := fun w' => .inl ⟨hk, rfl⟩
    have q1 : (K0 == 3) = false := by simpa using hk
    have q2 : (K0 != 3) = true := by simpa using hk
    go_enter Try.func22, Try.ntmps22
    go_wp2_with fail
    go_ret2
    exact ⟨HF.out _, HB0.out⟩
end Go.Proofs.Ytenfahecnkdhaaa.Nd
end

section
/-
  What must come at any rate.
-/
namespace Go.Proofs.Ytenfahecnkdhaaa.Nd
open Go.RowKit
open Tlv (Tr Agree)
open Sim (hid Kp No)
set_option linter.unusedSimpArgs false

def h7 : List Int := 7 :: List.replicate 31 0
def f7 : List Int := [3, 0, 42, 1, 0, 1, 2, 3, 0, 35, 2, 0, 32] ++ h7
theorem h7_ok : HOk h7 := by
  refine ⟨rfl, fun x hx => ?_⟩
  rcases List.mem_cons.1 hx with rfl | hx
  · omega
  · rw [List.eq_of_mem_replicate hx]
    omega
theorem form7 : Tlv.formOf 3 (fileT 2 [h7]) = f7 := by kernel_rfl
theorem gfile7 : gfile f7 = some (2, [h7]) := by kernel_rfl
theorem sz7 : Tlv.szT 3 (fileT 2 [h7]) ≠ 0 := by decide +kernel
theorem form0 : Tlv.formOf 3 (entsT []) = [3, 0, 0] := by kernel_rfl
theorem sz0 : Tlv.szT 3 (entsT []) ≠ 0 := by decide +kernel
theorem right0 : RightP [] := ⟨by simp, fun i e hi => by simp at hi⟩
theorem dans0 {u w : World} {e : Ending} (h : DAns u w [] e) : ∃ a c, e = .returned (.tuple #[.agg #[.int .i64 3, .slice a 3 c], .int .i64 0]) ∧ Tlv.BySl u.heap.size w.heap.size w (.slice a 3 c) [3, 0, 0] := by
  rcases h with ⟨_, h⟩ | ⟨h, _⟩
  · rcases h with ⟨_, a, c, h1, h2⟩ | ⟨h, _⟩
    · rw [form0] at h1 h2
      exact ⟨a, c, h1, h2⟩
    · exact absurd ⟨sz0, by rw [form0]; simp⟩ h
  · exact absurd right0 h
theorem fans7 {u w : World} {e : Ending} (h : FiAns u w 2 [h7] e) : ∃ a c, e = .returned (.tuple #[.agg #[.int .i64 2, .slice a 45 c], .int .i64 0]) ∧ Tlv.BySl u.heap.size w.heap.size w (.slice a 45 c) f7 := by
  rcases h with ⟨_, h⟩ | ⟨h, _⟩
  · rcases h with ⟨_, a, c, h1, h2⟩ | ⟨h, _⟩
    · rw [form7] at h1 h2
      exact ⟨a, c, h1, h2⟩
    · exact absurd ⟨sz7, by rw [form7]; decide⟩ h
  · cases h
theorem lans7 {u w : World} {e : Ending} (h : LinkA u w 2 f7 e) : ∃ a l c, e = .returned (.tuple #[.slice a l c, .int .i64 0]) ∧ HV (fun g => u.heap.size ≤ g) w (.slice a l c) [h7] := by
  obtain ⟨a, l, c, d, f, rfl, hv, hl⟩ := h
  rcases hl with ⟨h, _⟩ | ⟨_, h⟩ | ⟨h, _⟩ | ⟨_, h, _⟩
  · cases h
  · rcases h with ⟨h, _⟩ | ⟨s, h, rfl⟩
    · rw [gfile7] at h
      cases h
    · rw [gfile7] at h
      simp only [Option.some.injEq, Prod.mk.injEq] at h
      obtain ⟨_, rfl⟩ := h
      exact ⟨a, l, c, rfl, hv⟩
  · cases h
  · exact absurd rfl h

theorem hv7 (W : World) : HV (· < (W.alloc (.cells (b8 h7).toArray 68)).heap.size) (W.alloc (.cells (b8 h7).toArray 68)) (.slice (some ⟨W.heap.size, 0, none⟩) 1 1) [h7] := by
  refine ⟨_, 1, rfl, Nat.le_refl _, by decide, by simp, by simpa using h7_ok, fun _ => ⟨W.heap.size, 0, rfl, by simp, by simp, fun i h hi => ?_⟩⟩
  match i, hi with
  | 0, hi =>
    simp only [List.getElem?_cons_zero, Option.some.injEq] at hi
    subst hi
    exact ⟨h7_ok, row_range (heap_alloc_new W _)⟩
theorem h7_lit : (b8 h7).toArray = (#[.int .u8 7, .int .u8 0, .int .u8 0, .int .u8 0, .int .u8 0, .int .u8 0, .int .u8 0, .int .u8 0, .int .u8 0, .int .u8 0, .int .u8 0, .int .u8 0, .int .u8 0, .int .u8 0, .int .u8 0, .int .u8 0, .int .u8 0, .int .u8 0, .int .u8 0, .int .u8 0, .int .u8 0, .int .u8 0, .int .u8 0, .int .u8 0, .int .u8 0, .int .u8 0, .int .u8 0, .int .u8 0, .int .u8 0, .int .u8 0, .int .u8 0, .int .u8 0] : Array Value) := by rfl
theorem hv_one {P : Nat → Prop} {w : World} {a : Option Addr} {l c : Nat} {h : List Int} (hv : HV P w (.slice a l c) [h]) : ∃ g o, a = some ⟨g, o, none⟩ ∧ l = 1 ∧ w.rangeAt g o (b8 h) ∧ g < w.heap.size := by
  obtain ⟨a', c', e, _, _, _, _, h6⟩ := hv
  simp only [Value.slice.injEq, List.length_singleton] at e
  obtain ⟨rfl, rfl, _⟩ := e
  obtain ⟨g, o, rfl, _, hr⟩ := h6 (by simp)
  have := (hr.2 0 h rfl).2
  rw [Nat.zero_mul, Nat.add_zero] at this
  exact ⟨g, o, rfl, rfl, this, hr.1⟩
theorem three_in (W : World) : Tlv.BySl 0 (W.alloc (.cells #[.int .u8 3, .int .u8 0, .int .u8 0] 5)).heap.size (W.alloc (.cells #[.int .u8 3, .int .u8 0, .int .u8 0] 5)) (.slice (some ⟨W.heap.size, 0, none⟩) 3 3) [3, 0, 0] := by
  refine ⟨_, 3, rfl, Nat.le_refl _, by decide, by simp, by simp, by simp, fun _ => ⟨W.heap.size, 0, rfl, Nat.zero_le _, by simp, fun i hi => ?_⟩⟩
  match i, hi with
  | 0, _ => simp
  | 1, _ => simp
  | 2, _ => simp

set_option maxHeartbeats 4000000 in
set_option maxRecDepth 100000 in
theorem alive_any (w : World) :
    Calls Try.prog 8 #[] w fun e w' => e = .returned (.bool true) ∧ Below w.heap.size w w' := by
  have HPD := hid (putDir_any w _ [] (fun _ => True) (EV.nil _ _) (by simp) (by simp))
  go_enter Try.func8, Try.ntmps8
  go_wp2_with fail
  refine HPD.out.mono ?_
  rintro e w1 ⟨hd, hb1⟩
  obtain ⟨a1, c1, rfl, hy1⟩ := dans0 hd
  have HB1 := hid hb1
  have HY1 := hid hy1
  clear hd hb1 hy1 HPD
  have HPF := hid (putFile_any _ 2 _ [h7] (hv7 (w1.alloc (.cells #[.int .i64 3, .slice a1 3 c1] 31))) (by simp))
  have hs1 : (w1.alloc (.cells #[.int .i64 3, .slice a1 3 c1] 31)).heap.size = w1.heap.size + 1 := by simp
  rw [h7_lit, hs1] at HPF
  clear hs1
  go_wp2_with fail
  refine HPF.out.mono ?_
  rintro e w2 ⟨hd, hb2⟩
  obtain ⟨a2, c2, rfl, hy2⟩ := fans7 hd
  have HB2 : Hid (Below (w1.alloc (.cells #[.int .i64 3, .slice a1 3 c1] 31)).heap.size (w1.alloc (.cells #[.int .i64 3, .slice a1 3 c1] 31)) w2) := ((Below.refl _ _).alloc (Nat.le_refl _) _).trans (hb2.mono (by simp))
  have HBX : Hid (w2.cell? ⟨w1.heap.size, 0, none⟩ = some (.int .i64 3) ∧ w2.cell? ⟨w1.heap.size, 1, none⟩ = some (.slice a1 3 c1)) := by
    refine ⟨?_, ?_⟩
    · rw [HB2.out.cell (p := ⟨w1.heap.size, 0, none⟩) (by simp)]; simp
    · rw [HB2.out.cell (p := ⟨w1.heap.size, 1, none⟩) (by simp)]; simp
  have HBW : Hid (Below w1.heap.size w1 w2) := ((Below.refl _ w1).alloc (Nat.le_refl _) _).trans (HB2.out.mono (by simp))
  have HZ2 : Hid (w1.heap.size < w2.heap.size) := by have := HB2.out.size; simp at this; rw [Hid]; omega
  have HY2 : Hid (Tlv.BySl 0 w2.heap.size w2 (.slice a2 45 c2) f7) := hy2.agree (Agree.refl _ _ _) (Nat.zero_le _) (Nat.le_refl _)
  have HLK := hid (links_any (w2.alloc (.cells #[.int .i64 2, .slice a2 45 c2] 31)) 2 _ f7 (HY2.out.agree ((Agree.refl _ _ _).alloc (Nat.le_refl _) _) (Nat.le_refl _) (by simp)))
  clear hd hb2 hy2 HPF
  go_wp2_with fail
  refine HLK.out.mono ?_
  rintro e w3 ⟨hd, hb3⟩
  obtain ⟨a3, l3, c3, rfl, hv3⟩ := lans7 hd
  obtain ⟨g, o, rfl, rfl, hr3, hg3⟩ := hv_one hv3
  have HB3 : Hid (Below w2.heap.size w2 w3) := ((Below.refl _ _).alloc (Nat.le_refl _) _).trans (hb3.mono (by simp))
  have HR3 := hid hr3
  have HBW3 : Hid (Below w1.heap.size w1 w3) := HBW.out.trans (HB3.out.mono HBW.out.size)
  have hx0 : w3.cell? ⟨w1.heap.size, 0, none⟩ = some (.int .i64 3) := by rw [HB3.out.cell (p := ⟨w1.heap.size, 0, none⟩) HZ2.out]; exact HBX.out.1
  have hx1 : w3.cell? ⟨w1.heap.size, 1, none⟩ = some (.slice a1 3 c1) := by rw [HB3.out.cell (p := ⟨w1.heap.size, 1, none⟩) HZ2.out]; exact HBX.out.2
  have HRB := hid (Tlv.refBytes_any (.slice a1 3 c1) (.slice (some ⟨w3.heap.size, 0, none⟩) 3 3) [3, 0, 0] [3, 0, 0] (w3.alloc (.cells #[.int .u8 3, .int .u8 0, .int .u8 0] 5)) (HY1.out.agree (Agree.below (HBW3.out.trans ((Below.refl _ _).alloc HBW3.out.size _))) (Nat.zero_le _) (Nat.le_trans HBW3.out.size (by simp))) (three_in w3))
  clear hd hb3 hv3 hr3 HLK
  go_wp2_with fail
  refine HRB.out.mono ?_
  rintro e w4 ⟨rfl, hb4⟩
  have HB4 := hid hb4
  have HR4 : Hid (w4.rangeAt g o (b8 h7)) := fun j v hv => by
    rw [hb4.cell (p := ⟨g, _, none⟩) (by simp; omega), World.cell?_alloc_past _ _ _ hg3]
    exact HR3.out j v hv
  have hdd : decide True = true := rfl
  rw [hdd]
  clear hb4 hdd HRB
  have hq : ∀ W, (Op.equalIn 10000 68 (.agg (b8 h7).toArray) (.agg #[.int .u8 7, .int .u8 0, .int .u8 0, .int .u8 0, .int .u8 0, .int .u8 0, .int .u8 0, .int .u8 0, .int .u8 0, .int .u8 0, .int .u8 0, .int .u8 0, .int .u8 0, .int .u8 0, .int .u8 0, .int .u8 0, .int .u8 0, .int .u8 0, .int .u8 0, .int .u8 0, .int .u8 0, .int .u8 0, .int .u8 0, .int .u8 0, .int .u8 0, .int .u8 0, .int .u8 0, .int .u8 0, .int .u8 0, .int .u8 0, .int .u8 0, .int .u8 0])).run Try.prog W = .ok true W := fun W => by
    have := eqHashAt 9998 h7 h7 h7_ok.1 h7_ok.1 h7_ok.2 h7_ok.2 W
    rw [decide_eq_true rfl] at this
    rw [← h7_lit]
    exact this
  go_wp2_with (refine wpList_bare (by rfl) ?_; refine wpList_load_mid (by rfl) 68 _ (by rfl) g o (by rfl) (b8 h7) _ HR4.out Try.underlying68 rfl (by rw [b8_length, h7_ok.1]; exact infH) ?_)
  go_ret
  exact ⟨rfl, (HB1.out.trans (HBW3.out.mono HB1.out.size)).trans (((Below.refl _ w3).alloc (Nat.le_refl _) _).trans (HB4.out.mono (by simp)) |>.mono (Nat.le_trans HB1.out.size HBW3.out.size))⟩
end Go.Proofs.Ytenfahecnkdhaaa.Nd
end

section
/-
  Files of the document's type as the program's, and the other way around; are two files the same?
-/
namespace Go.Proofs.Ytenfahecnkdhaaa.Nd
open Go.RowKit
open Sim (hid Kp No)
set_option maxHeartbeats 1000000 in
theorem lback_any (w : World) (s : Int) (x : Option Addr) (n c : Nat) :
    Calls Try.prog 26 #[.agg #[.int .i64 s, .slice x n c]] w fun e w' => e = .returned (.agg #[.int .i64 s, .slice x n c]) ∧ Kp No w w' := by
  go_enter Try.func26, Try.ntmps26
  go_wp2
  refine bodyPost_ret (v := .agg #[.int .i64 s, .slice x n c]) (by simp [results, Try.results26, go_sem]) rfl ⟨rfl, ((Kp.refl No w).alloc _).alloc _⟩
set_option maxHeartbeats 2000000 in
theorem sameFile_any (w : World) (s s' : Int) (v v' : Value) (d d' : List (List Int)) (P P' : Nat → Prop) (h : HV P w v d) (h' : HV P' w v' d') (hl : d.length ≤ 1000000) :
    Calls Try.prog 25 #[.agg #[.int .i64 s, v], .agg #[.int .i64 s', v']] w fun e w' => e = .returned (.bool (decide (s = s' ∧ d = d'))) ∧ Kp No w w' := by
  have HB := hid (fun (V : World) (hV : Kp No w V) => hashes_any V v v' d d' P P' (h.kept hV) (h'.kept hV) hl)
  have HK : Hid (Kp No w ((w.alloc (.cells #[.int .i64 s, v] 24)).alloc (.cells #[.int .i64 s', v'] 24))) := ((Kp.refl No w).alloc _).alloc _
  obtain ⟨x, c, rfl, hxx⟩ := h
  obtain ⟨x', c', rfl, hxx'⟩ := h'
  clear hxx hxx'
  by_cases hk : s = s'
  · have e : decide (s = s' ∧ d = d') = decide (d = d') := by simp [hk]
    rw [e]
    generalize decide (d = d') = r at *
    clear e
    subst hk
    have hkk : (s == s) = true := by simp
    go_enter Try.func25, Try.ntmps25
    go_wp2_with fail
    refine (HB.out _ HK.out).mono ?_
    rintro e w1 ⟨rfl, hb⟩
    have HK1 := hid (HK.out.andNone hb)
    clear hb
    go_wp2_with fail
    go_ret
    refine ⟨?_, HK1.out⟩
    simp
  · have e : decide (s = s' ∧ d = d') = false := by simp [hk]
    rw [e]
    have hkk : (s == s') = false := by simpa using hk
    clear e
    go_enter Try.func25, Try.ntmps25
    go_wp2
    go_ret
    exact ⟨rfl, HK.out⟩
end Go.Proofs.Ytenfahecnkdhaaa.Nd
end

section
/-
  The walk of NodePuts.
-/
namespace Go.Proofs.Ytenfahecnkdhaaa.Nd
open Go.RowKit
open Tlv (Tr Agree)
open Sim (hid Kp No)
set_option linter.unusedSimpArgs false

set_option maxHeartbeats 2000000 in
theorem rChunk_any (w : World) (v : Value) (b : List Int) (hv : Tlv.BySl 0 w.heap.size w v b) :
    Calls Try.prog 16 #[v] w fun e w' => Put1 (1 ≤ b.length ∧ b.length ≤ 4096) 1 b w' e ∧ Below w.heap.size w w' := by
  obtain ⟨a, c, rfl, hxx⟩ := id hv
  clear hxx
  have HV := hid hv
  have HB0 : Hid (Below w.heap.size w (w.alloc (.cells #[.int .i64 0, .slice none 0 0] 29))) := (Below.refl _ w).alloc (Nat.le_refl _) _
  obtain ⟨n, hn⟩ : ∃ n, b.length = n := ⟨_, rfl⟩
  have HN := hid hn
  rw [hn] at HV ⊢
  clear hv hn
  have fin : ∀ w', Put1 (1 ≤ n ∧ n ≤ 4096) 1 b w' = Put1 (1 ≤ b.length ∧ b.length ≤ 4096) 1 b w' := fun w' => by rw [HN.out]
  have HFI := hid fin
  clear fin
  by_cases h1 : (n : Int) < 1
  · have HO : Hid (¬ (1 ≤ n ∧ n ≤ 4096)) := by rw [Hid]; omega
    go_enter Try.func16, Try.ntmps16
    go_wp2
    refine bodyPost_ret (v := .tuple #[.agg #[.int .i64 0, .slice none 0 0], .int .i64 1]) (by simp [results, Try.results16, go_sem]) rfl ⟨put1_no HO.out, ?_⟩
    first | exact HB0.out | exact (HB0.out.setCell (by simp) _).setCell (by simp) _
  · by_cases h2 : (n : Int) > 4096
    · have HO : Hid (¬ (1 ≤ n ∧ n ≤ 4096)) := by rw [Hid]; omega
      go_enter Try.func16, Try.ntmps16
      go_wp2
      refine bodyPost_ret (v := .tuple #[.agg #[.int .i64 0, .slice none 0 0], .int .i64 1]) (by simp [results, Try.results16, go_sem]) rfl ⟨put1_no HO.out, ?_⟩
      first | exact HB0.out | exact (HB0.out.setCell (by simp) _).setCell (by simp) _
    · have HO : Hid (1 ≤ n ∧ n ≤ 4096) := by rw [Hid]; omega
      go_enter Try.func16, Try.ntmps16
      go_wp2
      refine bodyPost_ret (v := .tuple #[.agg #[.int .i64 1, .slice a n c], .int .i64 0]) (by simp [results, Try.results16, go_sem]) rfl ⟨put1_yes HO.out HN.out (HV.out.agree ?_ (Nat.le_refl _) (by simp)), ?_⟩
      · first | exact (Agree.refl _ _ _).alloc (Nat.le_refl _) _ | exact (((Agree.refl _ _ _).alloc (Nat.le_refl _) _).setCell (.inr (by simp)) _).setCell (.inr (by simp)) _
      · first | exact (Below.refl _ _).alloc (Nat.le_refl _) _ | exact HB0.out | exact (HB0.out.setCell (by simp) _).setCell (by simp) _

end Go.Proofs.Ytenfahecnkdhaaa.Nd
end

section
/-
  Links, of the document.
-/
namespace Go.Proofs.Ytenfahecnkdhaaa.Nd
open Go.RowKit
open Tlv (Tr Agree)
open Sim (hid Kp No)
set_option linter.unusedSimpArgs false

set_option maxHeartbeats 8000000 in
set_option maxRecDepth 100000 in
theorem rLinks_any (w : World) (K0 : Int) (v : Value) (bs : List Int) (hv : Tlv.BySl 0 w.heap.size w v bs) (hl : bs.length ≤ 6000) :
    Calls Try.prog 24 #[.agg #[.int .i64 K0, v]] w fun e w' => LinkA w w' K0 bs e ∧ Below w.heap.size w w' := by
  obtain ⟨a, c, rfl, hxx⟩ := id hv
  clear hxx
  obtain ⟨n, hn⟩ : ∃ n, bs.length = n := ⟨_, rfl⟩
  have HN := hid hn
  rw [hn] at hv ⊢
  obtain ⟨W0, hW0⟩ : ∃ W, w.alloc (.cells #[.int .i64 K0, .slice a n c] 29) = W := ⟨_, rfl⟩
  have HB0 : Hid (Below w.heap.size w W0) := by rw [Hid, ← hW0]; exact (Below.refl _ _).alloc (Nat.le_refl _) _
  have hbox : W0.cell? ⟨w.heap.size, 0, none⟩ = some (.int .i64 K0) ∧ W0.cell? ⟨w.heap.size, 1, none⟩ = some (.slice a n c) := by rw [← hW0]; simp [go_sem]
  have HBY : Hid (Tlv.BySl 0 W0.heap.size W0 (.slice a n c) bs) := hv.agree (Agree.below HB0.out) (Nat.le_refl _) HB0.out.size
  have HGF := hid (rGetFile_any W0 K0 (.slice a n c) bs HBY.out hl)
  have HGD := hid (rGetDir_any W0 K0 (.slice a n c) bs HBY.out)
  have HCH := hid (rChunk_any W0 (.slice a n c) bs HBY.out)
  clear hv hn hl
  obtain ⟨hx0, hx1⟩ := hbox
  by_cases h1 : K0 = 1
  · subst h1
    go_enter Try.func24, Try.ntmps24
    go_wp2_with fail
    refine HCH.out.mono ?_
    rintro e w1 ⟨hp, hb1⟩
    obtain ⟨k0, a0, n0, c0, f, bs0, rfl, _, ho⟩ := hp
    have HB1 : Hid (Below w.heap.size w w1) := HB0.out.trans (hb1.mono HB0.out.size)
    clear hb1 hW0 hx0 hx1 HCH
    rcases ho with ⟨hok, rfl, rfl, hxx⟩ | ⟨hok, rfl, rfl, hxx⟩ <;> clear hxx
    · have HA : Hid (∀ w', LinkA w w' 1 bs (.returned (.tuple #[.slice none 0 0, .int .i64 0]))) := fun w' => LinkA.nil (.inl ⟨rfl, rfl, by rw [if_pos hok]⟩)
      clear hok
      go_wp2_with fail
      go_ret2
      exact ⟨HA.out _, HB1.out.alloc HB1.out.size _⟩
    · have HA : Hid (∀ w', LinkA w w' 1 bs (.returned (.tuple #[.slice none 0 0, .int .i64 3]))) := fun w' => LinkA.nil (.inl ⟨rfl, rfl, by rw [if_neg hok]⟩)
      clear hok
      go_wp2_with fail
      go_ret2
      exact ⟨HA.out _, HB1.out.alloc HB1.out.size _⟩
  · have h1b : (K0 == 1) = false := by simpa using h1
    by_cases h2 : K0 = 2
    · subst h2
      go_enter Try.func24, Try.ntmps24
      go_wp2_with fail
      refine HGF.out.mono ?_
      rintro e w2 ⟨hres, hb2⟩
      have HB2 : Hid (Below w.heap.size w w2) := HB0.out.trans (hb2.mono HB0.out.size)
      have HZ := HB0.out.size
      clear hb2 hW0
      rcases hres with ⟨hk, _⟩ | ⟨_, hno, rfl⟩ | ⟨s, d, ax, lx, cx, _, hyes, rfl, hhv⟩
      · exact absurd rfl hk
      · unfold zFil
        have HA : Hid (∀ w', LinkA w w' 2 bs (.returned (.tuple #[.slice none 0 0, .int .i64 3]))) := fun w' => LinkA.nil (.inr (.inl ⟨rfl, .inl ⟨hno, rfl, rfl⟩⟩))
        clear hno
        go_wp2_with fail
        go_ret2
        exact ⟨HA.out _, HB2.out.alloc HB2.out.size _⟩
      · have HA : Hid (∀ w', HV (fun g => w.heap.size ≤ g) w' (.slice ax lx cx) d → LinkA w w' 2 bs (.returned (.tuple #[.slice ax lx cx, .int .i64 0]))) := fun w' h => ⟨ax, lx, cx, d, 0, rfl, h, .inr (.inl ⟨rfl, .inr ⟨s, hyes, rfl⟩⟩)⟩
        have HH := hid (hhv.imp (fun g hg => Nat.le_trans HZ hg.2) : HV (fun g => w.heap.size ≤ g) w2 (.slice ax lx cx) d)
        clear hyes hhv
        go_wp2_with fail
        go_ret2
        exact ⟨HA.out _ (HH.out.kept ((Kp.refl No w2).alloc _)), HB2.out.alloc HB2.out.size _⟩
    · have h2b : (K0 == 2) = false := by simpa using h2
      by_cases h3 : K0 = 3
      · subst h3
        go_enter Try.func24, Try.ntmps24
        go_wp2_with fail
        refine HGD.out.mono ?_
        rintro e w2 ⟨hres, hb2⟩
        have HB2 : Hid (Below w.heap.size w w2) := HB0.out.trans (hb2.mono HB0.out.size)
        clear hb2 hW0
        obtain ⟨d, ax, lx, cx, f, rfl, hev, hlp⟩ : ∃ d a l c f, e = .returned (.tuple #[.slice a l c, .int .i64 f]) ∧ EV (fun _ => True) w2 (.slice a l c) d ∧ ((f = 3 ∧ d = [] ∧ ∀ d', ¬ IsDir bs d') ∨ (f = 0 ∧ IsDir bs d)) := by
          rcases hres with ⟨hk, _⟩ | ⟨_, hno, rfl⟩ | ⟨d, ax, lx, cx, _, hyes, rfl, hev⟩
          · exact absurd rfl hk
          · exact ⟨[], none, 0, 0, 3, rfl, EV.nil _ _, .inl ⟨rfl, rfl, hno⟩⟩
          · exact ⟨d, ax, lx, cx, 0, rfl, hev.mono (fun _ _ => trivial), .inr ⟨rfl, hyes⟩⟩
        have hdl : d.length ≤ 1000000 := by
          rcases hlp with ⟨_, rfl, _⟩ | ⟨_, t, _, hg, rfl⟩
          · simp
          · exact Nat.le_trans hg.2.1.1 (by omega)
        have hlx : lx = d.length := by
          obtain ⟨_, _, e, _⟩ := hev
          simp only [Value.slice.injEq] at e
          exact e.2.1
        have HLP : Hid (LinkP 3 bs (d.map (fun x : Ent => x.2.2)) f) := by
          rcases hlp with ⟨rfl, rfl, h⟩ | ⟨rfl, h⟩
          · exact .inr (.inr (.inl ⟨rfl, .inl ⟨h, rfl, rfl⟩⟩))
          · exact .inr (.inr (.inl ⟨rfl, .inr ⟨d, h, rfl, rfl⟩⟩))
        have HEV := hid hev
        have HDN := hid hlx.symm
        obtain ⟨D, hD⟩ : ∃ D, d.map (fun x : Ent => x.2.2) = D := ⟨_, rfl⟩
        have HD := hid hD
        rw [hD] at HLP
        have HDL : Hid (D.length = lx) := by rw [Hid, ← hD, List.length_map, hlx]
        have hlx2 : lx ≤ 1000000 := by rw [hlx]; exact hdl
        clear hres hev hlp hdl hlx hD
        go_wp2_with fail
        go_loopw [10, 11] (fun v10 v11 wr => ∃ (k : Nat) (ad : Option Addr) (cap : Nat), v10 = .slice ad k cap ∧ v11 = .int .i64 (k : Int) ∧ k ≤ lx ∧ Hid (HMine w2.heap.size wr (.slice ad k cap) (D.take k)) ∧ Hid (Below w2.heap.size w2 wr)) (fun _ v11 _ => lx - (intOf v11).toNat)
        case atStart => exact ⟨0, none, 0, rfl, rfl, Nat.zero_le _, HMine.nil _ _, Below.refl _ _⟩
        case round =>
          obtain ⟨k, ad, cap, rfl, rfl, hkn, HS, HB⟩ := hrel
          by_cases hlt : k < lx
          · have hltI : (k : Int) < (lx : Int) := by omega
            have hwk : IntKind.i64.wrap ((k : Int) + 1) = ((k + 1 : Nat) : Int) := by rw [IntKind.wrap_i64]; omega
            obtain ⟨e, he⟩ : ∃ e, d[k]? = some e := ⟨_, List.getElem?_eq_getElem (by rw [HDN.out]; exact hlt)⟩
            have hDk : D[k]? = some e.2.2 := by rw [← HD.out, List.getElem?_map, he]; rfl
            have HNX : Hid (D.take (k + 1) = D.take k ++ [e.2.2]) := by rw [Hid, List.take_add_one, hDk]; rfl
            have HLK : Hid ((D.take k).length = k) := by rw [Hid, List.length_take, HDL.out]; omega
            obtain ⟨g, o, rfl, _, hr⟩ := ev_row HEV.out (by intro h; rw [h] at he; simp at he)
            have hrow := (hr.kp (Kp.below HB.out : Kp No w2 wr) (fun x => x)).2 k e he
            have HHO : Hid (HOk e.2.2) := ⟨hrow.1.2.1, hrow.1.2.2⟩
            have HRH := hid (rng_hash hrow.2)
            obtain ⟨hs, hhs⟩ : ∃ x, e.2.2 = x := ⟨_, rfl⟩
            rw [hhs] at HNX HHO HRH
            have HIH : Hid ((Try.prog.info? 68).map (·.size) = some (b8 hs).length) := by rw [Hid, b8_length, HHO.out.1]; exact infH
            have HB1 := hid (fun W => run_oneH HHO.out.1 W)
            have hgs : w2.heap.size ≤ wr.heap.size := HB.out.size
            obtain ⟨ad2, cap2, w4, hap, hm4, hg4⟩ := HS.out.push HLK.out HHO.out hgs (by omega) 22
            have HAP := hid hap
            have HG4 := hid hg4
            have HMF : Hid (HMine w2.heap.size w4 (.slice ad2 (k + 1) cap2) (D.take (k + 1))) := by rw [HNX.out]; exact hm4
            clear hhs hrow hr he hDk hap hm4 hg4
            go_wp2_with (first
              | (refine wpList_load_mid (by rfl) 68 _ (by rfl) g (o + k * 34 + 2) (by rfl) (b8 hs) _ HRH.out Try.underlying68 rfl HIH.out ?_)
              | (refine wpList_valE (by rfl) (exec_sliceE 22 _ rfl (.agg (b8 hs).toArray) _ rfl (HB1.out _)) ?_)
              | (refine wpList_valE (by rfl) (exec_appE _ _ 22 rfl (.slice ad k cap) (.slice (some ⟨wr.heap.size, 0, none⟩) 1 1) _ rfl rfl HAP.out) ?_))
            have HBF : Hid (Below w2.heap.size w2 w4) := (HB.out.alloc HB.out.size _).grown HG4.out (HB.out.alloc HB.out.size _).size (fun r hr => HS.out.2.1 r hr)
            go_round
            case rel => exact ⟨k + 1, ad2, cap2, rfl, by first | rfl | go_num, by omega, HMF.out, HBF.out⟩
            case measure => simp [intOf]; omega
          · have hltI : ¬ (k : Int) < (lx : Int) := by omega
            have hkn' : k = lx := by omega
            have HF : Hid (HV (fun g => w.heap.size ≤ g) wr (.slice ad k cap) D) := by
              have := HS.out
              rw [hkn', ← HDL.out, List.take_length] at this
              rw [Hid, hkn', ← HDL.out]
              exact this.hv.imp (fun g hg => Nat.le_trans HB2.out.size hg)
            have HBE : Hid (Below w.heap.size w wr) := HB2.out.trans (HB.out.mono HB2.out.size)
            clear hkn' HS
            go_wp2_with fail
            go_ret2
            exact ⟨⟨ad, k, cap, D, f, rfl, HF.out, HLP.out⟩, HBE.out⟩
      · have h3b : (K0 == 3) = false := by simpa using h3
        have HA : Hid (∀ w', LinkA w w' K0 bs (.returned (.tuple #[.slice none 0 0, .int .i64 1]))) := fun w' => LinkA.nil (.inr (.inr (.inr ⟨h1, h2, h3, rfl, rfl⟩)))
        go_enter Try.func24, Try.ntmps24
        go_wp2_with fail
        go_ret2
        exact ⟨HA.out _, HB0.out⟩
end Go.Proofs.Ytenfahecnkdhaaa.Nd
end
