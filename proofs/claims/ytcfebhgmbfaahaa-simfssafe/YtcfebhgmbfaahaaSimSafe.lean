/-
  SimfsSafe, walked.
-/
import Derived.Test.YtcfebhgmbfaahaaSimSafeM
import Derived.Test.YtcfebhgmbfaahaaSimArms
namespace Go.Proofs.Ytcfebhgmbfaahaa.Sim
open Go.RowKit Go.Maps

theorem IntsAt.keeps {A : Nat → Prop} {w w' : World} {v : Value} {zs : List Int} (h : IntsAt A w v zs) (k : Keeps A w w') : IntsAt A w' v zs := h.kp k (fun _ hx ha => hx ha)
theorem two_up {A : Nat → Prop} {N : Nat} {w : World} {s m : Nat} {p r : PS} (h : Two A N w s p m r) (k : Int) (v : Value) (cuts : List Int) (hv : IntsAt A w v cuts) :
    Calls Try.prog 16 #[.pointer (some ⟨s, 0, none⟩), .int .i64 k, v] w fun e w' => e = .returned (.int .i64 0) ∧ Two A N w' s (pUp k cuts p) m r ∧ Keeps A w w' := by
  obtain ⟨P, Q, h1, h2, h3, h4⟩ := h
  refine (up_any w s p k v cuts h1 hv (fun x hx => (h4 x hx).2.1)).mono ?_
  rintro e w' ⟨rfl, hD⟩
  exact ⟨rfl, two_done hD h2 h3 h4 (Nat.le_refl _) h1.inv.big⟩
theorem two_facts {A : Nat → Prop} {N : Nat} {w : World} {s m : Nat} {p r : PS} (h : Two A N w s p m r) : p.seen = p.chg.foldl pdo p.safe ∧ (vals p.seen).Nodup ∧ Ris p.seen := by
  obtain ⟨P, Q, h1, _⟩ := h
  have hI := h1.inv
  obtain ⟨vs, vf, vc, u, hR⟩ := h1
  have hr := hR.safe.ris
  refine ⟨hI.seen_eq, ?_, hR.seen.ris⟩
  have := nodup_fold p.chg [] p.safe hr hI.okc (by simpa [vals, mades] using hI.nodup)
  rw [← hI.seen_eq] at this
  simpa [mades] using this

def zeroPS : PS := ⟨0, false, [], [], [], false, true, 0, 0, fun _ => none⟩
theorem inv_zero : PInv 0 zeroPS :=
  have h := inv_new 0 (by omega)
  { seen_eq := rfl, okc := trivial, has := h.has, hasC := h.hasC, nodup := h.nodup, nmS := h.nmS, nmC := h.nmC, nmade := fun _ => ⟨rfl, rfl⟩, room := Nat.zero_le _, left := Nat.zero_le _, steps := Nat.le_refl _, lsum := h.lsum, lfile := h.lfile, big := h.big }
/-- With a new one of the document's, whatever was there. -/
theorem Two.fresh {A : Nat → Prop} {N : Nat} {w : World} {s m : Nat} {p r : PS} (h : Two A N w s p m r) (o : Obj) (ho : o = .cells (rfsCells zeroPS (.slice none 0 0) (.slice none 0 0) (.slice none 0 0) (.slice none 0 0)).toArray 45) : Two A N (w.alloc o) s p w.heap.size zeroPS := by
  obtain ⟨P, Q, h1, h2, h3, h4⟩ := h
  have k : Kp No w (w.alloc o) := (Kp.refl _ _).alloc _
  have hb := h1.inv.big
  refine ⟨P, (· = w.heap.size), h1.kept k, ⟨No, _, _, _, _, [], [], rr_new w zeroPS o ho rfl rfl rfl rfl, inv_zero.mono (Nat.zero_le _) hb, Nat.zero_le _⟩, fun x hx hy => ?_, fun x hx => ⟨Nat.lt_of_lt_of_le (h4 x hx).1 k.size, (h4 x hx).2.1, fun hy => ?_⟩⟩
  · have := h1.lt x hx; omega
  · have := (h4 x hx).1; omega

set_option maxHeartbeats 4000000 in
set_option maxRecDepth 100000 in
theorem safe_main (a : Option Addr) (cap : Nat) (ts : List RawOp) (n : ByteArray) (va : Option Addr) (vc : Nat) (bs : List Nat) (a2 : Option Addr) (cap2 : Nat) (us : List RawOp) (z : Int) (ca : Option Addr) (cc : Nat) (cuts : List Int) (w : World) (h1 : Ops w a ts) (h2 : Ops w a2 us)
    (hl1 : lightB 20 ts = true) (hl2 : lightB 20 us = true) (hb : ByP (· < w.heap.size) w (.slice va bs.length vc) bs) (hbl : bs.length ≤ 200) (hv : IntsAt (· < w.heap.size) w (.slice ca cuts.length cc) cuts) (hcl : cuts.length ≤ 60) (hn : nameB (nm n) = true) (hns : n.size ≤ 1000000) :
    Calls Try.prog 3 #[.slice a ts.length cap, .string n, .slice va bs.length vc, .slice a2 us.length cap2, .int .i64 z, .slice ca cuts.length cc] w fun e w' => e = .returned (.bool true) ∧ Keeps (· < w.heap.size) w w' := by
  have hl1' := hl1
  have hl2' := hl2
  simp only [lightB, Bool.and_eq_true, decide_eq_true_eq, List.all_eq_true] at hl1' hl2'
  obtain ⟨hlen1, hsh1⟩ := hl1'
  obtain ⟨hlen2, hsh2⟩ := hl2'
  have HL1 := light_any a cap ts 20 (by omega) w (by omega) h1
  have HL2 := light_any a2 cap2 us 20 (by omega) w (by omega) h2
  rw [hl1] at HL1
  rw [hl2] at HL2
  have HL1 := hid HL1
  have HL2 := hid HL2
  have HPN := pNameS_any n hns w
  rw [hn] at HPN
  have HPN := hid HPN
  have HO1 := hid h1
  have HO2 := hid h2
  have HS1 := hid hsh1
  have HS2 := hid hsh2
  have HB := hid hb
  have HV := hid hv
  have HN := hid hn
  have n1 : ¬ ((200 : Int) < bs.length) := by omega
  have n2 : ¬ ((60 : Int) < cuts.length) := by omega
  clear h1 h2 hl1 hl2 hsh1 hsh2 hb hv hn
  go_enter Try.func3, Try.ntmps3
  go_wp2_with fail
  refine HL1.out.mono ?_
  rintro e wx ⟨rfl, hx⟩
  subst wx
  go_wp2_with fail
  refine HL2.out.mono ?_
  rintro e wx ⟨rfl, hx⟩
  subst wx
  go_wp2_with fail
  refine HPN.out.mono ?_
  rintro e w0 ⟨rfl, k0⟩
  have K0 := hid k0
  clear k0 HL1 HL2 HPN
  go_wp2_with fail
  refine (new_yes 99000 (by decide) w0).mono ?_
  rintro e w1 ⟨rfl, hS, k1⟩
  have HS := hid hS
  have K1 := hid k1
  clear hS k1
  go_wp2_with fail
  refine (rnew_yes 99000 (by decide) w1).mono ?_
  rintro e w2 ⟨rfl, hR, k2⟩
  obtain ⟨hT, hK⟩ := two_new HS.out K1.out hR k2
  have HT := hid (hT.less (A' := (· < w.heap.size)) (fun x hx => Nat.lt_of_lt_of_le hx K0.out.size))
  have HK : Hid (Keeps (· < w.heap.size) w w2) := (Keeps.ofNo K0.out).trans (hK.less (fun x hx => Nat.lt_of_lt_of_le hx K0.out.size))
  have HE : Hid (Easy 0 (newPS 99000)) := ⟨rfl, rfl, rfl, Nat.zero_le _⟩
  clear hT hK hR k2 K1 HS K0
  generalize newPS 99000 = p0 at *
  go_wp2_with fail
  go_loopw [17] (fun i wr => ∃ (k : Nat) (p r : PS), k ≤ ts.length ∧ i = .int .i64 (k : Int) ∧ Hid (Two (· < w.heap.size) (2 * k) wr w0.heap.size p w1.heap.size r) ∧ Hid (Easy k p) ∧ Hid (Keeps (· < w.heap.size) w wr)) (fun i _ => ts.length - (intOf i).toNat)
  case atStart => exact ⟨0, p0, p0, Nat.zero_le _, rfl, HT.out, HE.out, HK.out⟩
  case round =>
    obtain ⟨k, p, r, hk, rfl, HTk, HEk, HKk⟩ := hrel
    clear HT HE HK
    by_cases hlt : k < ts.length
    · obtain ⟨hok, g, o, rfl, hg, hc⟩ := HO1.out k ts[k] (List.getElem?_eq_getElem hlt)
      have hshk := HS1.out ts[k] (List.getElem_mem hlt)
      simp only [shortB, Bool.and_eq_true, decide_eq_true_eq] at hshk
      obtain ⟨⟨⟨s1, s2⟩, s3⟩, s4⟩ := hshk
      obtain ⟨ys, hyl, hby⟩ := hok.b.bytes (by omega)
      have hc' : ∀ i v, ts[k].cells[i]? = some v → wr.cell? ⟨g, o + k * 7 + i, none⟩ = some v := fun i v hv => (HKk.out.cell (p := ⟨g, o + k * 7 + i, none⟩) hg hg).trans (hc i v hv)
      have c0 := hc' 0 _ rfl
      rw [Nat.add_zero] at c0
      have c1 := hc' 1 _ rfl
      have c2 := hc' 2 _ rfl
      have c3 := hc' 3 _ rfl
      have c4 := hc' 4 _ rfl
      have c5 := hc' 5 _ rfl
      have c6 := hc' 6 _ rfl
      have hz := hok.z.2
      have hy2 := hok.y
      have HBY : Hid (ByP (· < w.heap.size) wr (.slice ts[k].a ts[k].l ts[k].c) ys) := hby.keeps HKk.out
      have hkk := hok.k
      generalize ts[k] = q at *
      clear hok hc hc' hby
      by_cases h7 : q.k < 7
      · have HK7 := hid h7
        go_wp2_with fail
        refine (step_any HTk.out (by omega) q ys (by have := HK7.out; omega) s1 s2 HBY.out (by omega) hz hy2).mono ?_
        rintro e w5 ⟨c, d, _, rfl, h5, k5⟩
        obtain ⟨f1, f2, f3⟩ := two_facts HTk.out
        have HE5 := hid (easy_step HEk.out f2 f3 q ys c HK7.out (by omega))
        have HT5 := hid h5
        have HK5 := hid (HKk.out.trans k5)
        clear h5 k5 c0 c1 c2 c3 c4 c5 c6 HBY f1 f2 f3
        go_wp2_with fail
        go_round
        case rel => exact ⟨k + 1, _, _, by omega, by go_num, HT5.out, HE5.out, HK5.out⟩
        case measure => simp [intOf]; omega
      · go_wp2_with fail
        go_round
        case rel => exact ⟨k + 1, p, r, by omega, by go_num, HTk.out.more (by omega) (by omega), HEk.out.more (by omega), HKk.out⟩
        case measure => simp [intOf]; omega
    · have HT1 := hid (HTk.out.more (M := 40) (by omega) (by omega))
      have HE1 := hid (HEk.out.more (m := 20) (by omega))
      clear HTk HEk HO1 HS1
      go_wp2_with fail
      refine (two_remove HT1.out (by omega) n hns).mono ?_
      rintro e w3 ⟨rfl, h3, k3⟩
      have HM : Hid (∀ c, (pCreate (nm n) c (pRemove (nm n) p).2).1 = 0 ∧ (pAppend (nm n) bs (pCreate (nm n) c (pRemove (nm n) p).2).2).1 = 0 ∧ (pFsync (nm n) (pAppend (nm n) bs (pCreate (nm n) c (pRemove (nm n) p).2).2).2).1 = 0 ∧ (pSyncDir (pFsync (nm n) (pAppend (nm n) bs (pCreate (nm n) c (pRemove (nm n) p).2).2).2).2).1 = 0 ∧
          ((pRemove (nm n) p).2.seen = (pRemove (nm n) p).2.chg.foldl pdo (pRemove (nm n) p).2.safe → Sure (nm n) bs (pSyncDir (pFsync (nm n) (pAppend (nm n) bs (pCreate (nm n) c (pRemove (nm n) p).2).2).2).2).2 c)) := fun c => (made_sure HE1.out (by omega) (nm n) HN.out c bs hbl).2
      have HT3 := hid h3
      have HK3 := hid (HKk.out.trans k3)
      clear h3 k3 HT1 HE1 HKk
      generalize (pRemove (nm n) p).1 = x1 at *
      generalize (pRemove (nm n) p).2 = p1 at *
      go_wp2_with fail
      refine (two_create HT3.out (by omega) n hns).mono ?_
      rintro e w4 ⟨c, hc, rfl, h4, k4⟩
      obtain ⟨m1, m2, m3, m4, m5⟩ := HM.out c
      have M5 := hid (m5 (two_facts HT3.out).1)
      have HT4 := hid h4
      have HK4 := hid (HK3.out.trans k4)
      rw [m1]
      clear h4 k4 HT3 HK3 m1 m5 hc HM
      generalize (pCreate (nm n) c p1).2 = p2 at *
      go_wp2_with fail
      refine (two_append HT4.out (by omega) n hns _ bs (HB.out.keeps HK4.out) hbl).mono ?_
      rintro e w5 ⟨rfl, h5, k5⟩
      have HT5 := hid h5
      have HK5 := hid (HK4.out.trans k5)
      rw [m2]
      clear h5 k5 HT4 HK4 m2
      generalize (pAppend (nm n) bs p2).2 = p3 at *
      go_wp2_with fail
      refine (two_fsync HT5.out (by omega) n hns).mono ?_
      rintro e w6 ⟨rfl, h6, k6⟩
      have HT6 := hid h6
      have HK6 := hid (HK5.out.trans k6)
      rw [m3]
      clear h6 k6 HT5 HK5 m3
      generalize (pFsync (nm n) p3).2 = p4 at *
      go_wp2_with fail
      refine (two_syncdir HT6.out (by omega)).mono ?_
      rintro e w7 ⟨rfl, h7, k7⟩
      have HT7 := hid h7
      have HK7 := hid (HK6.out.trans k7)
      rw [m4]
      clear h7 k7 HT6 HK6 m4
      generalize (pSyncDir p4).2 = p5 at *
      go_wp2_with fail
      go_loopw [18] (fun i wr => ∃ (j m : Nat) (p r : PS), j ≤ us.length ∧ i = .int .i64 (j : Int) ∧ Hid (Two (· < w.heap.size) (45 + 2 * j) wr w0.heap.size p m r) ∧ Hid (Sure (nm n) bs p c) ∧ Hid (Keeps (· < w.heap.size) w wr)) (fun i _ => us.length - (intOf i).toNat)
      case atStart => exact ⟨0, _, p5, r, Nat.zero_le _, rfl, HT7.out, M5.out, HK7.out⟩
      case round =>
        obtain ⟨j, m, p, r, hj, rfl, HTj, HSj, HKj⟩ := hrel
        clear HT7 M5 HK7
        by_cases hlt2 : j < us.length
        · obtain ⟨hok, g, o, rfl, hg, hc⟩ := HO2.out j us[j] (List.getElem?_eq_getElem hlt2)
          have hshk := HS2.out us[j] (List.getElem_mem hlt2)
          simp only [shortB, Bool.and_eq_true, decide_eq_true_eq] at hshk
          obtain ⟨⟨⟨s1, s2⟩, s3⟩, s4⟩ := hshk
          obtain ⟨ys, hyl, hby⟩ := hok.b.bytes (by omega)
          have hc' : ∀ wz, Keeps (· < w.heap.size) w wz → ∀ i v, us[j].cells[i]? = some v → wz.cell? ⟨g, o + j * 7 + i, none⟩ = some v := fun wz hz i v hv => (hz.cell (p := ⟨g, o + j * 7 + i, none⟩) hg hg).trans (hc i v hv)
          obtain ⟨wz, hwz⟩ : ∃ wz, wr.alloc (.cells #[.int .i64 0, .slice none 0 0, .slice none 0 0, .slice none 0 0, .slice none 0 0, .int .i64 0, .bool false, .int .i64 0] 45) = wz := ⟨_, rfl⟩
          have HTz : Hid (Two (· < w.heap.size) (45 + 2 * j) wz w0.heap.size p wr.heap.size zeroPS) := by rw [← hwz]; exact HTj.out.fresh _ rfl
          have HKz : Hid (Keeps (· < w.heap.size) w wz) := by rw [← hwz]; exact HKj.out.none ((Kp.refl _ _).alloc _)
          have c0 := hc' wr HKj.out 0 _ rfl
          rw [Nat.add_zero] at c0
          have c1 := hc' wr HKj.out 1 _ rfl
          have c2 := hc' wr HKj.out 2 _ rfl
          have d0 := hc' wz HKz.out 0 _ rfl
          rw [Nat.add_zero] at d0
          have d1 := hc' wz HKz.out 1 _ rfl
          have d2 := hc' wz HKz.out 2 _ rfl
          have d3 := hc' wz HKz.out 3 _ rfl
          have d4 := hc' wz HKz.out 4 _ rfl
          have d5 := hc' wz HKz.out 5 _ rfl
          have d6 := hc' wz HKz.out 6 _ rfl
          have hz := hok.z.2
          have hy2 := hok.y
          have HBY : Hid (ByP (· < w.heap.size) wz (.slice us[j].a us[j].l us[j].c) ys) := hby.keeps HKz.out
          have hkk := hok.k
          generalize us[j] = q at *
          have HSK : Hid (∃ (j' m : Nat) (p r : PS), j' ≤ us.length ∧ Value.int .i64 ((j : Int) + 1) = .int .i64 (j' : Int) ∧ Hid (Two (· < w.heap.size) (45 + 2 * j') wr w0.heap.size p m r) ∧ Hid (Sure (nm n) bs p c) ∧ Hid (Keeps (· < w.heap.size) w wr)) := ⟨j + 1, m, p, r, by omega, by go_num, HTj.out.more (by omega) (by omega), HSj.out, HKj.out⟩
          clear hok hc hc' hby
          by_cases e1 : q.s = n
          · have e1' : (q.s.toList == n.toList) = true := by rw [e1]; simp
            go_wp2_with fail
            go_round
            case rel => exact HSK.out
            case measure => simp [intOf]; omega
          · have e1' := str_ne (n := nm q.s) (t := n) (fun e => e1 (by rw [← sOf_nm q.s, e, sOf_nm]))
            rw [sOf_nm] at e1'
            by_cases e2 : q.t = n
            · have e2' : (q.t.toList == n.toList) = true := by rw [e2]; simp
              go_wp2_with fail
              go_round
              case rel => exact HSK.out
              case measure => simp [intOf]; omega
            · have e2' := str_ne (n := nm q.t) (t := n) (fun e => e2 (by rw [← sOf_nm q.t, e, sOf_nm]))
              rw [sOf_nm] at e2'
              by_cases e3 : q.k < 8
              · have HK8 := hid e3
                have HE1 := hid e1
                have HE2 := hid e2
                clear e1 e2
                go_wp2_with fail
                refine (step_any HTz.out (by omega) q ys (by have := HK8.out; omega) s1 s2 HBY.out (by omega) hz hy2).mono ?_
                rintro e w8 ⟨c', d, hcd, rfl, h8, k8⟩
                obtain ⟨f1, f2, f3⟩ := two_facts HTz.out
                have HS8 := hid (sure_step HSj.out f1 f2 (fun e => by have := HN.out; rw [← e] at this; simp [nameB] at this) q ys c' (fun e => HE1.out (by rw [← sOf_nm q.s, e, sOf_nm])) (fun e => HE2.out (by rw [← sOf_nm q.t, e, sOf_nm])) HK8.out (fun h0 => (hcd h0).1))
                have HT8 := hid h8
                have HK9 := hid (HKz.out.trans k8)
                clear h8 k8 f1 f2 f3 hcd
                go_wp2_with fail
                go_round
                case rel => exact ⟨j + 1, _, _, _, by omega, by go_num, HT8.out, HS8.out, HK9.out⟩
                case measure => simp [intOf]; omega
              · go_wp2_with fail
                go_round
                case rel => exact HSK.out
                case measure => simp [intOf]; omega
        · clear HO2 HS2
          go_wp2_with fail
          refine (two_up HTj.out z _ cuts (HV.out.keeps HKj.out)).mono ?_
          rintro e w8 ⟨rfl, h8, k8⟩
          obtain ⟨u1, u2, u3⟩ := sure_up HSj.out HN.out z cuts
          have HT8 := hid h8
          have HK8 := hid (HKj.out.trans k8)
          clear h8 k8 HTj HSj HKj
          generalize pUp z cuts p = p8 at *
          go_wp2_with fail
          refine (two_read HT8.out n hns).mono ?_
          rintro e w9 ⟨ra, rc, rfl, ho, h9, k9⟩
          rw [u1]
          rw [u2] at ho ⊢
          have HO := hid ho
          have HT9 := hid h9
          have HK9 := hid (HK8.out.none k9)
          have HX : Hid (ByP (fun _ => True) w9 (.slice ra bs.length rc) bs) := ho.byP (fun _ _ => trivial) (by omega) (by obtain ⟨_, _, _, _, _, _, _, h6, _⟩ := HB.out; exact h6)
          clear ho h9 k9 HT8 HK8 u1 u2
          go_wp2_with fail
          refine (qbytes_any _ _ bs bs w9 HX.out (HB.out.keeps HK9.out)).mono ?_
          rintro e w10 ⟨rfl, k10⟩
          rw [show decide (bs = bs) = true from by simp]
          have HTA := hid (HT9.out.kept k10)
          have HKA := hid (HK9.out.none k10)
          clear k10 HT9 HK9 HX HO
          go_wp2_with fail
          refine (two_down HTA.out).mono ?_
          rintro e wn ⟨rfl, hwn⟩
          subst wn
          rw [u3]
          go_wp2_with fail
          refine (alive_any _).mono ?_
          rintro e w11 ⟨rfl, k11⟩
          have HKB := hid (HKA.out.none k11)
          clear k11
          go_wp2
          go_ret
          exact ⟨rfl, HKB.out⟩

end Go.Proofs.Ytcfebhgmbfaahaa.Sim
