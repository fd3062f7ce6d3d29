/-
  SimfsCopies, walked.
-/
import Derived.Test.YtmiipifhbliamaaGreatSimPlays
namespace Go.Proofs.YtmiipifhbliamaaGreat.Sim
open Go.RowKit Go.Maps

theorem Two.keeps {A : Nat → Prop} {N : Nat} {w w' : World} {s m : Nat} {p r : PS} (h : Two A N w s p m r) (k : Keeps (· < w.heap.size) w w') : Two A N w' s p m r := by
  obtain ⟨P, Q, h1, h2, h3, h4⟩ := h
  exact ⟨P, Q, h1.kp k (fun x hx hp => hx (h1.lt x hp)), h2.kp k (fun x hx hq => hx (h2.lt x hq)), h3, fun x hx => ⟨Nat.lt_of_lt_of_le (h4 x hx).1 k.size, (h4 x hx).2⟩⟩
/-- One system, apart from B. -/
def One (B : Nat → Prop) (N : Nat) (w : World) (c : Nat) (q : PS) : Prop := ∃ P, Sys P N w c q ∧ ∀ x, B x → x < w.heap.size ∧ ¬ P x
theorem Two.one {B : Nat → Prop} {N : Nat} {w : World} {c m : Nat} {q r : PS} (h : Two B N w c q m r) : One B N w c q := by
  obtain ⟨P, Q, h1, _, _, h4⟩ := h
  exact ⟨P, h1, fun x hx => ⟨(h4 x hx).1, (h4 x hx).2.1⟩⟩
theorem One.more {B : Nat → Prop} {N M : Nat} {w : World} {c : Nat} {q : PS} (h : One B N w c q) (hm : N ≤ M) (hb : M ≤ 1000) : One B M w c q := by
  obtain ⟨P, h1, h4⟩ := h
  exact ⟨P, h1.more hm hb, h4⟩
def zeroQ : PS := ⟨0, false, [], [], [], false, true, 0, 0, fun _ => none⟩
theorem inv_zeroQ : PInv 0 zeroQ :=
  have h := inv_new 0 (by omega)
  { seen_eq := rfl, okc := trivial, has := h.has, hasC := h.hasC, nodup := h.nodup, nmS := h.nmS, nmC := h.nmC, nmade := fun _ => ⟨rfl, rfl⟩, room := Nat.zero_le _, left := Nat.zero_le _, steps := Nat.le_refl _, lsum := h.lsum, lfile := h.lfile, big := h.big }
theorem One.fresh {B : Nat → Prop} {N : Nat} {w : World} {c : Nat} {q : PS} (h : One B N w c q) (o : Obj) (ho : o = .cells (rfsCells zeroQ (.slice none 0 0) (.slice none 0 0) (.slice none 0 0) (.slice none 0 0)).toArray 44) : Two B N (w.alloc o) c q w.heap.size zeroQ := by
  obtain ⟨P, h1, h4⟩ := h
  have k : Kp No w (w.alloc o) := (Kp.refl _ _).alloc _
  have hb := h1.inv.big
  refine ⟨P, (· = w.heap.size), h1.kept k, ⟨No, _, _, _, _, [], [], rr_new w zeroQ o ho rfl rfl rfl rfl, inv_zeroQ.mono (Nat.zero_le _) hb, Nat.zero_le _⟩, fun x hx hy => ?_, fun x hx => ⟨Nat.lt_of_lt_of_le (h4 x hx).1 k.size, (h4 x hx).2, fun hy => ?_⟩⟩
  · have := h1.lt x hx; omega
  · have := (h4 x hx).1; omega
theorem one_copy {A : Nat → Prop} {N : Nat} {w : World} {s m : Nat} {p r : PS} (h : Two A N w s p m r) : Calls Tryz.prog 9 #[.pointer (some ⟨s, 0, none⟩)] w fun e w' => ∃ c q, e = .returned (.pointer (some ⟨c, 0, none⟩)) ∧ One (· < w.heap.size) N w' c q ∧ Kp No w w' := by
  obtain ⟨P, Q, h1, h2, h3, h4⟩ := h
  refine (copy_any w s p h1).mono ?_
  rintro e w' ⟨c, g, q, P', rfl, hc, h5, h6, k⟩
  refine ⟨c, q, rfl, ⟨P', h5, fun x hx => ⟨Nat.lt_of_lt_of_le hx k.size, fun hp => ?_⟩⟩, k⟩
  have := h6 x hp; omega
theorem IntsAt.mono {Q Q' : Nat → Prop} {w : World} {v : Value} {zs : List Int} (h : IntsAt Q w v zs) (hm : ∀ x, Q x → Q' x) : IntsAt Q' w v zs := by
  obtain ⟨a, cap, h1, h2, h3, h4, h5⟩ := h
  refine ⟨a, cap, h1, h2, h3, h4, fun hne => ?_⟩
  obtain ⟨g, o, e, hq, hg, hc⟩ := h5 hne
  exact ⟨g, o, e, hm g hq, hg, hc⟩
/-- The bytes that were handed out, whatever was written there. -/
def Bys (w : World) (v : Value) (n : Nat) : Prop := ∃ ys : List Value, Row w 5 1 v n ys ∧ ∀ y ∈ ys, ∃ z, y = .int .u8 z
theorem OwnB.bys {w : World} {v : Value} {xs : List Nat} (h : OwnB w v xs) : Bys w v xs.length := ⟨_, h.row, fun y hy => by
  simp only [cl, List.mem_map] at hy
  obtain ⟨x, _, rfl⟩ := hy
  exact ⟨_, rfl⟩⟩
theorem Bys.at {w : World} {a : Option Addr} {n cap : Nat} (h : Bys w (.slice a n cap) n) (i : Nat) (hi : i < n) : ∃ g z, a = some ⟨g, 0, none⟩ ∧ w.cell? ⟨g, i, none⟩ = some (.int .u8 z) ∧ w.frozen? ⟨g, i, none⟩ = false ∧ ∀ z', Bys (w.setCell ⟨g, i, none⟩ (.int .u8 z')) (.slice a n cap) n := by
  obtain ⟨ys, h1, h2⟩ := h
  obtain ⟨hl, hr⟩ := id h1
  rcases hr with ⟨e, e2⟩ | ⟨g, cap', cur, e, hb, hh, _⟩
  · simp only [Value.slice.injEq] at e; omega
  · simp only [Value.slice.injEq] at e
    obtain ⟨rfl, _, rfl⟩ := e
    have hil : i < ys.length := by omega
    obtain ⟨z, hz⟩ := h2 _ (List.getElem_mem hil)
    refine ⟨g, z, rfl, ?_, by simp [World.frozen?, hh], fun z' => ⟨ys.set i (.int .u8 z'), h1.set i _, fun y hy => ?_⟩⟩
    · rw [h1.cellAt i (by omega), List.getElem?_eq_getElem hil, hz]
    · rcases List.mem_or_eq_of_mem_set hy with h | rfl
      · exact h2 y h
      · exact ⟨_, rfl⟩

set_option maxHeartbeats 4000000 in
set_option maxRecDepth 100000 in
theorem copies_main (a : Option Addr) (cap : Nat) (ts : List RawOp) (a2 : Option Addr) (cap2 : Nat) (us : List RawOp) (w : World) (h1 : Ops w a ts) (h2 : Ops w a2 us) (hl1 : lightB 20 ts = true) (hl2 : lightB 20 us = true) :
    Calls Tryz.prog 4 #[.slice a ts.length cap, .slice a2 us.length cap2] w fun e w' => e = .returned (.bool true) ∧ Keeps (· < w.heap.size) w w' := by
  have hl1' := hl1
  have hl2' := hl2
  simp only [lightB, Bool.and_eq_true, decide_eq_true_eq, List.all_eq_true] at hl1' hl2'
  obtain ⟨hlen1, hsh1⟩ := hl1'
  obtain ⟨hlen2, hsh2⟩ := hl2'
  have HL1 := light_any a cap ts 20 (by omega) w (by omega) h1
  have HL2 := light_any a2 cap2 us 20 (by omega) w (by omega) h2
  rw [hl1] at HL1
  rw [hl2] at HL2
  have HL1 := hid HL1
  have HL2 := hid HL2
  have HO1 := hid h1
  have HO2 := hid h2
  have HS1 := hid hsh1
  have HS2 := hid hsh2
  clear h1 h2 hl1 hl2 hsh1 hsh2
  go_enter Tryz.func4, Tryz.ntmps4
  go_wp2_with fail
  refine HL1.out.mono ?_
  rintro e wx ⟨rfl, hx⟩
  subst wx
  go_wp2_with fail
  refine HL2.out.mono ?_
  rintro e wx ⟨rfl, hx⟩
  subst wx
  clear HL1 HL2
  go_wp2_with fail
  refine (new_yes 99000 (by decide) w).mono ?_
  rintro e w1 ⟨rfl, hS, k1⟩
  have HSN := hid hS
  have K1 := hid k1
  clear hS k1
  go_wp2_with fail
  refine (rnew_yes 99000 (by decide) w1).mono ?_
  rintro e w2 ⟨rfl, hR, k2⟩
  obtain ⟨hT, hK⟩ := two_begin HSN.out K1.out hR k2
  have HT3 := hid hT
  have HK3 := hid hK
  have HR3 := hid (rel_new 99000)
  have HN3 := hid (nice_new 99000)
  clear hT hK hR k2 K1 HSN
  generalize newPS 99000 = p0 at *
  go_wp2_with fail
  go_loopw [9] (fun x wr => ∃ (k : Nat) (p r : PS) (g : Nat → Nat), k ≤ ts.length ∧ x = .int .i64 (k : Int) ∧ Hid (Two (· < w.heap.size) (2 * k) wr w.heap.size p w1.heap.size r) ∧ Hid (Rel g p r) ∧ Hid (Nice p) ∧ Hid (Keeps (· < w.heap.size) w wr)) (fun x _ => ts.length - (intOf x).toNat)
  case atStart => exact ⟨0, p0, p0, id, Nat.zero_le _, rfl, HT3.out, HR3.out, HN3.out, HK3.out⟩
  case round =>
    obtain ⟨k, p, r, g, hk, rfl, HT, HR, HN, HK⟩ := hrel
    clear HT3 HR3 HN3 HK3
    by_cases hlt : k < ts.length
    · obtain ⟨hok, lg, o, rfl, hg, hc⟩ := HO1.out k ts[k] (List.getElem?_eq_getElem hlt)
      have hshk := HS1.out ts[k] (List.getElem_mem hlt)
      simp only [shortB, Bool.and_eq_true, decide_eq_true_eq] at hshk
      obtain ⟨⟨⟨s1, s2⟩, s3⟩, s4⟩ := hshk
      obtain ⟨bs, hbl, hby⟩ := hok.b.bytes (by omega)
      obtain ⟨cuts, hcl, hcu⟩ := hok.n.ints (by omega)
      have hc' : ∀ V, Keeps (· < w.heap.size) w V → ∀ i v, ts[k].cells[i]? = some v → V.cell? ⟨lg, o + k * 7 + i, none⟩ = some v := fun V hV i v hv => (hV.cell (p := ⟨lg, o + k * 7 + i, none⟩) hg hg).trans (hc i v hv)
      have HC := hid hc'
      have HBY := hid hby
      have HCU := hid hcu
      have hz := hok.z.2
      have hy2 := hok.y
      have hkk := hok.k
      generalize ts[k] = q at *
      clear hok hc hc' hby hcu
      have d0 := HC.out wr HK.out 0 _ rfl
      rw [Nat.add_zero] at d0
      have d1 := HC.out wr HK.out 1 _ rfl
      have d2 := HC.out wr HK.out 2 _ rfl
      have d3 := HC.out wr HK.out 3 _ rfl
      have d4 := HC.out wr HK.out 4 _ rfl
      have d5 := HC.out wr HK.out 5 _ rfl
      have d6 := HC.out wr HK.out 6 _ rfl
      go_wp2_with fail
      refine (step_all HT.out (by omega) q bs cuts s1 s2 (HBY.out.keeps HK.out) (by omega) (HCU.out.keeps HK.out) hz hy2).mono ?_
      rintro e w6 ⟨c, d, hcd, rfl, h6, k6⟩
      obtain ⟨t1, g6, t2⟩ := rel_step HR.out (two_inv HT.out) q bs cuts c d hcd
      have HT6 := hid h6
      have HR6 := hid t2
      have HN6 := hid (nice_step HN.out q bs cuts c)
      have HK6 := hid (HK.out.trans k6)
      clear h6 k6 t1 t2 hcd d0 d1 d2 d3 d4 d5 d6 HT HR HN HK
      generalize (stepQ q bs cuts c p).2 = p6 at *
      generalize (stepQ q bs cuts d r).2 = r6 at *
      go_wp2_with fail
      go_round
      case rel => exact ⟨k + 1, p6, r6, g6, by omega, by go_num, HT6.out, HR6.out, HN6.out, HK6.out⟩
      case measure => simp [intOf]; omega
    · obtain ⟨w4, hw4⟩ : ∃ V, V = wr := ⟨_, rfl⟩
      subst hw4
      have hk20 : 2 * k ≤ 40 := by omega
      obtain ⟨M, hM⟩ : ∃ M, M = 2 * k := ⟨_, rfl⟩
      rw [← hM] at HT hk20
      clear hM
      clear HO1 HS1
      go_wp2_with fail
      refine (one_copy HT.out).mono ?_
      rintro e w5 ⟨c, q0, rfl, h5, k5⟩
      have HQ5 := hid (h5.more hk20 (by omega))
      have HB5 : Hid (Keeps (· < w4.heap.size) w4 w5) := Keeps.ofNo k5
      have HKK : Hid (∀ V, Keeps (· < w4.heap.size) w4 V → Keeps (· < w.heap.size) w V) := fun V hV => HK.out.trans (hV.less (fun x hx => Nat.lt_of_lt_of_le hx HK.out.size))
      have HSZ : Hid (w.heap.size ≤ w4.heap.size) := HK.out.size
      have HBIG := hid (two_inv HT.out).big
      clear h5 k5 HK
      go_wp2_with fail
      go_loopw [11] (fun x wq => ∃ (j : Nat) (q : PS), j ≤ us.length ∧ x = .int .i64 (j : Int) ∧ Hid (One (· < w4.heap.size) (40 + 2 * j) wq c q) ∧ Hid (Keeps (· < w4.heap.size) w4 wq)) (fun x _ => us.length - (intOf x).toNat)
      case atStart => exact ⟨0, q0, Nat.zero_le _, rfl, HQ5.out, HB5.out⟩
      case round =>
        obtain ⟨wq, hwq⟩ : ∃ V, V = wr := ⟨_, rfl⟩
        subst hwq
        obtain ⟨j, q1, hj, rfl, HQ, HB⟩ := hrel
        clear HQ5 HB5
        by_cases hlt2 : j < us.length
        · obtain ⟨hok, lg, o, rfl, hg, hc⟩ := HO2.out j us[j] (List.getElem?_eq_getElem hlt2)
          have hshk := HS2.out us[j] (List.getElem_mem hlt2)
          simp only [shortB, Bool.and_eq_true, decide_eq_true_eq] at hshk
          obtain ⟨⟨⟨s1, s2⟩, s3⟩, s4⟩ := hshk
          obtain ⟨bs, hbl, hby⟩ := hok.b.bytes (by omega)
          obtain ⟨cuts, hcl, hcu⟩ := hok.n.ints (by omega)
          have hc' : ∀ V, Keeps (· < w.heap.size) w V → ∀ i v, us[j].cells[i]? = some v → V.cell? ⟨lg, o + j * 7 + i, none⟩ = some v := fun V hV i v hv => (hV.cell (p := ⟨lg, o + j * 7 + i, none⟩) hg hg).trans (hc i v hv)
          have HC := hid hc'
          obtain ⟨wz, hwz⟩ : ∃ wz, wq.alloc (.cells #[.int .i64 0, .slice none 0 0, .slice none 0 0, .slice none 0 0, .slice none 0 0, .int .i64 0, .bool false, .int .i64 0] 44) = wz := ⟨_, rfl⟩
          have HTz : Hid (Two (· < w4.heap.size) (40 + 2 * j) wz c q1 wq.heap.size zeroQ) := by rw [← hwz]; exact HQ.out.fresh _ rfl
          have HBz : Hid (Keeps (· < w4.heap.size) w4 wz) := by rw [← hwz]; exact HB.out.none ((Kp.refl _ _).alloc _)
          have HBY : Hid (ByP (· < w4.heap.size) wz (.slice us[j].a us[j].l us[j].c) bs) := (hby.keeps (HKK.out wz HBz.out)).mono (fun x _ hx => Nat.lt_of_lt_of_le hx HSZ.out)
          have HCU : Hid (IntsAt (· < w4.heap.size) wz (.slice us[j].a' us[j].l' us[j].c') cuts) := (hcu.keeps (HKK.out wz HBz.out)).mono (fun x hx => Nat.lt_of_lt_of_le hx HSZ.out)
          have hz := hok.z.2
          have hy2 := hok.y
          have hkk := hok.k
          generalize us[j] = q at *
          clear hok hc hc' hby hcu
          have c0 := HC.out wq (HKK.out wq HB.out) 0 _ rfl
          rw [Nat.add_zero] at c0
          have c1 := HC.out wq (HKK.out wq HB.out) 1 _ rfl
          have c2 := HC.out wq (HKK.out wq HB.out) 2 _ rfl
          have c3 := HC.out wq (HKK.out wq HB.out) 3 _ rfl
          have c4 := HC.out wq (HKK.out wq HB.out) 4 _ rfl
          have c5 := HC.out wq (HKK.out wq HB.out) 5 _ rfl
          have c6 := HC.out wq (HKK.out wq HB.out) 6 _ rfl
          have d0 := HC.out wz (HKK.out wz HBz.out) 0 _ rfl
          rw [Nat.add_zero] at d0
          have d1 := HC.out wz (HKK.out wz HBz.out) 1 _ rfl
          have d2 := HC.out wz (HKK.out wz HBz.out) 2 _ rfl
          have d3 := HC.out wz (HKK.out wz HBz.out) 3 _ rfl
          have d4 := HC.out wz (HKK.out wz HBz.out) 4 _ rfl
          have d5 := HC.out wz (HKK.out wz HBz.out) 5 _ rfl
          have d6 := HC.out wz (HKK.out wz HBz.out) 6 _ rfl
          go_wp2_with fail
          refine (step_all HTz.out (by omega) q bs cuts s1 s2 HBY.out (by omega) HCU.out hz hy2).mono ?_
          rintro e w8 ⟨c', d', hcd, rfl, h8, k8⟩
          have HQ8 := hid h8.one
          have HB8 := hid (HBz.out.trans k8)
          clear h8 k8 hcd c0 c1 c2 c3 c4 c5 c6 d0 d1 d2 d3 d4 d5 d6
          go_wp2_with fail
          go_round
          case rel => exact ⟨j + 1, _, by omega, by go_num, HQ8.out, HB8.out⟩
          case measure => simp [intOf]; omega
        · have HTq := hid (HT.out.keeps HB.out)
          have HKq := hid (HKK.out wq HB.out)
          clear HO2 HS2 HQ HB HT HKK HSZ
          have hI := two_inv HTq.out
          have hlen : (pList p).length ≤ 1000 := by
            unfold pList
            split
            · simp
            · rw [List.length_map]
              have := hI.lseen
              have := hI.big
              omega
          have HNS : Hid (∀ n ∈ pList p, n.length ≤ 40) := fun n hh => by
            unfold pList at hh
            split at hh
            · simp at hh
            · obtain ⟨e, he, rfl⟩ := List.mem_map.1 hh
              exact (hI.hasSeen e he).2
          have HL : Hid (Calls Tryz.prog 12 #[.pointer (some ⟨w.heap.size, 0, none⟩)] wq fun e w' => ∃ u, e = .returned u ∧ OwnN w' u (pList p) ∧ (∀ x, u.ownBlock = some x → wq.heap.size ≤ x) ∧ Kp No wq w') := by obtain ⟨P, Q, h1, _⟩ := HTq.out; exact list_any wq _ p h1
          clear hI
          go_wp2_with fail
          refine HL.out.mono ?_
          rintro e w9 ⟨u, rfl, hu, _, k9⟩
          obtain ⟨ua, uc, rfl, huc, hum, _⟩ := Row.shape hu
          have HU9 := hid hu
          have HT9 := hid (HTq.out.kept k9)
          have HK9 := hid (HKq.out.none k9)
          clear hu k9 HL HTq HKq
          generalize hLL : pList p = L at *
          go_wp2_with fail
          go_loopw [13] (fun x wv => ∃ i : Nat, x = .int .i64 (i : Int) ∧ i ≤ L.length ∧ Hid (Two (· < w.heap.size) M wv w.heap.size p w1.heap.size r) ∧ Hid (OwnN wv (.slice ua L.length uc) L) ∧ Hid (Keeps (· < w.heap.size) w wv)) (fun x _ => L.length - (intOf x).toNat)
          case atStart => exact ⟨0, rfl, Nat.zero_le _, HT9.out, HU9.out, HK9.out⟩
          case round =>
            obtain ⟨wv, hwv⟩ : ∃ V, V = wr := ⟨_, rfl⟩
            subst hwv
            obtain ⟨i, rfl, hi, HTv, HUv, HKv⟩ := hrel
            clear HT9 HU9 HK9
            by_cases hlt3 : i < L.length
            · have hx : NmP (fun _ => True) wv (.slice ua L.length uc) L := OwnN.nmP HUv.out (fun _ _ => trivial)
              obtain ⟨_, _, e0, _, _, hcell⟩ := hx
              simp only [Value.slice.injEq, true_and] at e0
              obtain ⟨rfl, rfl⟩ := e0
              obtain ⟨ug, rfl, _, hul, hcell⟩ := hcell (fun e => by rw [e] at hlt3; simp at hlt3)
              have c0 := hcell i L[i] (List.getElem?_eq_getElem hlt3)
              have hsz : (sOf L[i]).size ≤ 1000000 := by rw [sOf_size]; have := HNS.out L[i] (List.getElem_mem hlt3); omega
              have HRD : Hid (Calls Tryz.prog 13 #[.pointer (some ⟨w.heap.size, 0, none⟩), .string (sOf L[i])] wv fun e w' => ∃ (ad : Option Addr) (n cap : Nat) (f : Int), n ≤ 1000000 ∧ e = .returned (.tuple #[.slice ad n cap, .int .i64 f]) ∧ Bys w' (.slice ad n cap) n ∧ (∀ x, (Value.slice ad n cap).ownBlock = some x → wv.heap.size ≤ x) ∧ Kp No wv w') := by
                obtain ⟨P, Q, h1, _⟩ := HTv.out
                refine (read_any wv _ p (sOf L[i]) hsz h1).mono ?_
                rintro e w' ⟨ad, cap, rfl, ho, hb, hk⟩
                obtain ⟨_, b2⟩ := sys_bytes h1 (nm (sOf L[i]))
                exact ⟨ad, _, cap, _, by omega, rfl, ho.bys, hb, hk⟩
              clear hcell hul hsz
              generalize sOf L[i] = sn at *
              go_wp2_with fail
              refine HRD.out.mono ?_
              rintro e wa ⟨ad, n, cp, f, hn, rfl, hby, hnew, ka⟩
              have HA := hid hby
              have HNW := hid hnew
              have HKA : Hid (Keeps (· < wv.heap.size) wv wa) := Keeps.ofNo ka
              clear hby hnew ka HRD c0
              go_wp2_with fail
              go_loopw [16] (fun x wb => ∃ j : Nat, x = .int .i64 (j : Int) ∧ j ≤ n ∧ Hid (Bys wb (.slice ad n cp) n) ∧ Hid (Keeps (· < wv.heap.size) wv wb)) (fun x _ => n - (intOf x).toNat)
              case atStart => exact ⟨0, rfl, Nat.zero_le _, HA.out, HKA.out⟩
              case round =>
                obtain ⟨wb, hwb⟩ : ∃ V, V = wr := ⟨_, rfl⟩
                subst hwb
                obtain ⟨j2, rfl, hj2, HBb, HKb⟩ := hrel
                clear HA HKA
                by_cases hlt4 : j2 < n
                · obtain ⟨gg, z, rfl, c0, f0, hset⟩ := HBb.out.at j2 hlt4
                  have HSET := hid hset
                  have hge := HNW.out gg rfl
                  have HKS : Hid (∀ y, Keeps (· < wv.heap.size) wv (wb.setCell ⟨gg, j2, none⟩ y)) := fun y => Kp.setCell HKb.out (p := ⟨gg, j2, none⟩) (.inr hge) y
                  clear hset
                  go_wp2_with fail
                  go_round
                  case rel => exact ⟨j2 + 1, by go_num, by omega, HSET.out _, HKS.out _⟩
                  case measure => simp [intOf]; omega
                · have HT5 := hid (HTv.out.keeps HKb.out)
                  have HU5 : Hid (OwnN wb (.slice (some ⟨ug, 0, none⟩) L.length uc) L) := Row.kp HUv.out HKb.out (fun x hx h => h (Row.lt HUv.out x hx))
                  have HK5 : Hid (Keeps (· < w.heap.size) w wb) := HKv.out.trans (HKb.out.less (fun x hx => Nat.lt_of_lt_of_le hx HKv.out.size))
                  go_wp2_with fail
                  go_round
                  case rel => exact ⟨i + 1, by go_num, by omega, HT5.out, HU5.out, HK5.out⟩
                  case measure => simp [intOf]; omega
            · go_wp2_with fail
              refine (alike_any HTv.out HR.out HN.out).mono ?_
              rintro e wc ⟨rfl, kc⟩
              have HKc := hid (HKv.out.none kc)
              clear kc
              go_wp2_with fail
              refine (alive_any wc).mono ?_
              rintro e wd ⟨rfl, kd⟩
              have HKd := hid (HKc.out.none kd)
              clear kd
              go_wp2
              go_ret
              exact ⟨rfl, HKd.out⟩

end Go.Proofs.YtmiipifhbliamaaGreat.Sim
