/-
  Rename.
-/
import Derived.Test.YtdooiflmjeibdaaDoorTrSort2
namespace Go.Proofs.YtdooiflmjeibdaaDoor.Tr
open Go.RowKit

/-- x, moved from p to q. -/
def mvP (p q : ByteArray) (x : It) : It := (q ++ x.1.extract p.size x.1.size, x.2.1, x.2.2)
theorem within_len {p s : ByteArray} (h : withinB (tx p) (tx s) = true) : p.size ≤ s.size := by
  have e : ∀ b : ByteArray, (tx b).length = b.size := fun b => Array.length_toList
  rw [← e p, ← e s]
  unfold withinB at h
  simp only [Bool.or_eq_true, beq_iff_eq] at h
  rcases h with (h | h) | h
  · rw [h]; exact Nat.le_refl _
  · rw [h]; exact Nat.zero_le _
  · have := (List.isPrefixOf_iff_prefix.1 h).length_le
    rw [List.length_append] at this
    omega
theorem IOwn.at {w : World} {v : Value} {xs : List It} (h : IOwn w v xs) (hne : xs ≠ []) :
    ∃ g cap, v = .slice (some ⟨g, 0, none⟩) xs.length cap ∧ ∀ V, Kp No w V → ∀ i x, xs[i]? = some x → ∃ u, V.cell? ⟨g, i * 3, none⟩ = some (.string x.1) ∧ V.cell? ⟨g, i * 3 + 1, none⟩ = some (.bool x.2.1) ∧ V.cell? ⟨g, i * 3 + 2, none⟩ = some u ∧ ByU V u x.2.2 ∧ u.oneCell' = true := by
  obtain ⟨us, hl, hr, hb⟩ := h
  have hr' := hr
  rcases hr.2 with ⟨rfl, h0⟩ | ⟨g, cap, cur, rfl, hg, hh, hn, hc, hs, ht⟩
  · exact absurd (List.length_eq_zero_iff.1 h0) hne
  · refine ⟨g, cap, rfl, fun V k i x hi => ?_⟩
    have hil := (List.getElem?_eq_some_iff.1 hi).1
    obtain ⟨u, hu⟩ : ∃ u, us[i]? = some u := ⟨_, List.getElem?_eq_getElem (by omega)⟩
    have hc' := fun r (hr3 : r < 3) => (Row.cellAt (Row.kept hr' k) (i * 3 + r) (by omega)).trans (cellsI_at xs us i x u r hi hu hr3)
    exact ⟨u, hc' 0 (by omega), hc' 1 (by omega), hc' 2 (by omega), (hb i x u hi hu).1.kp k (fun _ h => h.elim), (hb i x u hi hu).2⟩

/-- What Rename makes: the fault, and the tree. -/
def RenR (t : List It) (p q : ByteArray) (r : Int × List It) : Prop :=
  if staysF t p q = 0 then (if (underL t p).all (fun x => pathB (tx (mvP p q x).1)) then ∃ zs, zs.Perm (outL t p ++ (underL t p).map (mvP p q)) ∧ Srt zs ∧ r = (0, zs) else r = (10, [])) else r = (staysF t p q, [])
theorem stays_has {t : List It} {p q : ByteArray} (h : staysF t p q = 0) : underL t p ≠ [] := by
  intro e
  unfold staysF at h
  split at h
  · cases hx : look t p with
    | none => rw [hx] at h; simp at h
    | some x =>
      obtain ⟨hm, hp⟩ := look_mem hx
      have : x ∈ underL t p := List.mem_filter.2 ⟨hm, by rw [hp]; simp [withinB]⟩
      rw [e] at this
      cases this
  · rename_i hn
    exact hn h

set_option maxHeartbeats 8000000 in
theorem rename_any (w : World) (v : Value) (t : List It) (p q : ByteArray) (h : IRow Any w v t) (hl : t.length ≤ 1000) (hs : ∀ y ∈ t, ShortI y) (hp : p.size ≤ 10000) (hq : q.size ≤ 10000) :
    Calls Tryd.prog 11 #[v, .string p, .string q] w fun e w' => ∃ r, RenR t p q r ∧ Chd w r e w' := by
  have HS := hid (stays_any w v t p q h hl hs hp hq)
  have HP := hid (fun (V : World) (k : Kp No w V) => apart_any V v t p (h.kept k) (by omega) hs)
  have HM : Hid (∀ r, RenR t p q r = if staysF t p q = 0 then (if (underL t p).all (fun x => pathB (tx (mvP p q x).1)) then ∃ zs, zs.Perm (outL t p ++ (underL t p).map (mvP p q)) ∧ Srt zs ∧ r = (0, zs) else r = (10, [])) else r = (staysF t p q, [])) := fun _ => rfl
  have HW : Hid (∀ x ∈ underL t p, p.size ≤ x.1.size) := fun x hx => within_len (List.mem_filter.1 hx).2
  have HSH : Hid (∀ x ∈ underL t p, ShortI x) := fun x hx => hs x (List.mem_filter.1 hx).1
  have hul : Hid ((underL t p).length ≤ 1000) := Nat.le_trans (List.length_filter_le _ _) hl
  have hol : Hid ((outL t p).length ≤ 1000) := Nat.le_trans (List.length_filter_le _ _) hl
  generalize RenR t p q = R at *
  clear h hs hl
  by_cases hf : staysF t p q = 0
  · have HNE := hid (stays_has hf)
    rw [hf] at HS HM
    simp only [if_true] at HM
    clear hf
    generalize outL t p = os at *
    generalize underL t p = us at *
    obtain ⟨n, hn⟩ : ∃ n, us.length = n := ⟨_, rfl⟩
    have HN := hid hn
    have hnb : n ≤ 1000 := by rw [← hn]; exact hul.out
    clear hn
    go_enter Tryd.func11, Tryd.ntmps11
    go_wp2_with (first | (go_at_call 25; refine (HP.out _ HK.out).mono ?_; rintro e w2 ⟨a, n0, c, a', n', c', rfl, ht⟩; obtain ⟨_, _, e0⟩ := ht.a.form; rw [HN.out] at e0; cases e0; have HT := hid ht; clear ht) | (go_at_call 24; refine HS.out.mono ?_; rintro e w1 ⟨rfl, hk⟩; have HK := hid hk; clear hk))
    go_loopw [10, 28] (fun v10 x wr => ∃ (i : Nat) (a1 : Option Addr) (n1 c1 : Nat), v10 = .slice a1 n1 c1 ∧ x = .int .i64 i ∧ i ≤ n ∧ Hid (Two w1 wr (.slice a n c) (.slice a1 n1 c1) us (os ++ (us.take i).map (mvP p q))) ∧ Hid ((us.take i).all (fun x => pathB (tx (mvP p q x).1)) = true)) (fun _ x _ => n - (intOf x).toNat)
    case atStart => exact ⟨0, a', n', c', rfl, rfl, Nat.zero_le _, by simpa [Hid] using HT.out, by simp [Hid]⟩
    case round =>
      obtain ⟨i, a1, n1, c1, rfl, rfl, hi, HTR, HALL⟩ := hrel
      by_cases hlt : i < n
      · have hltI : (i : Int) < (n : Int) := by omega
        have hi0 : (0 : Int) ≤ (i : Int) := by omega
        obtain ⟨x, hx⟩ : ∃ x, us[i]? = some x := ⟨_, List.getElem?_eq_getElem (by rw [HN.out]; omega)⟩
        have HX := hid hx
        have HWX := hid (HW.out x (List.mem_of_getElem? hx))
        have HSX := hid (HSH.out x (List.mem_of_getElem? hx))
        obtain ⟨g, cap, e, hc⟩ := HTR.out.a.at (by rintro rfl; simp at hx)
        rw [HN.out] at e
        cases e
        obtain ⟨u, k0, k1, k2, hb, h1⟩ := hc _ (Kp.refl _ _) i x hx
        obtain ⟨au, cu, hu⟩ := hb.form
        subst hu
        have HU := hid hb
        have HC0 := hid k0
        have hpx : (p.size : Int) ≤ (x.1.size : Int) := by have := HWX.out; omega
        have HXS : Hid (x.1.size ≤ 10000) := HSX.out.1
        clear hx hb hc
        have hbig : ¬ (9223372036854775807 < q.size + (x.1.size - p.size)) := by have := HXS.out; omega
        have HPT := hid (fun W => path_any (q ++ x.1.extract p.size x.1.size) (by have := HXS.out; rw [ByteArray.size_append, ByteArray.size_extract]; omega) W)
        have HLEN : Hid ((os ++ (us.take i).map (mvP p q)).length + 1 ≤ 1000000) := by
          have h1 := List.length_take_le i us
          have h2 := hol.out
          have h3 := hul.out
          have h4 := HN.out
          unfold Hid
          rw [List.length_append, List.length_map]
          omega
        cases hpa : pathB (tx (mvP p q x).1) with
        | false =>
          have hpa' : pathB (q ++ x.1.extract p.size x.1.size).data.toList = false := hpa
          rw [hpa'] at HPT
          have HPA := hid hpa
          clear hpa hpa'
          go_wp2_with (go_at_call 26; refine (HPT.out _).mono ?_; rintro e w3 ⟨rfl, hk⟩; have HK3 := hid (((Kp.refl No _).alloc _).andNone hk); have HB3 := hid ((Blk.new wr 33 [.string (q ++ x.1.extract p.size x.1.size), .bool x.2.1, .slice au x.2.2.length cu]).kp hk (fun h => h)); have b0 := HB3.out.cell 0; have b1 := HB3.out.cell 1; have b2 := HB3.out.cell 2; simp only [List.getElem?_cons_zero, List.getElem?_cons_succ] at b0 b1 b2; clear hk)
          go_ret2
          refine ⟨(10, []), ?_, Chd.no rfl ?_⟩
          · rw [HM.out, if_neg (by
              intro hall
              have := List.all_eq_true.1 hall x (List.mem_of_getElem? HX.out)
              rw [HPA.out] at this
              cases this)]
          exact ((HK.out.andNone HTR.out.k).andNone HK3.out)
        | true =>
          have hpa' : pathB (q ++ x.1.extract p.size x.1.size).data.toList = true := hpa
          rw [hpa'] at HPT
          have HPA := hid hpa
          clear hpa hpa'
          go_wp2_with (first | (go_at_call 26; refine (HPT.out _).mono ?_; rintro e w3 ⟨rfl, hk⟩; have HK3 := hid (((Kp.refl No _).alloc _).andNone hk); have HB3 := hid ((Blk.new wr 33 [.string (q ++ x.1.extract p.size x.1.size), .bool x.2.1, .slice au x.2.2.length cu]).kp hk (fun h => h)); have b0 := HB3.out.cell 0; have b1 := HB3.out.cell 1; have b2 := HB3.out.cell 2; simp only [List.getElem?_cons_zero, List.getElem?_cons_succ] at b0 b1 b2; clear hk) | (at_builtin; refine app_item _ w3 rfl _ _ 27 Tryd.underlying27 rfl _ _ (mvP p q x) (.slice au x.2.2.length cu) rfl rfl rfl (HTR.out.b.kept HK3.out) (HU.out.kp HK3.out (fun _ h => h.elim)) rfl (by have := HLEN.out; omega) ?_; intro ad cap2 w4 hown hg hbk))
          have HTN := hid ((HTR.out.swap.push (HK3.out.andNone ((Kp.refl No _).alloc _)) hg hown hbk).swap)
          have elen : (os ++ (us.take i).map (mvP p q)).length + 1 = os.length + min i us.length + 1 := by simp
          rw [elen] at HTN
          clear hown hg hbk elen
          go_roundw
          case rel => exact ⟨i + 1, ad, _, cap2, rfl, by go_num, by omega, by
            rw [Hid, take_next HX.out, List.map_append, ← List.append_assoc, List.map_cons, List.map_nil]
            exact HTN.out, by
            rw [Hid, take_next HX.out, List.all_append, HALL.out]
            simpa using HPA.out⟩
          case measure => simp [intOf] <;> omega
      · have hltI : ¬ (i : Int) < (n : Int) := by omega
        have ei : us.take i = us := List.take_of_length_le (by have := HN.out; omega)
        rw [ei] at HTR HALL
        have HSO2 := hid (sort_own wr (.slice a1 n1 c1) (os ++ us.map (mvP p q)) HTR.out.b (by have := HNE.out; simp [this]) (by rw [List.length_append, List.length_map]; have := hul.out; have := hol.out; omega))
        clear ei
        go_wp2_with (go_at_call 27; refine HSO2.out.mono ?_; rintro e w4 ⟨rfl, zs, hz1, hz2, ho, hk⟩; have HZ := hid (And.intro hz1 hz2); have HO := hid ho; have HK4 := hid hk; clear ho hk hz1 hz2)
        go_ret2
        refine ⟨(0, zs), ?_, ?_⟩
        · rw [HM.out, if_pos HALL.out]
          exact ⟨zs, HZ.out.1, HZ.out.2, rfl⟩
        exact Chd.mk _ rfl HO.out (fun b e => Nat.le_trans HK.out.size (HTR.out.lb b e)) (HK.out.andNone (HTR.out.k.trans HK4.out (fun b e => .inr (HTR.out.lb b e))))
  · simp only [if_neg hf] at HM
    have hf' : (staysF t p q != 0) = true := by simpa using hf
    generalize staysF t p q = f at *
    clear hf
    go_enter Tryd.func11, Tryd.ntmps11
    go_wp2_with (go_at_call 24; refine HS.out.mono ?_; rintro e w1 ⟨rfl, hk⟩; have HK := hid hk; clear hk)
    go_ret2
    exact ⟨(f, []), by rw [HM.out], Chd.no rfl HK.out⟩

end Go.Proofs.YtdooiflmjeibdaaDoor.Tr
