/-
  Bytes go into a stream: take, walked.
-/
import Derived.Test.YtbmdnjmdehmahaaTakeR
namespace Go.Proofs.Ytbmdnjmdehmahaa
open Go.RowKit

theorem over_getD_left {rest x : List Nat} {h j : Nat} (hj : j < h) (hl : h ≤ rest.length ∨ j < rest.length) : (over rest h x).getD j 0 = rest.getD j 0 := by
  rw [over, List.append_assoc, List.getD_eq_getElem?_getD, List.getD_eq_getElem?_getD]
  by_cases e : j < rest.length
  · rw [List.getElem?_append_left (by simp; omega), List.getElem?_take_of_lt hj]
  · omega
theorem over_getD_mid {rest x : List Nat} {h j : Nat} (hh : h ≤ rest.length) (hj : h ≤ j) (hl : j < h + x.length) : (over rest h x).getD j 0 = x.getD (j - h) 0 := by
  rw [over, List.append_assoc, List.getD_eq_getElem?_getD, List.getD_eq_getElem?_getD, List.getElem?_append_right (by simp; omega), List.getElem?_append_left (by simp; omega)]
  congr 3
  simp
  omega
theorem over_getD_right {rest x : List Nat} {h j : Nat} (hh : h ≤ rest.length) (hj : h + x.length ≤ j) : (over rest h x).getD j 0 = rest.getD j 0 := by
  rw [over, List.getD_eq_getElem?_getD, List.getD_eq_getElem?_getD, List.getElem?_append_right (by simp; omega), List.getElem?_drop]
  congr 2
  simp
  omega
theorem size_setCells' (b : Nat) : ∀ (vs : List Value) (o : Nat) (w : World), (w.setCells b o vs).heap.size = w.heap.size
  | [], _, _ => rfl
  | v :: r, o, w => by rw [World.setCells, size_setCells' b r]; simp

/-- A new state is laid into a stream. -/
theorem Str.set8 {w : World} {g b : Nat} {st rest : List Nat} {size : Nat} (h : Str w g b st rest size) (t0 t1 t2 t3 t4 t5 t6 t7 : Nat) (hw : Words [t0, t1, t2, t3, t4, t5, t6, t7]) :
    Str ((((((((w.setCell ⟨g, 1, none⟩ (.int .u32 (t0 : Int))).setCell ⟨g, 2, none⟩ (.int .u32 (t1 : Int))).setCell ⟨g, 3, none⟩ (.int .u32 (t2 : Int))).setCell ⟨g, 4, none⟩ (.int .u32 (t3 : Int))).setCell ⟨g, 5, none⟩ (.int .u32 (t4 : Int))).setCell ⟨g, 6, none⟩ (.int .u32 (t5 : Int))).setCell ⟨g, 7, none⟩ (.int .u32 (t6 : Int))).setCell ⟨g, 8, none⟩ (.int .u32 (t7 : Int))) g b [t0, t1, t2, t3, t4, t5, t6, t7] rest size := by
  obtain ⟨h1, h2, h3, h4, h5, h6, h7, h8, h9, h10⟩ := h
  have hth : w.there g 1 (u32s [t0, t1, t2, t3, t4, t5, t6, t7]).length := fun j hj => by
    have hj8 : j < 8 := hj
    exact ⟨by rw [h3 j (by rw [h7]; exact hj8)]; rfl, h6 _⟩
  have hout : ∀ j, j < 1 ∨ 9 ≤ j → (w.setCells g 1 (u32s [t0, t1, t2, t3, t4, t5, t6, t7])).cell? ⟨g, j, none⟩ = w.cell? ⟨g, j, none⟩ := fun j hj => World.cell?_setCells_out g _ _ w ⟨g, j, none⟩ (fun _ _ => hj)
  have hx : Str (w.setCells g 1 (u32s [t0, t1, t2, t3, t4, t5, t6, t7])) g b [t0, t1, t2, t3, t4, t5, t6, t7] rest size :=
    ⟨by rw [size_setCells']; exact h1, (hout 0 (by omega)).trans h2, WordsAt.of_range (World.rangeAt_setCells_same w g 1 _ hth), fun j hj => (hout _ (by omega)).trans (h4 j hj), (hout 73 (by omega)).trans h5, fun j => by rw [World.frozen?_setCells]; exact h6 j, rfl, hw, h9, h10⟩
  exact hx
theorem Kp.set8' {l : List Nat} {u w : World} (h : Kp l u w) {g : Nat} (hg : g ∈ l) (t0 t1 t2 t3 t4 t5 t6 t7 : Nat) : Kp l u ((((((((w.setCell ⟨g, 1, none⟩ (.int .u32 (t0 : Int))).setCell ⟨g, 2, none⟩ (.int .u32 (t1 : Int))).setCell ⟨g, 3, none⟩ (.int .u32 (t2 : Int))).setCell ⟨g, 4, none⟩ (.int .u32 (t3 : Int))).setCell ⟨g, 5, none⟩ (.int .u32 (t4 : Int))).setCell ⟨g, 6, none⟩ (.int .u32 (t5 : Int))).setCell ⟨g, 7, none⟩ (.int .u32 (t6 : Int))).setCell ⟨g, 8, none⟩ (.int .u32 (t7 : Int))) :=
  h.setCells (.inl hg) (u32s [t0, t1, t2, t3, t4, t5, t6, t7]) 1

set_option maxHeartbeats 4000000 in
set_option maxRecDepth 100000 in
theorem take_some (g b f gs os L cap : Nat) (n : Int) (p bs : List Nat) (w : World) (hf : f = 0 ∨ f = 1) (he : Eng w b f n) (hst : StrOf w g b p) (hgb : g ≠ b) (hL : bs.length = L) (hcap : L ≤ cap) (hcm : cap ≤ 9223372036854775807) (hbw : ∀ x ∈ bs, x < 256) (hsg : gs ≠ g) (hsb : gs ≠ b) (hgs : gs < w.heap.size) (hby : BytesAt w gs os bs)
    (hlen : p.length + L ≤ 1125899906842624) (hn0 : 0 ≤ n) (hn1 : n + L < 2305843009213693952) :
    Calls Try.prog 31 #[.pointer (some ⟨g, 0, none⟩), .slice (some ⟨gs, os, none⟩) L cap] w fun e w' => e = .returned (.tuple #[]) ∧ Kp [b, g] w w' ∧ StrOf w' g b (p ++ bs) ∧ ∃ f', (f' = 0 ∨ f' = 1) ∧ Eng w' b f' (n + (((p ++ bs).length / 64 - p.length / 64 : Nat) : Int)) := by
  have HE := hid he
  have HST := hid hst
  have HL := hid hL
  have HBW := hid hbw
  have HBY := hid hby
  clear he hst hL hbw hby
  go_enter Try.func31, Try.ntmps31
  go_wp2_with fail
  go_loopw [1] (fun s wr => ∃ (k f' : Nat) (A : Option Addr), s = .slice A (L - k) (cap - k) ∧ k ≤ L ∧ Hid (k < L → A = some ⟨gs, os + k, none⟩) ∧ Hid ((f' = 0 ∨ f' = 1) ∧ Kp [b, g] w wr ∧ StrOf wr g b (p ++ bs.take k) ∧ Eng wr b f' (n + (((p ++ bs.take k).length / 64 - p.length / 64 : Nat) : Int)))) (fun s _ => match s with | .slice _ l _ => l | _ => 0)
  case atStart =>
    refine ⟨0, f, _, rfl, by omega, fun _ => rfl, hf, Kp.refl _ _, ?_, ?_⟩
    · rw [List.take_zero, List.append_nil]; exact HST.out
    · rw [List.take_zero, List.append_nil, Nat.sub_self]; simpa using HE.out
  case round =>
    obtain ⟨k, f', A, rfl, hk, HA, HI⟩ := hrel
    by_cases hlt : k < L
    · have hA := HA.out hlt
      subst hA
      clear HA
      as_aux_lemma =>
        obtain ⟨hf', hkp, ⟨rest, hstr, hrest⟩, heng⟩ := HI.out
        have HF := hid hf'
        have HKP := hid hkp
        have HSTR := hid hstr
        have HRE := hid hrest
        have HENG := hid heng
        clear hf' hkp heng hrest HI
        have hpl : Hid ((p ++ bs.take k).length = p.length + k) := by rw [Hid, List.length_append, List.length_take, HL.out, Nat.min_eq_left hk]
        obtain ⟨q, hq⟩ : ∃ q, p ++ bs.take k = q := ⟨_, rfl⟩
        have HQ := hid hq
        rw [hq] at HSTR HRE HENG hpl hstr
        clear hq
        obtain ⟨Q, hQ⟩ : ∃ Q, q.length = Q := ⟨_, rfl⟩
        have HQL := hid hQ
        have HQK : Hid (Q = p.length + k) := by rw [Hid, ← hQ]; exact hpl.out
        have hQ50 : Q ≤ 1125899906842624 := by have := HQK.out; omega
        rw [hQ] at hstr
        have c73 := hstr.2.2.2.2.1
        have fz := hstr.2.2.2.2.2.1
        have f73 := fz 73
        clear hQ hstr
        -- how many bytes go over
        obtain ⟨N, hN⟩ : ∃ N, min (L - k) (64 - Q % 64) = N := ⟨_, rfl⟩
        have hN0 : 0 < N := by omega
        have hNL : N ≤ L - k := by omega
        have hN64 : Q % 64 + N ≤ 64 := by omega
        have hpos : (0 : Int) < (L : Int) - (k : Int) := by omega
        obtain ⟨x, hx⟩ : ∃ x, (bs.drop k).take N = x := ⟨_, rfl⟩
        have hxl : Hid (x.length = N) := by rw [Hid, ← hx, List.length_take, List.length_drop, HL.out]; omega
        have HX : Hid (bs.take (k + N) = bs.take k ++ x) := by rw [Hid, ← hx, List.take_add]
        have HXD : Hid (∀ j, j < N → bs.getD (k + j) 0 = x.getD j 0) := by
          intro j hj
          rw [← hx, List.getD_eq_getElem?_getD, List.getD_eq_getElem?_getD, List.getElem?_take_of_lt hj, List.getElem?_drop]
        have HN : Hid (min (L - k) (64 - Q % 64) = N) := hN
        have hxw : Hid (∀ y ∈ x, y < 256) := by
          intro y hy
          rw [← hx] at hy
          exact HBW.out y (List.mem_of_mem_drop (List.mem_of_mem_take hy))
        have qa : (0 : Int) ≤ (Q : Int) % 64 := by omega
        have qb : (Q : Int) % 64 < 64 := by omega
        have qc : ((Q : Int) % 64).toNat = Q % 64 := by omega
        have hd8 : decide (0 < L - k) = true := by simp; omega
        have qd : (Q : Int) % 64 ≤ 64 := by omega
        have qe : ¬ (64 = Q % 64) := by omega
        clear hx hN
        have hsrc : Hid (∀ j v, (u8s x)[j]? = some v → wr.cell? ((⟨gs, os + k, none⟩ : Addr).add j) = some v) := by
          intro j v hj
          have hjx : j < x.length := by have := (List.getElem?_eq_some_iff.1 hj).1; rwa [u8s_length] at this
          have hjN : j < N := by rw [← hxl.out]; exact hjx
          rw [Addr.add_mid, Nat.add_assoc, HKP.out.cell (p := ⟨gs, os + (k + j), none⟩) hgs (by simp; omega), HBY.out (k + j) (by rw [HL.out]; omega), ← hj, u8s_at x j hjx, HXD.out j hjN]
        have hth : Hid (wr.there g (9 + Q % 64) (u8s x).length) := by
          intro j hj
          rw [u8s_length, hxl.out] at hj
          have h := HSTR.out.2.2.2.1 (Q % 64 + j) (by rw [HSTR.out.2.2.2.2.2.2.2.2.1]; omega)
          rw [← Nat.add_assoc] at h
          exact ⟨by rw [h]; rfl, fz _⟩
        have hmin : Hid ((u8s x).length = Nat.min (L - k) (64 - Q % 64)) := by rw [Hid, u8s_length, hxl.out]; exact HN.out.symm
        have hul : Hid ((u8s x).length = N) := by rw [Hid, u8s_length, hxl.out]
        obtain ⟨xs, hxs⟩ : ∃ xs, u8s x = xs := ⟨_, rfl⟩
        have HXS := hid hxs
        have H1 : Hid (∀ v ∈ xs, v.oneCell' = true) := by rw [Hid, ← hxs]; exact u8s_one x
        rw [hxs] at hsrc hth hmin hul
        clear hxs
        obtain ⟨wy, hwy⟩ : ∃ wy, wr.setCells g (9 + Q % 64) xs = wy := ⟨_, rfl⟩
        have cy73 : wy.cell? ⟨g, 73, none⟩ = some (.int .i64 (Q : Int)) := by
          rw [← hwy, World.cell?_setCells_out g xs _ wr ⟨g, 73, none⟩ (fun _ _ => by right; rw [hul.out]; show 9 + Q % 64 + N ≤ 73; omega)]
          exact c73
        have fy73 : wy.frozen? ⟨g, 73, none⟩ = false := by rw [← hwy, World.frozen?_setCells]; exact f73
        have HWY := hid hwy
        clear hwy
        obtain ⟨A2, hA2⟩ : ∃ A2, (if cap - k = N then some (⟨gs, os + k, none⟩ : Addr) else some ⟨gs, os + k + N, none⟩) = A2 := ⟨_, rfl⟩
        have HA2 : Hid (k + N < L → A2 = some ⟨gs, os + (k + N), none⟩) := by
          intro h
          rw [← hA2, if_neg (by omega), Nat.add_assoc]
        -- the world behind the copy and the count
        have HSTR2 : Hid (Str (wy.setCell ⟨g, 73, none⟩ (.int .i64 ((Q + N : Nat) : Int))) g b (blks (q.length / 64) first8 q) (over rest (Q % 64) x) (Q + N)) := by
          obtain ⟨s1, s2, s3, s4, s5, s6, s7, s8, s9, s10⟩ := HSTR.out
          have hout : ∀ j, j < 9 + Q % 64 ∨ 9 + Q % 64 + N ≤ j → wy.cell? ⟨g, j, none⟩ = wr.cell? ⟨g, j, none⟩ := fun j hj => by
            rw [← HWY.out, World.cell?_setCells_out g xs _ wr ⟨g, j, none⟩ (fun _ _ => by rw [hul.out]; exact hj)]
          have hin : ∀ j, j < N → wy.cell? ⟨g, 9 + Q % 64 + j, none⟩ = some (.int .u8 ((x.getD j 0 : Nat) : Int)) := fun j hj => by
            rw [← HWY.out]
            refine World.rangeAt_setCells_same wr g (9 + Q % 64) xs hth.out j _ ?_
            rw [← HXS.out]
            exact u8s_at x j (by rw [hxl.out]; exact hj)
          have hoo : ∀ j, j ≠ 73 → (wy.setCell ⟨g, 73, none⟩ (.int .i64 ((Q + N : Nat) : Int))).cell? ⟨g, j, none⟩ = wy.cell? ⟨g, j, none⟩ := fun j hj => cell_set _ _ _ _ _ hj
          have hsz : wy.heap.size = wr.heap.size := by rw [← HWY.out]; exact size_setCells' _ _ _ _
          refine ⟨by simp [hsz]; exact s1, (hoo 0 (by omega)).trans ((hout 0 (by omega)).trans s2), fun j hj => ?_, fun j hj => ?_, World.cell?_setCell_same _ _ _ cy73, fun j => by rw [World.frozen?_setCell, ← HWY.out, World.frozen?_setCells]; exact s6 j, s7, s8, over_length s9 (by rw [hxl.out]; exact hN64), over_lt s10 hxw.out⟩
          · rw [s7] at hj
            rw [hoo _ (by omega), hout _ (by omega)]
            exact s3 j (by rw [s7]; exact hj)
          · rw [over_length s9 (by rw [hxl.out]; exact hN64)] at hj
            rw [hoo _ (by omega)]
            by_cases h1 : j < Q % 64
            · rw [hout _ (by omega), s4 j (by rw [s9]; exact hj), over_getD_left h1 (by omega)]
            · by_cases h2 : j < Q % 64 + N
              · have h := hin (j - Q % 64) (by omega)
                rw [show 9 + Q % 64 + (j - Q % 64) = 9 + j by omega] at h
                rw [h, over_getD_mid (by omega) (by omega) (by rw [hxl.out]; omega)]
              · rw [hout _ (by omega), s4 j (by rw [s9]; exact hj), over_getD_right (by omega) (by rw [hxl.out]; omega)]
        have HKP2 : Hid (Kp [b, g] w (wy.setCell ⟨g, 73, none⟩ (.int .i64 ((Q + N : Nat) : Int)))) := by
          rw [Hid, ← HWY.out]
          exact (HKP.out.setCells (.inl (by simp)) _ _).setCell (p := ⟨g, 73, none⟩) (.inl (by simp)) _
        have HENG2 : Hid (Eng (wy.setCell ⟨g, 73, none⟩ (.int .i64 ((Q + N : Nat) : Int))) b f' (n + ((q.length / 64 - p.length / 64 : Nat) : Int))) := by
          rw [Hid, ← HWY.out]
          exact HENG.out.kept (l := [g]) (((Kp.refl _ _).setCells (.inl (by simp)) _ _).setCell (p := ⟨g, 73, none⟩) (.inl (by simp)) _) (by simp; omega)
        have HQN : Hid (p ++ bs.take (k + N) = q ++ x) := by rw [Hid, HX.out, ← List.append_assoc, HQ.out]
        by_cases hfull : Q % 64 + N = 64
        · as_aux_lemma =>
            have hb64 : ((Q : Int) % 64 + (N : Int) == 64) = true := by simp; omega
            go_upto_region 6 with (refine wpList_copy_mid (by rfl) _ _ 28 28 (by rfl) 5 Try.underlying28 Try.info5 g (9 + Q % 64) (64 - Q % 64) (64 - Q % 64) ⟨gs, os + k, none⟩ (L - k) (cap - k) (by rfl) (by rfl) xs ?hn ?hsrc ?ht H1.out ?_; (case hn => exact hmin.out); (case hsrc => exact hsrc.out); (case ht => exact hth.out); rw [hul.out, HWY.out])
            have hql : q.length % 64 = Q % 64 := by rw [HQL.out]
            obtain ⟨e1, e2, e3, e4⟩ := piece_full q x rest HSTR.out.2.2.2.2.2.2.2.2.1 HRE.out (by rw [hql, hxl.out]; exact hfull)
            have HP : Hid (blks ((q ++ x).length / 64) first8 (q ++ x) = blk (blks (q.length / 64) first8 q) (over rest (Q % 64) x) ∧ (q ++ x).length % 64 = 0 ∧ (q ++ x).drop (64 * ((q ++ x).length / 64)) = [] ∧ (q ++ x).length / 64 = q.length / 64 + 1) := ⟨by rw [e1, hql], e2, e3, e4⟩
            clear e1 e2 e3 e4 hql
            rw [Int.natCast_add] at HSTR2 HKP2 HENG2
            clear HSTR HKP HENG c73 fz f73 hsrc hth hmin hul HXS H1 HXD hxw cy73 fy73
            obtain ⟨W6, hW6⟩ : ∃ W6, wy.setCell ⟨g, 73, none⟩ (.int .i64 ((Q : Int) + (N : Int))) = W6 := ⟨_, rfl⟩
            rw [hW6] at HSTR2 HKP2 HENG2 ⊢
            clear hW6 HWY
            obtain ⟨n2, hn2⟩ : ∃ n2, n + ((q.length / 64 - p.length / 64 : Nat) : Int) = n2 := ⟨_, rfl⟩
            have HN2 := hid hn2
            have hn2a : 0 ≤ n2 ∧ n2 < 4611686018427387904 := by
              have h1 := HQL.out
              have h2 := HQK.out
              rw [← hn2, h1]
              omega
            rw [hn2] at HENG2
            clear hn2
            obtain ⟨ov, hov⟩ : ∃ ov, over rest (Q % 64) x = ov := ⟨_, rfl⟩
            rw [hov] at HSTR2 HP
            obtain ⟨s0, s1, s2, s3, s4, s5, s6, s7, hst⟩ := eight (blks (q.length / 64) first8 q) HSTR2.out.2.2.2.2.2.2.1
            rw [hst] at HSTR2 HP
            obtain ⟨t0, t1, t2, t3, t4, t5, t6, t7, htt⟩ := eight (blk [s0, s1, s2, s3, s4, s5, s6, s7] ov) (addW_length _ _)
            have HTW : Hid (Words [t0, t1, t2, t3, t4, t5, t6, t7]) := by rw [Hid, ← htt]; exact addW_words _ _
            rw [htt] at HP
            have HRND : Hid (Calls Try.prog 28 #[.pointer (some ⟨b, 0, none⟩), .agg #[.int .u32 (s0 : Int), .int .u32 (s1 : Int), .int .u32 (s2 : Int), .int .u32 (s3 : Int), .int .u32 (s4 : Int), .int .u32 (s5 : Int), .int .u32 (s6 : Int), .int .u32 (s7 : Int)], .pointer (some ⟨g, 9, none⟩)] W6.drew fun e w' => e = .returned (.agg #[.int .u32 (t0 : Int), .int .u32 (t1 : Int), .int .u32 (t2 : Int), .int .u32 (t3 : Int), .int .u32 (t4 : Int), .int .u32 (t5 : Int), .int .u32 (t6 : Int), .int .u32 (t7 : Int)]) ∧ Kp [b] W6.drew w' ∧ Eng w' b 1 (n2 + 1)) := by
              have hS := HSTR2.out
              have h := round_any [s0, s1, s2, s3, s4, s5, s6, s7] ov b f' g 9 n2 W6.drew HF.out (HENG2.out.below (Below.refl _ _).drew) rfl hS.2.2.2.2.2.2.2.1 hS.2.2.2.2.2.2.2.2.1 hS.2.2.2.2.2.2.2.2.2 (fun j hj => (World.cell?_drew _ _).trans (hS.2.2.2.1 j hj)) hS.1 hgb hn2a.1 hn2a.2
              rw [htt] at h
              exact h
            clear hst htt hov
            have cc : Hid (∀ w', Kp [b] W6 w' → Str w' g b [s0, s1, s2, s3, s4, s5, s6, s7] ov (Q + N)) := fun w' hk => HSTR2.out.kept hk (by simpa using hgb)
            have c0 := HSTR2.out.2.1
            have hw6 := HSTR2.out.2.2.1
            have c1 : W6.cell? ⟨g, 1, none⟩ = some (.int .u32 (s0 : Int)) := hw6 0 (by simp)
            have c2 : W6.cell? ⟨g, 2, none⟩ = some (.int .u32 (s1 : Int)) := hw6 1 (by simp)
            have c3 : W6.cell? ⟨g, 3, none⟩ = some (.int .u32 (s2 : Int)) := hw6 2 (by simp)
            have c4 : W6.cell? ⟨g, 4, none⟩ = some (.int .u32 (s3 : Int)) := hw6 3 (by simp)
            have c5 : W6.cell? ⟨g, 5, none⟩ = some (.int .u32 (s4 : Int)) := hw6 4 (by simp)
            have c6 : W6.cell? ⟨g, 6, none⟩ = some (.int .u32 (s5 : Int)) := hw6 5 (by simp)
            have c7 : W6.cell? ⟨g, 7, none⟩ = some (.int .u32 (s6 : Int)) := hw6 6 (by simp)
            have c8 : W6.cell? ⟨g, 8, none⟩ = some (.int .u32 (s7 : Int)) := hw6 7 (by simp)
            clear hw6
            have CX : Hid (∀ w', Kp [b] W6.drew w' → (w'.cell? ⟨g, 1, none⟩ = some (.int .u32 (s0 : Int)) ∧ w'.cell? ⟨g, 2, none⟩ = some (.int .u32 (s1 : Int)) ∧ w'.cell? ⟨g, 3, none⟩ = some (.int .u32 (s2 : Int)) ∧ w'.cell? ⟨g, 4, none⟩ = some (.int .u32 (s3 : Int)) ∧ w'.cell? ⟨g, 5, none⟩ = some (.int .u32 (s4 : Int)) ∧ w'.cell? ⟨g, 6, none⟩ = some (.int .u32 (s5 : Int)) ∧ w'.cell? ⟨g, 7, none⟩ = some (.int .u32 (s6 : Int)) ∧ w'.cell? ⟨g, 8, none⟩ = some (.int .u32 (s7 : Int)) ∧ ∀ j, w'.frozen? ⟨g, j, none⟩ = false)) := by
              intro w' hk
              have hs := cc.out w' ((Kp.refl _ _).drew.trans hk)
              have h3 := hs.2.2.1
              exact ⟨h3 0 (by simp), h3 1 (by simp), h3 2 (by simp), h3 3 (by simp), h3 4 (by simp), h3 5 (by simp), h3 6 (by simp), h3 7 (by simp), hs.2.2.2.2.2.1⟩
            refine take_region (Post := fun w' => Kp [b] W6.drew w' ∧ Eng w' b 1 (n2 + 1)) c0 c1 c2 c3 c4 c5 c6 c7 c8 HRND.out (fun w' h => CX.out w' h.1) ?_
            intro v36 v37 v38 v39 v40 v41 v42 v43 v44 v45 v46 v47 v48 v49 v50 w1 hp
            have HK1 := hid hp.1
            have HE1 := hid hp.2
            clear hp c0 c1 c2 c3 c4 c5 c6 c7 c8 CX HRND
            as_aux_lemma =>
              go_wp2_with fail
              go_roundw
              case rel =>
                refine ⟨k + N, 1, A2, by rw [Nat.sub_sub, Nat.sub_sub], by omega, HA2.out, .inr rfl, ?_, ⟨ov, ?_, ?_⟩, ?_⟩
                · have hk : Kp [b, g] W6.drew w1 := HK1.out.mono (fun x hx => .inl (by simp at hx; simp [hx]))
                  exact Kp.set8' (g := g) (HKP2.out.trans ((Kp.refl _ _).drew.trans hk)) (by simp) _ _ _ _ _ _ _ _
                · rw [HQN.out, HP.out.1, List.length_append, HQL.out, hxl.out]
                  exact (cc.out w1 ((Kp.refl _ _).drew.trans HK1.out)).set8 t0 t1 t2 t3 t4 t5 t6 t7 HTW.out
                · rw [HQN.out, HP.out.2.1, HP.out.2.2.1]
                  rfl
                · rw [HQN.out, HP.out.2.2.2]
                  have h := HE1.out.kept (Kp.set8' (l := [g]) (g := g) (Kp.refl [g] w1) (by simp) t0 t1 t2 t3 t4 t5 t6 t7) (by simp; omega)
                  have hn := HN2.out
                  have e : n2 + 1 = n + ((q.length / 64 + 1 - p.length / 64 : Nat) : Int) := by
                    have h1 := HQL.out
                    have h2 := HQK.out
                    rw [h1] at hn ⊢
                    omega
                  rw [e] at h
                  exact h
              case measure => show L - k - N < L - k; omega
        · as_aux_lemma =>
            have hb64 : ((Q : Int) % 64 + (N : Int) == 64) = false := by simp; omega
            go_wp2_with (refine wpList_copy_mid (by rfl) _ _ 28 28 (by rfl) 5 Try.underlying28 Try.info5 g (9 + Q % 64) (64 - Q % 64) (64 - Q % 64) ⟨gs, os + k, none⟩ (L - k) (cap - k) (by rfl) (by rfl) xs ?hn ?hsrc ?ht H1.out ?_; (case hn => exact hmin.out); (case hsrc => exact hsrc.out); (case ht => exact hth.out); rw [hul.out, HWY.out])
            go_roundw
            case rel =>
              have hql : q.length % 64 = Q % 64 := by rw [HQL.out]
              obtain ⟨e1, e2, e3⟩ := piece_more q x rest HSTR.out.2.2.2.2.2.2.2.2.1 HRE.out (by rw [hql, hxl.out]; omega)
              refine ⟨k + N, f', A2, by rw [Nat.sub_sub, Nat.sub_sub], by omega, HA2.out, HF.out, ?_, ⟨over rest (Q % 64) x, ?_, ?_⟩, ?_⟩
              · have h := HKP2.out
                rwa [Int.natCast_add] at h
              · rw [HQN.out, e1, List.length_append, HQL.out, hxl.out]
                have h := HSTR2.out
                rwa [HQL.out, Int.natCast_add] at h
              · rw [HQN.out, ← e2, hql]
              · rw [HQN.out, e3]
                have h := HENG2.out
                rwa [Int.natCast_add] at h
            case measure => show L - k - N < L - k; omega
    · have hkL : k = L := by omega
      have HZ : Hid (p ++ bs.take k = p ++ bs) := by rw [Hid, List.take_of_length_le (by rw [HL.out]; omega)]
      have hd8 : decide (0 < L - k) = false := by simp; omega
      have HKL := hid hkL
      clear hkL HA
      go_wp2_with fail
      go_end0
      have h := HI.out
      rw [HZ.out] at h
      exact ⟨rfl, h.2.1, h.2.2.1, f', h.1, h.2.2.2⟩
end Go.Proofs.Ytbmdnjmdehmahaa
