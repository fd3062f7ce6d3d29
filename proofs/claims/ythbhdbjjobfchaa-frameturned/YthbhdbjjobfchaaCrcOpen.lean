/-
  What Open and the reference's Open do.
-/
import Derived.Test.YthbhdbjjobfchaaCrcApp
import Derived.Deep.DeepCutAuto
import Derived.Laws.Cover3
import Derived.Deep.RegionWith
namespace Go.Proofs.Ythbhdbjjobfchaa.Crc
open Go.RowKit

/-- Four bytes held against four. -/
theorem eq62 (a b c d a' b' c' d' : Int) (w : World) : (Op.equalIn 10000 116 (.agg #[.int .u8 a, .int .u8 b, .int .u8 c, .int .u8 d]) (.agg #[.int .u8 a', .int .u8 b', .int .u8 c', .int .u8 d'])).run Try.prog w = .ok (a == a' && b == b' && c == c' && d == d') w := by
  have u5 := Try.underlying5
  have a5 := Try.isAgg5
  have z5 := Try.sizeOf5
  rw [show (10000 : Nat) = 9999 + 1 from rfl, Op.equalIn]
  simp only [Sem.run_bind, run_underlying Try.underlying116, Result.andThen_ok]
  simp only [Std.Legacy.Range.forIn_eq_forIn_range', Std.Legacy.Range.size, Nat.sub_zero, Nat.add_sub_cancel, Nat.div_one, List.range'_succ, List.range'_zero, List.forIn_cons, List.forIn_nil]
  go_simp
  by_cases h1 : a = a' <;> by_cases h2 : b = b' <;> by_cases h3 : c = c' <;> by_cases h4 : d = d' <;> simp [h1, h2, h3, h4]

theorem BySl.take {b : Nat} {w : World} {a : Option Addr} {cap k : Nat} {bs : List Nat} (h : BySl b w (.slice a bs.length cap) bs) (hk : k ≤ bs.length) : BySl b w (.slice a k cap) (bs.take k) := by
  obtain ⟨a', cap', e, h2, h3, h4, h5, h6, h7⟩ := h
  cases e
  have hl : (bs.take k).length = k := List.length_take_of_le hk
  refine ⟨a, cap, by rw [hl], by omega, h3, fun e => ⟨by rw [(h4 e).1]; simp, (h4 e).2⟩, by omega, fun x hx => h6 x (List.mem_of_mem_take hx), fun hne => ?_⟩
  obtain ⟨g, o, e, hgb, hg, hc⟩ := h7 (by intro e; subst e; simp at hne)
  refine ⟨g, o, e, hgb, hg, fun i hi => ?_⟩
  rw [hl] at hi
  rw [hc i (by omega)]
  simp [hi]

set_option maxHeartbeats 400000 in
theorem open_short (b : Nat) (v : Value) (bs : List Nat) (w : World) (h : BySl b w v bs) (hl : bs.length < 4) :
    Calls Try.prog 35 #[.pointer (some ⟨b, 0, none⟩), v] w fun e w' => e = .returned (.tuple #[.slice none 0 0, .int .i64 3]) ∧ w' = w := by
  obtain ⟨a, cap, rfl, r⟩ := h
  clear r
  go_enter Try.func35, Try.ntmps35
  go_wp2_with fail
  go_ret2
  exact ⟨rfl, rfl⟩

set_option maxHeartbeats 2000000 in
set_option maxRecDepth 100000 in
theorem open_any (b f : Nat) (n : Int) (v : Value) (xs : List Nat) (y0 y1 y2 y3 : Nat) (w : World) (hf : f = 0 ∨ f = 1) (ht : Tab w b f n) (h : BySl b w v (xs ++ [y0, y1, y2, y3])) (hl : xs.length ≤ 80000) :
    Calls Try.prog 35 #[.pointer (some ⟨b, 0, none⟩), v] w fun e w' => Kept b w w' ∧ Tab w' b 1 (wrap64 (n + xs.length)) ∧
      ∃ v' q, e = .returned (.tuple #[v', .int .i64 q]) ∧ ((le4 (more 0 xs) = [y0, y1, y2, y3] ∧ q = 0 ∧ BySl b w' v' xs) ∨ (le4 (more 0 xs) ≠ [y0, y1, y2, y3] ∧ q = 4 ∧ v' = .slice none 0 0)) := by
  have H := hid h
  have T := hid ht
  obtain ⟨a, cap, rfl, h2, h3, h4, h5, h6, h7⟩ := h
  obtain ⟨g, o, rfl, hgb, hg, hc⟩ := h7 (by simp)
  have hN : (xs ++ [y0, y1, y2, y3]).length = xs.length + 4 := by simp
  have hat : ∀ i, (xs ++ [y0, y1, y2, y3]).getD (xs.length + i) 0 = [y0, y1, y2, y3].getD i 0 := fun i => by simp [List.getElem?_append_right]
  have k0 := hc (xs.length + 0) (by omega)
  have k1 := hc (xs.length + 1) (by omega)
  have k2 := hc (xs.length + 2) (by omega)
  have k3 := hc (xs.length + 3) (by omega)
  rw [hat] at k0 k1 k2 k3
  simp only [List.getD_cons_zero, List.getD_cons_succ, Nat.add_zero, ← Nat.add_assoc] at k0 k1 k2 k3
  have H1 : Hid (BySl b w (.slice (some ⟨g, o, none⟩) xs.length cap) xs) := by
    have := BySl.take H.out (k := xs.length) (by omega)
    rw [List.take_left' rfl] at this
    exact this
  rw [hN] at H h2 ⊢
  obtain ⟨N, hN2⟩ : ∃ N, xs.length = N := ⟨_, rfl⟩
  have HN := hid hN2
  rw [hN2] at H h2 k0 k1 k2 k3 hl H1 ⊢
  have hm := more_lt 0 xs
  obtain ⟨s, hs⟩ : ∃ s, more 0 xs = s := ⟨_, rfl⟩
  have HS := hid hs
  rw [hs] at hm ⊢
  clear hs hN2 hat hc h7 h6 h4 h5 hN ht
  unfold maxLen at h3
  go_enter Try.func35, Try.ntmps35
  go_upto_region 6 with fail
  have hcN : ¬ cap = N := by omega
  have c12 : Hid (Calls Try.prog 46 #[.pointer (some ⟨b, 0, none⟩), .slice (some ⟨g, o, none⟩) N cap] w.drew fun e w1 => e = .returned (.int .u32 (s : Nat)) ∧ Hid (Kept b w w1) ∧ Hid (Tab w1 b 1 (wrap64 (n + N))) ∧ g < w1.heap.size ∧
      w1.cell? ⟨g, o + N, none⟩ = some (.int .u8 (y0 : Nat)) ∧ w1.cell? ⟨g, o + N + 1, none⟩ = some (.int .u8 (y1 : Nat)) ∧ w1.cell? ⟨g, o + N + 2, none⟩ = some (.int .u8 (y2 : Nat)) ∧ w1.cell? ⟨g, o + N + 3, none⟩ = some (.int .u8 (y3 : Nat))) := by
    have h := sum_any b f n (.slice (some ⟨g, o, none⟩) N cap) xs w.drew hf T.out H1.out
    refine h.mono ?_
    rw [HS.out, HN.out]
    rintro e w1 ⟨rfl, hk0, ht1⟩
    have hk1 : Kept b w w1 := ((Kept.refl b w).drew).trans hk0
    exact ⟨rfl, hk1, ht1, Nat.lt_of_lt_of_le hg hk1.size, (hk1.cell (p := ⟨g, o + N, none⟩) hg hgb).trans k0, (hk1.cell (p := ⟨g, o + N + 1, none⟩) hg hgb).trans k1, (hk1.cell (p := ⟨g, o + N + 2, none⟩) hg hgb).trans k2, (hk1.cell (p := ⟨g, o + N + 3, none⟩) hg hgb).trans k3⟩
  have c22 : Hid (∀ w1 : World, g < w1.heap.size → w1.cell? ⟨g, o + N, none⟩ = some (.int .u8 (y0 : Nat)) → w1.cell? ⟨g, o + N + 1, none⟩ = some (.int .u8 (y1 : Nat)) → w1.cell? ⟨g, o + N + 2, none⟩ = some (.int .u8 (y2 : Nat)) → w1.cell? ⟨g, o + N + 3, none⟩ = some (.int .u8 (y3 : Nat)) →
      Calls Try.prog 45 #[.int .u32 s] w1 fun e w2 => e = .returned (.agg #[.int .u8 ((s : Int) % 256), .int .u8 ((s : Int) / 256 % 256), .int .u8 ((s : Int) / 65536 % 256), .int .u8 ((s : Int) / 16777216)]) ∧ Hid (Below w1.heap.size w1 w2) ∧
        w2.cell? ⟨g, o + N, none⟩ = some (.int .u8 (y0 : Nat)) ∧ w2.cell? ⟨g, o + N + 1, none⟩ = some (.int .u8 (y1 : Nat)) ∧ w2.cell? ⟨g, o + N + 2, none⟩ = some (.int .u8 (y2 : Nat)) ∧ w2.cell? ⟨g, o + N + 3, none⟩ = some (.int .u8 (y3 : Nat))) := by
    intro w1 hg1 d0 d1 d2 d3
    refine (sumBytes_any s hm w1).mono ?_
    rintro e w2 ⟨rfl, hb⟩
    exact ⟨rfl, hb, (hb.cell (p := ⟨g, o + N, none⟩) hg1).trans d0, (hb.cell (p := ⟨g, o + N + 1, none⟩) hg1).trans d1, (hb.cell (p := ⟨g, o + N + 2, none⟩) hg1).trans d2, (hb.cell (p := ⟨g, o + N + 3, none⟩) hg1).trans d3⟩
  have hat : ∀ w, (Instr.arrayAt 116 (.slice (some ⟨g, o + N, none⟩) 4 (cap - N))).run Try.prog w = .ok (.pointer (some ⟨g, o + N, none⟩)) w := fun w => run_arrayAt w 116 5 4 _ 4 _ Try.underlying116 (Nat.le_refl _)
  have heq := fun w => eq62 ((s : Int) % 256) ((s : Int) / 256 % 256) ((s : Int) / 65536 % 256) ((s : Int) / 16777216) y0 y1 y2 y3 w
  have hE : Hid (((s : Int) % 256 == (y0 : Int) && (s : Int) / 256 % 256 == (y1 : Int) && (s : Int) / 65536 % 256 == (y2 : Int) && (s : Int) / 16777216 == (y3 : Int)) = decide (le4 s = [y0, y1, y2, y3])) := by
    rw [Hid, Bool.eq_iff_iff]
    simp [le4]
    omega
  generalize ((s : Int) % 256 == (y0 : Int) && (s : Int) / 256 % 256 == (y1 : Int) && (s : Int) / 65536 % 256 == (y2 : Int) && (s : Int) / 16777216 == (y3 : Int)) = E at heq hE
  go_cut [25] (fun c wx => c = .bool (!E) ∧ Hid (Kept b w wx) ∧ Hid (Tab wx b 1 (wrap64 (n + N))))
  case first =>
    go_region_with (first | (go_at_call 46; refine c12.out.mono ?_; rintro e w1 ⟨rfl, HK1, HT1, hg1, d0, d1, d2, d3⟩) | (go_at_call 45; refine (c22.out w1 hg1 d0 d1 d2 d3).mono ?_; rintro e w2 ⟨rfl, HB2, e0, e1, e2, e3⟩))
    all_goals (go_wp2_with fail; go_meet; exact ⟨rfl, HK1.out.trans (Kept.below HB2.out), HT1.out.below HB2.out⟩)
  case rest =>
    obtain ⟨rfl, HK, HT⟩ := hcut
    clear c12 c22 heq hat k0 k1 k2 k3
    cases E
    · go_wp2_with fail
      go_ret2
      exact ⟨HK.out, HT.out, _, _, rfl, .inr ⟨of_decide_eq_false hE.out.symm, rfl, rfl⟩⟩
    · go_wp2_with fail
      have hkb := HK.out
      refine (clone_any b _ xs _ HT.out.1 (H1.out.kept hkb) (by rw [HN.out]; omega)).mono ?_
      rintro e w3 ⟨v', rfl, hv, hb3⟩
      have HV := hid hv
      have HB3 := hid hb3
      clear hv hb3 hkb
      go_wp2_with fail
      go_ret2
      exact ⟨HK.out.trans (Kept.below HB3.out), HT.out.below HB3.out, _, _, rfl, .inl ⟨of_decide_eq_true hE.out.symm, rfl, HV.out⟩⟩

end Go.Proofs.Ythbhdbjjobfchaa.Crc
