/-
  Find and dir, of the document.
-/
import Derived.Test.YtdpnahonidmohaaDoorTrIns
namespace Go.Proofs.YtdpnahonidmohaaDoor.Tr
open Go.RowKit

theorem str_eq (s p : ByteArray) : (s.toList == p.toList) = decide (s = p) := by
  rw [Bool.eq_iff_iff, beq_iff_eq, decide_eq_true_eq, ByteArray.toList_eq, ByteArray.toList_eq, ba_eq]
/-- Up to i there is none of that path. -/
def NoneTo (t : List It) (p : ByteArray) (i : Nat) : Prop := ∀ j y, j < i → t[j]? = some y → y.1 ≠ p
theorem none_step {t : List It} {p : ByteArray} {i : Nat} {x : It} (h : NoneTo t p i) (hx : t[i]? = some x) (hne : x.1 ≠ p) : NoneTo t p (i + 1) := fun j y hj hy => by
  by_cases e : j = i
  · subst e
    rw [hx] at hy
    cases hy
    exact hne
  · exact h j y (by omega) hy
theorem none_look {t : List It} {p : ByteArray} {i : Nat} (h : NoneTo t p i) (hi : t.length ≤ i) : look t p = none := look_none' (fun x hx => by
  obtain ⟨j, hj⟩ := List.mem_iff_getElem?.1 hx
  exact h j x (by have := (List.getElem?_eq_some_iff.1 hj).1; omega) hj)
theorem some_look {t : List It} {p : ByteArray} {i : Nat} {x : It} (h : NoneTo t p i) (hx : t[i]? = some x) (e : x.1 = p) : look t p = some x := by
  have hp : IdxP t (fun x => decide (x.1 = p)) (i : Int) := idx_some hx (by simpa using e) (fun j y hj hy => by simpa using h j y hj hy)
  rcases hp.find with ⟨h1, _⟩ | ⟨i', x', h1, h2, h3⟩
  · omega
  · have : i = i' := by omega
    subst this
    rw [hx] at h2
    cases h2
    exact h3
theorem zero_blk (w : World) (t : TypeId) : ∀ V, Kp No (w.alloc (.cells #[.string ⟨#[]⟩, .bool false, .slice none 0 0] t)) V → Blk V w.heap.size t zeroC := fun _ k => (Blk.new w t zeroC).kp k (fun h => h)

set_option maxHeartbeats 4000000 in
theorem rfind_no (w : World) (v : Value) (t : List It) (p : ByteArray) (h : IRow Any w v t) (hl : t.length ≤ 100000) (hn : look t p = none) :
    Calls Tryd.prog 9 #[v, .string p] w fun e w' => e = .returned (.tuple #[.agg #[.string ⟨#[]⟩, .bool false, .slice none 0 0], .bool false]) ∧ Kp No w w' := by
  have HB0 := hid (zero_blk w 27)
  have HK0 : Hid (Kp No w (w.alloc (.cells #[.string ⟨#[]⟩, .bool false, .slice none 0 0] 27))) := (Kp.refl No w).alloc _
  have hcl := hid (fun (hne : t ≠ []) => h.cells hne)
  obtain ⟨a, cap, rfl, hform⟩ := h.form
  have HNE := hid (look_none hn)
  obtain ⟨n, hN⟩ : ∃ n, t.length = n := ⟨_, rfl⟩
  have HNN := hid hN
  rw [hN] at hl hcl ⊢
  clear h hn hN hform
  have hws : w.heap.size < (w.alloc (.cells #[.string ⟨#[]⟩, .bool false, .slice none 0 0] 27)).heap.size := by simp
  have HWS := hid hws
  clear hws
  go_enter Tryd.func9, Tryd.ntmps9
  go_wp2_with fail
  go_loopw [6] (fun x wr => ∃ i : Nat, x = .int .i64 i ∧ i ≤ n ∧ wr = (w.alloc (.cells #[.string ⟨#[]⟩, .bool false, .slice none 0 0] 27))) (fun x _ => n - (intOf x).toNat)
  case atStart => exact ⟨0, rfl, Nat.zero_le _, rfl⟩
  case round =>
    obtain ⟨i, rfl, hi, rfl⟩ := hrel
    by_cases hlt : i < n
    · have hltI : (i : Int) < (n : Int) := by omega
      obtain ⟨x, hx⟩ : ∃ x, t[i]? = some x := ⟨_, List.getElem?_eq_getElem (by rw [HNN.out]; omega)⟩
      obtain ⟨g, o, c', e, hc⟩ := hcl.out (by rintro rfl; simp at hx)
      cases e
      obtain ⟨u, c0, c1, c2, _⟩ := hc _ HK0.out i x hx
      have hne : (x.1.toList == p.toList) = false := by rw [str_eq]; exact decide_eq_false (HNE.out x (List.mem_of_getElem? hx))
      clear hx hc c1 c2
      go_wp2
      go_roundw
      case rel => exact ⟨i + 1, by go_num, by omega, by first | rfl | trivial⟩
      case measure => simp [intOf] <;> omega
    · have hltI : ¬ (i : Int) < (n : Int) := by omega
      have hB := HB0.out _ (Kp.refl No _)
      obtain ⟨q0, q1, q2⟩ := rets2 _ _ _ _ _ _ hB
      have f0 := hB.frozen 0
      have f1 := hB.frozen 1
      have f2 := hB.frozen 2
      have HW := hid (((hB.setCell 0 (.string ⟨#[]⟩)).setCell 1 (.bool false)).setCell 2 (.slice none 0 0))
      have HKW := hid (Kp.set3 (w.alloc (.cells #[.string ⟨#[]⟩, .bool false, .slice none 0 0] 27)) w.heap.size (.string ⟨#[]⟩) (.bool false) (.slice none 0 0))
      generalize (w.alloc (.cells #[.string ⟨#[]⟩, .bool false, .slice none 0 0] 27)) = W0 at *
      clear hB
      go_wp2
      generalize (((W0.setCell ⟨w.heap.size, 0, none⟩ (.string ⟨#[]⟩)).setCell ⟨w.heap.size, 1, none⟩ (.bool false)).setCell ⟨w.heap.size, 2, none⟩ (.slice none 0 0)) = w9 at *
      obtain ⟨y0, y1, y2⟩ := rets2 _ _ _ _ _ _ HW.out
      clear q0 q1 q2 f0 f1 f2
      exact bodyPost_ret (v := .tuple #[.agg #[.string ⟨#[]⟩, .bool false, .slice none 0 0], .bool false]) (by simp [results, Tryd.results9, go_sem, y0, y1, y2]) rfl ⟨rfl, HK0.out.trans HKW.out (fun b hb => .inr (by omega))⟩

set_option maxHeartbeats 4000000 in
theorem rfind_yes (w : World) (v : Value) (t : List It) (p : ByteArray) (x : It) (h : IRow Any w v t) (hl : t.length ≤ 100000) (hn : look t p = some x) :
    Calls Tryd.prog 9 #[v, .string p] w fun e w' => ∃ u, e = .returned (.tuple #[.agg #[.string x.1, .bool x.2.1, u], .bool true]) ∧ ByP Any w' u x.2.2 ∧ Kp No w w' := by
  have HB0 := hid (zero_blk w 27)
  have HK0 : Hid (Kp No w (w.alloc (.cells #[.string ⟨#[]⟩, .bool false, .slice none 0 0] 27))) := (Kp.refl No w).alloc _
  obtain ⟨g, o, cap, rfl, hc⟩ := h.cells (by rintro rfl; simp [look] at hn)
  have HC := hid hc
  have HSO := hid hn
  obtain ⟨n, hN⟩ : ∃ n, t.length = n := ⟨_, rfl⟩
  have HNN := hid hN
  rw [hN] at hl ⊢
  clear h hn hN hc
  go_enter Tryd.func9, Tryd.ntmps9
  go_wp2_with fail
  go_loopw [6] (fun x wr => ∃ i : Nat, x = .int .i64 i ∧ i ≤ n ∧ Hid (NoneTo t p i) ∧ wr = (w.alloc (.cells #[.string ⟨#[]⟩, .bool false, .slice none 0 0] 27))) (fun x _ => n - (intOf x).toNat)
  case atStart => exact ⟨0, rfl, Nat.zero_le _, fun j y hj => absurd hj (Nat.not_lt_zero _), rfl⟩
  case round =>
    obtain ⟨i, rfl, hi, HT, rfl⟩ := hrel
    by_cases hlt : i < n
    · have hltI : (i : Int) < (n : Int) := by omega
      obtain ⟨y, hy⟩ : ∃ y, t[i]? = some y := ⟨_, List.getElem?_eq_getElem (by rw [HNN.out]; omega)⟩
      obtain ⟨u, c0, c1, c2, hu⟩ := HC.out _ HK0.out i y hy
      have hst := str_eq y.1 p
      by_cases hp : y.1 = p
      · rw [decide_eq_true hp] at hst
        have e := some_look HT.out hy hp
        rw [HSO.out] at e
        cases e
        obtain ⟨au, cu, hau⟩ := hu.form
        subst hau
        have HU := hid hu
        have hB := HB0.out _ (Kp.refl No _)
        obtain ⟨q0, q1, q2⟩ := rets2 _ _ _ _ _ _ hB
        have f0 := hB.frozen 0
        have f1 := hB.frozen 1
        have f2 := hB.frozen 2
        have HW := hid (((hB.setCell 0 (.string x.1)).setCell 1 (.bool x.2.1)).setCell 2 (.slice au x.2.2.length cu))
        have HKW := hid (Kp.set3 (w.alloc (.cells #[.string ⟨#[]⟩, .bool false, .slice none 0 0] 27)) w.heap.size (.string x.1) (.bool x.2.1) (.slice au x.2.2.length cu))
        have HUW : Hid (ByP Any w (.slice au x.2.2.length cu) x.2.2) := by
          obtain ⟨u2, d0, d1, d2, hu2⟩ := HC.out w (Kp.refl _ _) i x hy
          have := (HK0.out.cell (p := ⟨g, o + i * 3 + 2, none⟩) (World.block_lt_of_cell? _ _ d2) (fun h => h)).symm.trans c2
          rw [d2] at this
          cases this
          exact hu2
        generalize (w.alloc (.cells #[.string ⟨#[]⟩, .bool false, .slice none 0 0] 27)) = W0 at *
        clear hB hy hu hp
        go_wp2
        generalize (((W0.setCell ⟨w.heap.size, 0, none⟩ (.string x.1)).setCell ⟨w.heap.size, 1, none⟩ (.bool x.2.1)).setCell ⟨w.heap.size, 2, none⟩ (.slice au x.2.2.length cu)) = w9 at *
        obtain ⟨y0, y1, y2⟩ := rets2 _ _ _ _ _ _ HW.out
        have HE : Hid (Kp No w w9) := HK0.out.trans HKW.out (fun b hb => .inr (by omega))
        clear q0 q1 q2 f0 f1 f2
        exact bodyPost_ret (v := .tuple #[.agg #[.string x.1, .bool x.2.1, .slice au x.2.2.length cu], .bool true]) (by simp [results, Tryd.results9, go_sem, y0, y1, y2]) rfl ⟨_, rfl, HUW.out.kept HE.out, HE.out⟩
      · rw [decide_eq_false hp] at hst
        have HS := hid (none_step HT.out hy hp)
        clear hy c1 c2 hu hp
        go_wp2
        go_roundw
        case rel => exact ⟨i + 1, by go_num, by omega, HS.out, by first | rfl | trivial⟩
        case measure => simp [intOf] <;> omega
    · exfalso
      have := none_look HT.out (by rw [HNN.out]; omega)
      rw [HSO.out] at this
      cases this

set_option maxHeartbeats 4000000 in
theorem rdir_any (w : World) (v : Value) (t : List It) (p : ByteArray) (h : IRow Any w v t) (hl : t.length ≤ 100000) (hp : p.size ≤ 1000000) :
    Calls Tryd.prog 38 #[v, .string p] w fun e w' => e = .returned (.int .i64 (homeF t p)) ∧ Kp No w w' := by
  have HS := fun W => rsplit_any p hp W
  have HF : Hid (homeF t p = if (splitS p).1 = ⟨#[]⟩ then 0 else match look t (splitS p).1 with | none => 5 | some x => if x.2.1 then 0 else 7) := rfl
  generalize (splitS p).1 = d at *
  generalize (splitS p).2 = e at *
  cases hx : look t d with
  | none =>
    have HN := hid (fun (V : World) (k : Kp No w V) => rfind_no V v t d (h.kept k) hl hx)
    rw [HF.out, hx]
    clear HF h hx
    by_cases hd : d = ⟨#[]⟩
    · subst hd
      rw [if_pos rfl]
      go_enter Tryd.func38, Tryd.ntmps38
      go_wp2_with (first | (go_at_call 20; refine (HS _).mono ?_; rintro e w1 ⟨rfl, hk⟩; have HK := hid hk; clear hk) | (go_at_call 9; refine (HN.out _ HK.out).mono ?_; rintro e w2 ⟨rfl, hk⟩; have HK2 := hid (HK.out.andNone hk); clear hk))
      go_ret
      exact ⟨rfl, HK2.out.alloc _⟩
    · have b0 := isEmpty_no hd
      rw [if_neg hd]
      go_enter Tryd.func38, Tryd.ntmps38
      go_wp2_with (first | (go_at_call 20; refine (HS _).mono ?_; rintro e w1 ⟨rfl, hk⟩; have HK := hid hk; clear hk) | (go_at_call 9; refine (HN.out _ HK.out).mono ?_; rintro e w2 ⟨rfl, hk⟩; have HK2 := hid (HK.out.andNone hk); clear hk))
      go_ret
      exact ⟨rfl, HK2.out.alloc _⟩
  | some x =>
    have HN := hid (fun (V : World) (k : Kp No w V) => rfind_yes V v t d x (h.kept k) hl hx)
    rw [HF.out, hx]
    clear HF h hx
    obtain ⟨xs, xd, xb⟩ := x
    by_cases hd : d = ⟨#[]⟩
    · subst hd
      rw [if_pos rfl]
      go_enter Tryd.func38, Tryd.ntmps38
      go_wp2_with (first | (go_at_call 20; refine (HS _).mono ?_; rintro e w1 ⟨rfl, hk⟩; have HK := hid hk; clear hk) | (go_at_call 9; refine (HN.out _ HK.out).mono ?_; rintro e w2 ⟨u, rfl, hb, hk⟩; obtain ⟨au, cu, hau⟩ := hb.form; subst hau; have HK2 := hid (HK.out.andNone hk); clear hk hb))
      go_ret
      exact ⟨rfl, HK2.out.alloc _⟩
    · have b0 := isEmpty_no hd
      rw [if_neg hd]
      cases xd <;>
      · simp only [if_true, if_false, Bool.false_eq_true]
        go_enter Tryd.func38, Tryd.ntmps38
        go_wp2_with (first | (go_at_call 20; refine (HS _).mono ?_; rintro e w1 ⟨rfl, hk⟩; have HK := hid hk; clear hk) | (go_at_call 9; refine (HN.out _ HK.out).mono ?_; rintro e w2 ⟨u, rfl, hb, hk⟩; obtain ⟨au, cu, hau⟩ := hb.form; subst hau; have HK2 := hid (HK.out.andNone hk); clear hk hb))
        go_ret
        exact ⟨rfl, HK2.out.alloc _⟩

end Go.Proofs.YtdpnahonidmohaaDoor.Tr
