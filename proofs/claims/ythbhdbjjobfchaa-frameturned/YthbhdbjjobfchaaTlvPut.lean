/-
  What the writer's method put of tlv lays, and each.
-/
import Derived.Test.YthbhdbjjobfchaaTlvNumber
import Derived.Deep.CutBlock
namespace Go.Proofs.Ythbhdbjjobfchaa.Tlv
open Go.RowKit
attribute [local go_sem ↓] Go.wp_at_zero Go.wp_at_succ

/-- What put does with a tree that is nested at most n deep. -/
def PutOk (n : Nat) : Prop := ∀ (t : Tr n) (sb sk : Value) (B pb : Nat) (xs : List Int) (room : Int) (w : World), Rep 0 B w n t sb sk → Rt n t room → room ≤ 65535 → WInv B pb xs w → xs.length + (formOf n t).length ≤ 70000 →
  Calls Try.prog 41 #[.pointer (some ⟨pb, 0, none⟩), .agg #[.int .i64 t.hd.1, .int .u64 t.hd.2.1, sb, sk]] w fun e w' => e = .returned (.tuple #[]) ∧ WInv B pb (xs ++ formOf n t) w' ∧ Below B w w'

theorem cell_apart {w : World} {p : Addr} {u : Value} {q : Addr} (h : q.block ≠ p.block) : (w.setCell p u).cell? q = w.cell? q := World.cell?_of_block (w := w) (Below.heap_setCell _ _ _ _ h)

theorem addr_add (b o j : Nat) : (⟨b, o, none⟩ : Addr).add j = ⟨b, o + j, none⟩ := by unfold Addr.add; split <;> simp_all

theorem WInv.agree {B pb : Nat} {xs : List Int} {w w' : World} (h : WInv B pb xs w) (hA : Agree B w.heap.size w w') : WInv B pb xs w' := by
  obtain ⟨v, c0, f0, hpb, hown, hne⟩ := h
  have hp : pb < w.heap.size := World.block_lt_of_cell? w _ c0
  exact ⟨v, (hA.cell (p := ⟨pb, 0, none⟩) hpb hp).trans c0, (World.frozen?_of_block (w := w) (a := ⟨pb, 0, none⟩) (hA pb hpb hp)).trans f0, hpb, ownsRow_agree hown hA, hne⟩

theorem WInv.lt {B pb : Nat} {xs : List Int} {w : World} (h : WInv B pb xs w) : B < w.heap.size := by
  obtain ⟨v, c0, f0, hpb, hown, hne⟩ := h
  have hp : pb < w.heap.size := World.block_lt_of_cell? w _ c0
  omega

set_option maxHeartbeats 1000000 in
set_option maxRecDepth 100000 in
theorem each_any {n : Nat} (hn : PutOk n) (ks : List (Tr n)) (v : Value) (B pb : Nat) (xs : List Int) (w : World) (h : KSl 0 B w (Rep 0 B w n) v ks) (hk : ∀ k ∈ ks, ∃ r, r ≤ 65535 ∧ Rt n k r) (hw : WInv B pb xs w)
    (hl : xs.length + ((ks.map (formOf n)).flatten).length ≤ 70000) :
    Calls Try.prog 57 #[v, .func (.func 41) #[.pointer (some ⟨pb, 0, none⟩)] #[]] w fun e w' => e = .returned (.tuple #[]) ∧ WInv B pb (xs ++ (ks.map (formOf n)).flatten) w' ∧ Below B w w' := by
  obtain ⟨a, cap, rfl, h2, h3, h4, h5, h7⟩ := h
  have A := hid h7
  have HW := hid hw
  have HR := hid hk
  have HLn := hid hl
  clear h7 h4 hw hk hl
  go_enter Try.func57, Try.ntmps57
  go_wp2_with fail
  go_loopw [8] (fun i wr => ∃ (k : Nat) (ys : List Int), k ≤ ks.length ∧ i = .int .i64 k ∧ Hid (WInv B pb ys wr ∧ Below B w wr ∧ ys ++ ((ks.drop k).map (formOf n)).flatten = xs ++ (ks.map (formOf n)).flatten)) (fun i _ => ks.length - (intOf i).toNat)
  case atStart => exact ⟨0, xs, Nat.zero_le _, rfl, HW.out, Below.refl _ _, rfl⟩
  case round =>
    obtain ⟨k, ys, hk, rfl, HI⟩ := hrel
    by_cases hlt : k < ks.length
    · obtain ⟨b, o, rfl, _, hbs, hc⟩ := A.out (by intro e; subst e; simp at hlt)
      obtain ⟨sb, sk, c0, c1, c2, c3, hrep⟩ := hc k ks[k] (List.getElem?_eq_getElem hlt)
      clear hc
      obtain ⟨a1, l1, p1, a2, l2, p2, rfl, rfl⟩ := hrep.sl
      have hR := hid hrep
      clear hrep
      have hbel := hid HI.out.2.1
      have d0 := (hbel.out.cell (p := ⟨b, o + k * 4, none⟩) hbs).trans c0
      have d1 := (hbel.out.cell (p := ⟨b, o + k * 4 + 1, none⟩) hbs).trans c1
      have d2 := (hbel.out.cell (p := ⟨b, o + k * 4 + 2, none⟩) hbs).trans c2
      have d3 := (hbel.out.cell (p := ⟨b, o + k * 4 + 3, none⟩) hbs).trans c3
      clear c0 c1 c2 c3
      have hdrop : Hid (ks.drop k = ks[k] :: ks.drop (k + 1)) := List.drop_eq_getElem_cons hlt
      have hmem : Hid (∃ r, r ≤ 65535 ∧ Rt n ks[k] r) := HR.out _ (List.getElem_mem hlt)
      generalize ks[k] = t at *
      have hBz := HI.out.1.lt
      go_wp2_with fail
      obtain ⟨r, hr0, hr1⟩ := hmem.out
      have hlen : ys.length + (formOf n t).length ≤ 70000 := by
        have := congrArg List.length HI.out.2.2
        rw [hdrop.out] at this
        simp only [List.length_append, List.map_cons, List.flatten_cons] at this
        have := HLn.out
        omega
      refine (hn t _ _ B pb ys r _ (hR.out.agree ((Agree.below hbel.out).alloc (by omega) _) (Nat.le_refl _) (Nat.le_refl _)) hr1 hr0 (HI.out.1.agree ((Agree.refl _ _ _).alloc (Nat.le_refl _) _)) hlen).mono ?_
      rintro e w1 ⟨rfl, hw1, hb1⟩
      have HW1 := hid hw1
      have HB1 : Hid (Below B w w1) := (hbel.out.alloc (by omega) _).trans hb1
      clear hw1 hb1
      go_wp2_with fail
      go_roundw
      case rel => exact ⟨k + 1, ys ++ formOf n t, by omega, by go_num, HW1.out, HB1.out, by rw [← HI.out.2.2, hdrop.out]; simp⟩
      case measure => simp [intOf]; omega
    · go_wp2_with fail
      go_end0
      refine ⟨rfl, ?_, HI.out.2.1⟩
      have e : ys = xs ++ (ks.map (formOf n)).flatten := by have := HI.out.2.2; rwa [List.drop_of_length_le (by omega), List.map_nil, List.flatten_nil, List.append_nil] at this
      rw [← e]
      exact HI.out.1

theorem bodyOf_1 {n : Nat} {t : Tr (n + 1)} (h : t.hd.1 = 1) : bodyOf (n + 1) t = numB (nsz t.hd.2.1).toNat t.hd.2.1 := by
  simp only [bodyOf]
  rw [if_pos h]

theorem bodyOf_2 {n : Nat} {t : Tr (n + 1)} (h : t.hd.1 = 2) : bodyOf (n + 1) t = t.hd.2.2 := by
  simp only [bodyOf]
  rw [if_neg (by omega), if_pos h]

theorem set_two (tag h l : Int) (body xs : List Int) : (((xs ++ [tag, 0, 0] ++ body).map (Value.int .u8)).set (xs.length + 1) (.int .u8 h)).set (xs.length + 2) (.int .u8 l) = (xs ++ tag :: h :: l :: body).map (Value.int .u8) := by
  cases xs <;> simp

set_option maxHeartbeats 2000000 in
set_option maxRecDepth 100000 in
theorem put_any : ∀ n, PutOk n
  | 0 => fun t => by cases t
  | n + 1 => by
    intro t sb sk B pb xs room w hrep hrt hroom hw hlen
    have ih := put_any n
    obtain ⟨hn0, hn1, hby, hks⟩ := hrep
    have HB := hid hby
    have HK := hid hks
    obtain ⟨ab, cb, rfl, hrb⟩ := hby
    obtain ⟨ak, ck, rfl, hrk⟩ := hks
    clear hrb hrk
    have hfacts := hid hrt.facts
    have HF : Hid (formOf (n + 1) t = t.hd.1 :: ((bodyOf (n + 1) t).length / 256 : Int) :: ((bodyOf (n + 1) t).length % 256 : Int) :: bodyOf (n + 1) t) := rfl
    have HLn := hid hlen
    have HW := hid hw
    obtain ⟨v, c0, f0, hpb, hown, hne⟩ := hw
    obtain ⟨a, c, rfl⟩ := ownsRow_form hown
    have HO := hid hown
    have HNE := hid hne
    have hpz : pb < w.heap.size := World.block_lt_of_cell? w _ c0
    clear hrt hlen hown hne
    obtain ⟨i0, hi, hz0, hz1, hz2⟩ := info_parts Try.info5
    have hT1 := hid (rfl : t.kd = t.kd)
    generalize hk1 : t.kd = ks at *
    generalize hk2 : t.hd.2.2 = bs at *
    generalize hk3 : t.hd.2.1 = num at *
    generalize hk4 : t.hd.1 = tag at *
    have HT1 := hid hk1
    have HT2 := hid hk2
    have HT3 := hid hk3
    have HT4 := hid hk4
    clear hk1 hk2 hk3 hk4 hT1
    go_enter Try.func41, Try.ntmps41
    go_upto_region 2 with fail
    go_cut [] (fun wx => wx.cell? ⟨w.heap.size, 0, none⟩ = some (.int .i64 tag) ∧ wx.cell? ⟨w.heap.size, 1, none⟩ = some (.int .u64 num) ∧ wx.cell? ⟨w.heap.size, 2, none⟩ = some (.slice ab bs.length cb) ∧
      wx.cell? ⟨w.heap.size, 3, none⟩ = some (.slice ak ks.length ck) ∧ w.heap.size < wx.heap.size ∧ Hid (WInv B pb (xs ++ [tag, 0, 0]) wx ∧ Below B w wx))
    case first =>
      have hw3 : Hid (IntKind.u8.wrap tag = tag) := by
        have := hfacts.out.2.2.1
        rw [Hid, IntKind.wrap_u8]
        omega
      have HO2 : Hid (((w.alloc (Obj.cells #[Value.int IntKind.i64 tag, Value.int IntKind.u64 num, Value.slice ab bs.length cb, Value.slice ak ks.length ck] 88)).alloc (Obj.cells #[Value.int IntKind.u8 (IntKind.u8.wrap tag), Value.int IntKind.u8 0, Value.int IntKind.u8 0] 5)).drew.ownsRow B 5 1 (.slice a xs.length c) xs.length (xs.map (Value.int .u8))) := (HO.out.alloc _).alloc _
      have hnews : Hid (∀ j u, [Value.int IntKind.u8 (IntKind.u8.wrap tag), Value.int IntKind.u8 0, Value.int IntKind.u8 0][j]? = some u → ((w.alloc (Obj.cells #[Value.int IntKind.i64 tag, Value.int IntKind.u64 num, Value.slice ab bs.length cb, Value.slice ak ks.length ck] 88)).alloc (Obj.cells #[Value.int IntKind.u8 (IntKind.u8.wrap tag), Value.int IntKind.u8 0, Value.int IntKind.u8 0] 5)).cell? ((⟨w.heap.size + 1, 0, none⟩ : Addr).add j) = some u) :=
        World.news_of_block (cs := #[Value.int IntKind.u8 (IntKind.u8.wrap tag), Value.int IntKind.u8 0, Value.int IntKind.u8 0]) (t := 5) (fr := (0, 0)) (by have h := heap_alloc_new (w.alloc (Obj.cells #[Value.int IntKind.i64 tag, Value.int IntKind.u64 num, Value.slice ab bs.length cb, Value.slice ak ks.length ck] 88)) (Obj.cells #[Value.int IntKind.u8 (IntKind.u8.wrap tag), Value.int IntKind.u8 0, Value.int IntKind.u8 0] 5); simpa using h)
      have hone : Hid (∀ u ∈ [Value.int IntKind.u8 (IntKind.u8.wrap tag), Value.int IntKind.u8 0, Value.int IntKind.u8 0], u.oneCell' = true) := by
        intro u hu
        simp only [List.mem_cons, List.not_mem_nil, or_false] at hu
        rcases hu with rfl | rfl | rfl <;> rfl
      have hxl : xs.length ≤ 70000 := by have := HLn.out; omega
      go_region_law (refine step_append_lies _ (by rfl) (.tmp 15) (.tmp 19) 24 (by rfl) B 5 i0 (.int .u8 0) 1 1 Try.underlying24 hi hz0 hz1 hz2 rfl (by omega) (.slice a xs.length c) xs.length (xs.map (Value.int .u8)) (by simp [Act.eval]) HO2.out ⟨w.heap.size + 1, 0, none⟩ 3 3 [Value.int IntKind.u8 (IntKind.u8.wrap tag), Value.int IntKind.u8 0, Value.int IntKind.u8 0] (by simp [Act.eval]) rfl hnews.out hone.out (by omega) (by unfold maxLen; omega) (by omega) (by simp; omega) (w.heap.size + 1 + 1) (by simp) ?_; intro g cap w2 hown2 hgrow2 hat2 hlt2; have c2 : w2.cell? ⟨pb, 0, none⟩ = some (.slice a xs.length c) := (hgrow2.cell_far ⟨pb, 0, none⟩ (by simp; omega) (fun e => HNE.out e.symm)).trans ((World.cell?_alloc_past _ _ _ (by simp; omega)).trans ((World.cell?_alloc_past _ _ _ hpz).trans c0)); have f2 : w2.frozen? ⟨pb, 0, none⟩ = false := (hgrow2.frozen_far ⟨pb, 0, none⟩ (by simp; omega) (fun e => HNE.out e.symm)).trans ((World.frozen?_alloc_past _ _ _ (by simp; omega)).trans ((World.frozen?_alloc_past _ _ _ hpz).trans f0)); have HO3 := hid hown2; have HG := hid hgrow2; have HAT := hid hat2; clear hown2 hgrow2 hat2)
      all_goals go_wp2_with fail
      all_goals go_meet
      all_goals
        have hbx : some w.heap.size ≠ (Value.slice a xs.length c).ownBlock := fun e => by have := (HO.out.lt _ e.symm).2; omega
        have hcb : ∀ o, w2.cell? ⟨w.heap.size, o, none⟩ = (w.alloc (Obj.cells #[Value.int IntKind.i64 tag, Value.int IntKind.u64 num, Value.slice ab bs.length cb, Value.slice ak ks.length ck] 88)).cell? ⟨w.heap.size, o, none⟩ := fun o => (HG.out.cell_far ⟨w.heap.size, o, none⟩ (by simp; omega) hbx).trans (World.cell?_alloc_past _ _ _ (by simp))
        have hz3 := HG.out.size
        simp at hz3
        refine ⟨?_, ?_, ?_, ?_, by simp; omega, ?_, ?_⟩
        · rw [cell_apart (by simp; omega), hcb]; simp [go_sem]
        · rw [cell_apart (by simp; omega), hcb]; simp [go_sem]
        · rw [cell_apart (by simp; omega), hcb]; simp [go_sem]
        · rw [cell_apart (by simp; omega), hcb]; simp [go_sem]
        · have h := HO3.out
          rw [hw3.out] at h
          exact WInv.push (v := .slice a xs.length c) (H := w.heap.size + 1 + 1) (news := [tag, 0, 0]) (by simpa using h) hpb (by omega) HNE.out c2 f2 HAT.out
        · exact (((((Below.refl _ _).alloc (by omega) _).alloc (by simp; omega) _).drew).grown HG.out (by simp; omega) (fun r e => (HO.out.lt r e).1)).setCell hpb _
    case rest =>
      obtain ⟨b0, b1, b2, b3, hbz, HX⟩ := hcut
      have hbl : Hid ((xs ++ [tag, 0, 0]).length + (bodyOf (n + 1) t).length ≤ 70000) := by have h := HLn.out; rw [HF.out] at h; simp only [List.length_cons] at h; simp only [Hid, List.length_append, List.length_cons, List.length_nil]; omega
      go_upto_block 0 with fail
      go_cut [25, 31, 43] (fun _ _ _ wx => Hid (WInv B pb (xs ++ [tag, 0, 0] ++ bodyOf (n + 1) t) wx ∧ Below B w wx))
      case first =>
        by_cases h1 : tag = 1
        · have hb1 := hid (bodyOf_1 (HT4.out.trans h1))
          subst h1
          go_wp2_with fail
          refine (number_put B pb (xs ++ [1, 0, 0]) num wc HX.out.1 hn0 hn1 (by have := hbl.out; omega)).mono ?_
          rintro e w1 ⟨rfl, hw1, hbe1⟩
          have HW1 := hid hw1
          have HB1 := hid hbe1
          clear hw1 hbe1
          go_wp2_with fail
          go_meet
          refine ⟨?_, HX.out.2.trans HB1.out⟩
          rw [hb1.out, HT3.out]
          exact HW1.out
        · by_cases h2 : tag = 2
          · have hb1 := hid (bodyOf_2 (HT4.out.trans h2))
            subst h2
            obtain ⟨ys, hys⟩ : ∃ ys, xs ++ [2, 0, 0] = ys := ⟨_, rfl⟩
            have HYS := hid hys
            have HX1 := HX.out.1
            have hbl1 := hbl.out
            rw [hys] at HX1 hbl1
            have hyn : ys ≠ [] := by rw [← hys]; simp
            clear hys
            obtain ⟨v', c0', f0', _, hown', hne'⟩ := HX1
            have hpz' : pb < wc.heap.size := by omega
            by_cases hbs : bs = []
            · subst hbs
              rcases hown'.2 with ⟨_, h0⟩ | ⟨g, cap, cur, rfl, hgB, hgg, hgl, hgm, hgs, hgt⟩
              · exact absurd (List.length_eq_zero_iff.1 h0) hyn
              · have HC := hid hgt
                have HO4 := hid hown'
                have HNE4 := hid hne'
                clear hgt hown' hne'
                cases ab
                all_goals
                  go_wp2_with fail
                  go_region
                  all_goals
                    go_wp2_with fail
                    go_meet
                    refine ⟨?_, HX.out.2.drew.setCell hpb _⟩
                    rw [hb1.out, HT2.out, List.append_nil, HYS.out]
                    refine ⟨_, World.cell?_setCell_same _ _ _ c0', by simp [f0'], hpb, ?_, by simpa using HNE4.out⟩
                    have h := ownsRow_set_ne HO4.out (p := ⟨pb, 0, none⟩) HNE4.out (Value.slice (some ⟨g, 0, none⟩) ys.length cap)
                    simpa using h.drew
            · obtain ⟨_, _, ea, _, _, _, _, _, h7⟩ := HB.out
              simp only [Value.slice.injEq, true_and] at ea
              obtain ⟨rfl, rfl⟩ := ea
              obtain ⟨b, o, rfl, _, hbB, hcc⟩ := h7 hbs
              obtain ⟨a5, c5, rfl⟩ := ownsRow_form hown'
              have hbpos : 0 < bs.length := List.length_pos_iff.2 hbs
              have hnews : Hid (∀ j u, (bs.map (Value.int .u8))[j]? = some u → wc.cell? ((⟨b, o, none⟩ : Addr).add j) = some u) := by
                intro j u hj
                have hjn : j < bs.length := by
                  have := (List.getElem?_eq_some_iff.1 hj).1
                  simpa using this
                rw [addr_add, HX.out.2.cell (p := ⟨b, o + j, none⟩) hbB, hcc j hjn]
                simp only [List.getElem?_map, List.getElem?_eq_getElem hjn, Option.map_some, Option.some.injEq] at hj
                simp [List.getElem?_eq_getElem hjn, hj]
              have hone : Hid (∀ u ∈ bs.map (Value.int .u8), u.oneCell' = true) := by intro u hu; obtain ⟨x, _, rfl⟩ := List.mem_map.1 hu; rfl
              have HO4 := hid hown'
              have HNE4 := hid hne'
              have hyl : ys.length + bs.length ≤ 70000 := by rw [hb1.out, HT2.out] at hbl1; exact hbl1
              clear hbl1 hown' hne' hcc h7
              go_wp2_with fail
              go_region_law (refine step_append_lies _ (by rfl) (.tmp 37) (.tmp 39) 24 (by rfl) B 5 i0 (.int .u8 0) 1 1 Try.underlying24 hi hz0 hz1 hz2 rfl (by omega) (.slice a5 ys.length c5) ys.length (ys.map (Value.int .u8)) (by simp [Act.eval]) HO4.out.drew ⟨b, o, none⟩ bs.length cb (bs.map (Value.int .u8)) (by simp [Act.eval]) (by simp) hnews.out hone.out (by omega) (by unfold maxLen; omega) (by omega) (by simp; omega) wc.heap.size (by simp) ?_; intro g cap w2 hown2 hgrow2 hat2 hlt2; have c2 : w2.cell? ⟨pb, 0, none⟩ = some (.slice a5 ys.length c5) := (hgrow2.cell_far ⟨pb, 0, none⟩ (by simp; omega) (fun e => HNE4.out e.symm)).trans c0'; have f2 : w2.frozen? ⟨pb, 0, none⟩ = false := (hgrow2.frozen_far ⟨pb, 0, none⟩ (by simp; omega) (fun e => HNE4.out e.symm)).trans f0'; have HO3 := hid hown2; have HG := hid hgrow2; have HAT := hid hat2; clear hown2 hgrow2 hat2)
              all_goals go_wp2_with fail
              all_goals
                go_meet
                refine ⟨?_, (HX.out.2.drew.grown HG.out (by simp; omega) (fun r e => (HO4.out.lt r e).1)).setCell hpb _⟩
                rw [hb1.out, HT2.out, HYS.out]
                exact WInv.push (v := .slice a5 ys.length c5) (H := wc.heap.size) HO3.out hpb (by omega) HNE4.out c2 f2 HAT.out
          · have h3 : tag = 3 := by have := hfacts.out.2.2.1; omega
            have hb1 := hid (bodyOf_kids (HT4.out.trans h3))
            have hkr := hid (hfacts.out.2.2.2 h3)
            subst h3
            go_wp2_with fail
            refine (each_any ih ks _ B pb (xs ++ [3, 0, 0]) wc (HK.out.agree (fun _ _ _ r => r.agree (Agree.below HX.out.2) (Nat.le_refl _) (Nat.le_refl _)) (Agree.below HX.out.2) (Nat.le_refl _) (Nat.le_refl _)) (fun k hk => by obtain ⟨r, h1, h2⟩ := hkr.out k hk; exact ⟨r, by omega, h2⟩) HX.out.1 (by have := hbl.out; rw [hb1.out, HT1.out] at this; exact this)).mono ?_
            rintro e w1 ⟨rfl, hw1, hbe1⟩
            have HW1 := hid hw1
            have HB1 := hid hbe1
            clear hw1 hbe1
            go_wp2_with fail
            go_meet
            refine ⟨?_, HX.out.2.trans HB1.out⟩
            rw [hb1.out, HT1.out]
            exact HW1.out
      case rest =>
        have hroom1 := hfacts.out.2.1
        obtain ⟨body, hbd⟩ : ∃ body, bodyOf (n + 1) t = body := ⟨_, rfl⟩
        rw [hbd] at hcut hroom1 HF
        clear hbl hbd
        have hbl : body.length ≤ 65535 := by omega
        obtain ⟨v', c0', f0', _, hown', hne'⟩ := hcut.out.1
        rcases hown'.2 with ⟨_, h0⟩ | ⟨g, cap, cur, rfl, hgB, hgg, hgl, hgm, hgs, hgt⟩
        · simp at h0
        · have HO4 := hid hown'
          have hgp : g ≠ pb := by simpa [Value.ownBlock] using hne'
          have hx1 : wc.cell? ⟨g, xs.length + 1, none⟩ = some (.int .u8 0) := by rw [hown'.cellAt _ (by simp)]; simp
          have hx2 : wc.cell? ⟨g, xs.length + 2, none⟩ = some (.int .u8 0) := by rw [hown'.cellAt _ (by simp)]; simp
          have hff : ∀ o, wc.frozen? ⟨g, o, none⟩ = false := fun o => hown'.frozenAt o
          have hL : (xs ++ [tag, 0, 0] ++ body).length = xs.length + 3 + body.length := by simp; omega
          rw [hL] at c0'
          have hxl : xs.length ≤ 70000 := by have := HLn.out; omega
          have HNE4 := hid hne'
          clear hL hown' hne' hgg hgl hgm hgs hgt c0 f0 HO HNE hpz b0 b1 b2 b3 hbz
          go_wp2_with fail
          go_big_region
          go_end0
          refine ⟨rfl, ?_, ((hcut.out.2.setCell hgB _).setCell hgB _).drew⟩
          have e1 : ((xs.length : Int) + 3 + body.length - xs.length - 3) = (body.length : Int) := by omega
          rw [HF.out, e1]
          have st := ((HO4.out.stored (xs.length + 1) (.int .u8 ((body.length : Int) / 256))).1.stored (xs.length + 2) (.int .u8 ((body.length : Int) % 256))).1
          rw [set_two] at st
          have hL2 : (xs ++ [tag, 0, 0] ++ body).length = (xs ++ tag :: ((body.length : Int) / 256) :: ((body.length : Int) % 256) :: body).length := by simp
          rw [hL2] at st
          refine ⟨.slice (some ⟨g, 0, none⟩) (xs ++ tag :: ((body.length : Int) / 256) :: ((body.length : Int) % 256) :: body).length cap, ?_, ?_, hpb, st.drew, by simpa [Value.ownBlock] using hgp⟩
          · rw [← hL2, World.cell?_drew, cell_apart (fun e => hgp e.symm), cell_apart (fun e => hgp e.symm), c0']
            simp
            omega
          · rw [World.frozen?_drew, World.frozen?_setCell, World.frozen?_setCell]
            exact f0'

end Go.Proofs.Ythbhdbjjobfchaa.Tlv
