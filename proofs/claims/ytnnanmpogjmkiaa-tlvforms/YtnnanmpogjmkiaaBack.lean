/-
  What the statements' Back makes of a tree: the tree, as the reference's value, its bytes shared.
-/
import Derived.Test.YtnnanmpogjmkiaaRefSame
import Derived.Deep.RegionLaw
import Derived.Deep.AppendLies
import Derived.Test.YtnnanmpogjmkiaaClone
namespace Go.Proofs.Ytnnanmpogjmkiaa
open Go.RowKit
attribute [local go_sem ↓] Go.wp_at_zero Go.wp_at_succ

theorem Try.info32 : (Try.prog.info? 32).map (fun i => (i.zero, i.size, i.bytes)) = some (some (.agg #[.int .i64 0, .int .u64 0, .slice none 0 0, .slice none 0 0]), 4, 64) := by kernel_rfl

theorem new4 {n : Nat} (w : World) (t : Tr n) (sb sk : Value) : ∀ j u, (cell4 t (sb, sk))[j]? = some u → (w.alloc (Obj.cells #[Value.int .i64 t.hd.1, Value.int .u64 t.hd.2.1, sb, sk] 32)).cell? ((⟨w.heap.size, 0, none⟩ : Addr).add j) = some u :=
  World.news_of_block (cs := #[Value.int .i64 t.hd.1, Value.int .u64 t.hd.2.1, sb, sk]) (t := 32) (fr := (0, 0)) (heap_alloc_new _ _)

theorem one4 {n : Nat} (t : Tr n) (a : Option Addr) (l c : Nat) (a' : Option Addr) (l' c' : Nat) : ∀ u ∈ cell4 t (.slice a l c, .slice a' l' c'), u.oneCell' = true := by
  intro u hu
  simp only [cell4, List.mem_cons, List.not_mem_nil, or_false] at hu
  rcases hu with rfl | rfl | rfl | rfl <;> rfl

def BackOk (n : Nat) : Prop := ∀ (t : Tr n) (S : Nat → Prop) (sb sk : Value) (w : World), RepS S w n t sb sk → (∀ b, S b → b < w.heap.size) →
  Calls Try.prog 22 #[.agg #[.int .i64 t.hd.1, .int .u64 t.hd.2.1, sb, sk]] w fun e w' =>
    ∃ sk', e = .returned (.agg #[.int .i64 t.hd.1, .int .u64 t.hd.2.1, sb, sk']) ∧ RepS (fun b => S b ∨ (w.heap.size ≤ b ∧ b < w'.heap.size)) w' n t sb sk' ∧ Below w.heap.size w w'

set_option maxHeartbeats 2000000 in
set_option maxRecDepth 100000 in
theorem back_any : ∀ n, BackOk n
  | 0 => fun t => by cases t
  | n + 1 => by
    intro t S sb sk w hrep hS
    have ih := back_any n
    obtain ⟨hn0, hn1, hby, hks⟩ := hrep
    have HB := hid hby
    have HK := hid hks
    have HS := hid hS
    obtain ⟨ab, cb, rfl, hrb⟩ := hby
    obtain ⟨ak, ck, rfl, hrk⟩ := hks
    clear hrb hrk hS
    have hkl : t.kd.length ≤ 2199023255552 := by obtain ⟨_, _, _, _, _, _, h, _⟩ := HK.out; exact h
    generalize hT1 : t.kd = ks at *
    generalize hT2 : t.hd.2.2 = bs at *
    generalize hT3 : t.hd.2.1 = num at *
    generalize t.hd.1 = tag at *
    have HT1 := hid hT1
    have HT2 := hid hT2
    have HT3 := hid hT3
    clear hT1 hT2 hT3
    obtain ⟨i0, hi, hz0, hz1, hz2⟩ := info_parts Try.info32
    go_enter Try.func22, Try.ntmps22
    go_wp2_with fail
    obtain ⟨W0, hW0⟩ : ∃ W0, W0 = ((w.alloc (Obj.cells #[Value.int .i64 tag, Value.int .u64 num, Value.slice ab bs.length cb, Value.slice ak ks.length ck] 29)).alloc (Obj.cells #[Value.int .i64 0, Value.int .u64 0, Value.slice none 0 0, Value.slice none 0 0] 32)).alloc (Obj.cells #[Value.int .i64 tag, Value.int .u64 num, Value.slice ab bs.length cb, Value.slice none 0 0] 32) := ⟨_, rfl⟩
    have hB0 : Hid (Below w.heap.size w W0) := by rw [Hid, hW0]; exact (((Below.refl _ _).alloc (Nat.le_refl _) _).alloc (by simp) _).alloc (by simp; omega) _
    have hz0' : W0.heap.size = w.heap.size + 3 := by rw [hW0]; simp
    have m3 : Hid (W0.cell? ⟨w.heap.size, 3, none⟩ = some (.slice ak ks.length ck)) := by rw [Hid, hW0]; simp [go_sem]
    have o0 : W0.cell? ⟨w.heap.size + 1 + 1, 0, none⟩ = some (.int .i64 tag) := by rw [hW0]; simp [go_sem]
    have o1 : W0.cell? ⟨w.heap.size + 1 + 1, 1, none⟩ = some (.int .u64 num) := by rw [hW0]; simp [go_sem]
    have o2 : W0.cell? ⟨w.heap.size + 1 + 1, 2, none⟩ = some (.slice ab bs.length cb) := by rw [hW0]; simp [go_sem]
    have o3 : W0.cell? ⟨w.heap.size + 1 + 1, 3, none⟩ = some (.slice none 0 0) := by rw [hW0]; simp [go_sem]
    have of : ∀ o, W0.frozen? ⟨w.heap.size + 1 + 1, o, none⟩ = false := by intro o; rw [hW0]; simp [go_sem]
    have p0 : Hid (W0.cell? ⟨w.heap.size + 1, 0, none⟩ = some (.int .i64 0)) := by rw [Hid, hW0]; simp [go_sem]
    have p1 : Hid (W0.cell? ⟨w.heap.size + 1, 1, none⟩ = some (.int .u64 0)) := by rw [Hid, hW0]; simp [go_sem]
    have p2 : Hid (W0.cell? ⟨w.heap.size + 1, 2, none⟩ = some (.slice none 0 0)) := by rw [Hid, hW0]; simp [go_sem]
    have p3 : Hid (W0.cell? ⟨w.heap.size + 1, 3, none⟩ = some (.slice none 0 0)) := by rw [Hid, hW0]; simp [go_sem]
    have pf : Hid (∀ o, W0.frozen? ⟨w.heap.size + 1, o, none⟩ = false) := by intro o; rw [hW0]; simp [go_sem]
    rw [← hW0]
    have HZ := hid hz0'
    clear hW0 hz0'
    go_loopw [4] (fun i wr => ∃ (k : Nat) (v : Value), k ≤ ks.length ∧ i = .int .i64 k ∧ wr.cell? ⟨w.heap.size + 1 + 1, 0, none⟩ = some (.int .i64 tag) ∧ wr.cell? ⟨w.heap.size + 1 + 1, 1, none⟩ = some (.int .u64 num) ∧
      wr.cell? ⟨w.heap.size + 1 + 1, 2, none⟩ = some (.slice ab bs.length cb) ∧ wr.cell? ⟨w.heap.size + 1 + 1, 3, none⟩ = some v ∧ (∀ o, wr.frozen? ⟨w.heap.size + 1 + 1, o, none⟩ = false) ∧
      Hid (BInv S (w.heap.size + 3) (ks.take k) v wr ∧ Below (w.heap.size + 2) W0 wr ∧ w.heap.size + 3 ≤ wr.heap.size)) (fun i _ => ks.length - (intOf i).toNat)
    case atStart => exact ⟨0, _, Nat.zero_le _, rfl, o0, o1, o2, o3, of, BInv.nil _ _ _, Below.refl _ _, Nat.le_of_eq HZ.out.symm⟩
    case round =>
      obtain ⟨k, v, hk, rfl, f0, f1, f2, f3, hfr, HI⟩ := hrel
      clear o0 o1 o2 o3 of
      have hws := HI.out.2.2
      have M3 : wr.cell? ⟨w.heap.size, 3, none⟩ = some (.slice ak ks.length ck) := (HI.out.2.1.cell (p := ⟨w.heap.size, 3, none⟩) (by simp)).trans m3.out
      obtain ⟨av, cv, hv⟩ := HI.out.1.form
      have hlk : Hid ((ks.take k).length = k) := List.length_take_of_le (by omega)
      rw [hlk.out] at hv
      subst hv
      by_cases hlt : k < ks.length
      · obtain ⟨_, _, ea, _, _, _, _, h7⟩ := HK.out
        simp only [Value.slice.injEq, true_and] at ea
        obtain ⟨rfl, rfl⟩ := ea
        obtain ⟨b, o, rfl, hSb, hc⟩ := h7 (by intro e; subst e; simp at hlt)
        obtain ⟨sb, sk, c0, c1, c2, c3, hrep⟩ := hc k ks[k] (List.getElem?_eq_getElem hlt)
        clear hc h7
        obtain ⟨a1, l1, q1, a2, l2, q2, rfl, rfl⟩ := hrep.sl
        have hbw := HS.out b hSb
        have hbel : Hid (Below w.heap.size w wr) := hB0.out.trans (HI.out.2.1.mono (by omega))
        have hR := hid (hrep.agree (AgreeS.below hbel.out HS.out) (fun _ h => h))
        clear hrep
        have d0 := (hbel.out.cell (p := ⟨b, o + k * 4, none⟩) hbw).trans c0
        have d1 := (hbel.out.cell (p := ⟨b, o + k * 4 + 1, none⟩) hbw).trans c1
        have d2 := (hbel.out.cell (p := ⟨b, o + k * 4 + 2, none⟩) hbw).trans c2
        have d3 := (hbel.out.cell (p := ⟨b, o + k * 4 + 3, none⟩) hbw).trans c3
        clear c0 c1 c2 c3
        have htake : Hid (ks.take (k + 1) = ks.take k ++ [ks[k]]) := List.take_succ_eq_append_getElem hlt
        generalize ks[k] = t1 at *
        have hSw : ∀ b, S b → b < wr.drew.heap.size := fun b hb => by have := HS.out b hb; show b < wr.heap.size; omega
        have hcall := hid (ih t1 S _ _ wr.drew (RepS.agree (w := wr) (w' := wr.drew) (fun _ _ => rfl) (fun _ h => h) hR.out) hSw)
        clear hSw
        have hkI0 : (0 : Int) ≤ (k : Int) := by omega
        have hkI1 : (k : Int) < (ks.length : Int) := by omega
        have hgw : w.heap.size + 1 + 1 < wr.heap.size := by omega
        have hlt0 := hid HI.out.1.lt
        go_wp2_with fail
        go_region_law (first
          | (refine step_append_lies _ (by rfl) (.tmp 20) (.tmp 27) 30 (by rfl) (w.heap.size + 3) 32 i0 _ 4 64 Try.underlying30 hi hz0 hz1 hz2 rfl (by omega) (.slice av k cv) k (cellsK (ks.take k) ps) (by simp [Act.eval]) HO.out ⟨w2.heap.size, 0, none⟩ 1 1 (cell4 t1 (.slice a1 l1 q1, .slice a4 l4 p4)) (by simp [Act.eval]) rfl hnews.out hone.out (by omega) (by unfold maxLen; omega) (by omega) (by simp; omega) (w2.heap.size + 1) (by simp) ?_; intro g' cap' w3 hown3 hgrow3 hat3 hlt3; have hne : some (w.heap.size + 1 + 1) ≠ (Value.slice av k cv).ownBlock := (fun e => by have := (hlt0.out _ e.symm).1; omega); have J0 : w3.cell? ⟨w.heap.size + 1 + 1, 0, none⟩ = some (.int .i64 tag) := (hgrow3.cell_far ⟨w.heap.size + 1 + 1, 0, none⟩ (by simp; omega) hne).trans ((World.cell?_alloc_past _ _ _ hgw2).trans F0); have J1 : w3.cell? ⟨w.heap.size + 1 + 1, 1, none⟩ = some (.int .u64 num) := (hgrow3.cell_far ⟨w.heap.size + 1 + 1, 1, none⟩ (by simp; omega) hne).trans ((World.cell?_alloc_past _ _ _ hgw2).trans F1); have J2 : w3.cell? ⟨w.heap.size + 1 + 1, 2, none⟩ = some (.slice ab bs.length cb) := (hgrow3.cell_far ⟨w.heap.size + 1 + 1, 2, none⟩ (by simp; omega) hne).trans ((World.cell?_alloc_past _ _ _ hgw2).trans F2); have J3 : w3.cell? ⟨w.heap.size + 1 + 1, 3, none⟩ = some (.slice av k cv) := (hgrow3.cell_far ⟨w.heap.size + 1 + 1, 3, none⟩ (by simp; omega) hne).trans ((World.cell?_alloc_past _ _ _ hgw2).trans F3); have Jf : ∀ o, w3.frozen? ⟨w.heap.size + 1 + 1, o, none⟩ = false := fun o => (hgrow3.frozen_far ⟨w.heap.size + 1 + 1, o, none⟩ (by simp; omega) hne).trans ((World.frozen?_alloc_past _ _ _ hgw2).trans (Ff o)); have HO3 := hid hown3; have HG3 := hid hgrow3; have HAT3 := hid hat3; clear hown3 hgrow3 hat3)
          | (go_simp; go_wp2_with (go_at_call 22; refine hcall.out.mono ?_; rintro e w2 ⟨sk2, rfl, hr2, hb2⟩; obtain ⟨_, _, _, a4, l4, p4, _, rfl⟩ := hr2.sl; have Hr2 := hid hr2; have Hb2 := hid hb2; have hs2 := hb2.size; obtain ⟨hc2, hf2⟩ := bcell hb2; have F0 : w2.cell? ⟨w.heap.size + 1 + 1, 0, none⟩ = some (.int .i64 tag) := (hc2 _ _ hgw).trans f0; have F1 : w2.cell? ⟨w.heap.size + 1 + 1, 1, none⟩ = some (.int .u64 num) := (hc2 _ _ hgw).trans f1; have F2 : w2.cell? ⟨w.heap.size + 1 + 1, 2, none⟩ = some (.slice ab bs.length cb) := (hc2 _ _ hgw).trans f2; have F3 : w2.cell? ⟨w.heap.size + 1 + 1, 3, none⟩ = some (.slice av k cv) := (hc2 _ _ hgw).trans f3; have Ff : ∀ o, w2.frozen? ⟨w.heap.size + 1 + 1, o, none⟩ = false := fun o => (hf2 _ _ hgw).trans (hfr o); have hgw2 : w.heap.size + 1 + 1 < w2.heap.size := Nat.lt_of_lt_of_le hgw hs2; have inv1 : BInv S (w.heap.size + 3) (ks.take k) (.slice av k cv) (w2.alloc (Obj.cells #[Value.int .i64 t1.hd.1, Value.int .u64 t1.hd.2.1, Value.slice a1 l1 q1, Value.slice a4 l4 p4] 32)) := HI.out.1.agree (fun b hb => (Below.heap_alloc _ _ _ (by have := HS.out b hb; omega)).trans (Hb2.out.block b (by have := HS.out b hb; show b < wr.heap.size; omega))) ((Agree.below Hb2.out).alloc hs2 _) (by simp; exact Nat.le_succ_of_le hs2); obtain ⟨ps, hl, hown, hkid⟩ := inv1; rw [hlk.out] at hown; have HO := hid hown; have HKid := hid hkid; have HLn := hid hl; have hnews := hid (new4 w2 t1 (.slice a1 l1 q1) (.slice a4 l4 p4)); have hone := hid (one4 t1 a1 l1 q1 a4 l4 p4); clear hr2 hb2 hc2 hf2 hown hkid hl)))
        all_goals
          have hs3 := HG3.out.size
          simp at hs3
          have hR3 : RepS (fun b => S b ∨ (wr.heap.size ≤ b ∧ b < w2.heap.size)) (w2.alloc (Obj.cells #[Value.int .i64 t1.hd.1, Value.int .u64 t1.hd.2.1, Value.slice a1 l1 q1, Value.slice a4 l4 p4] 32)) n t1 (.slice a1 l1 q1) (.slice a4 l4 p4) :=
            Hr2.out.agree (fun b hb => Below.heap_alloc _ _ _ (Or.elim hb (fun hb => by have h1 := HS.out b hb; have h2 : wr.heap.size ≤ w2.heap.size := hs2; omega) (fun hb => hb.2))) (fun _ h => h)
          have inv3 : Hid (BInv S (w.heap.size + 3) (ks.take (k + 1)) (.slice (some ⟨g', 0, none⟩) (k + 1) cap') w3) := by
            have P := BInv.push (g := g') (cap := cap') HLn.out (fun b hb => by have := HS.out b hb; omega) (by simp; have : wr.heap.size ≤ w2.heap.size := hs2; omega) HKid.out hR3 hws (by simp) (fun r e => ⟨(hlt0.out r e).1, .inl (hlt0.out r e).2⟩) (by rw [hlk.out]; exact HO3.out) HG3.out (by simpa using HAT3.out)
            rw [hlk.out, ← htake.out] at P
            exact P
          have bel3 : Hid (Below (w.heap.size + 2) W0 w3) := (((HI.out.2.1.drew).trans (Hb2.out.mono (by show _ ≤ wr.heap.size; omega))).alloc (by have : wr.heap.size ≤ w2.heap.size := hs2; omega) _).grown HG3.out (by simp; have : wr.heap.size ≤ w2.heap.size := hs2; omega) (fun r e => by have := (hlt0.out r e).1; omega)
          have hz3 : w.heap.size + 3 ≤ w3.heap.size := by have : wr.heap.size ≤ w2.heap.size := hs2; omega
          clear hR3
          go_wp2_with fail
          go_roundw
          case rel =>
            refine ⟨k + 1, .slice (some ⟨g', 0, none⟩) (k + 1) cap', by omega, by go_num, (cell_set_ne (by omega)).trans J0, (cell_set_ne (by omega)).trans J1, (cell_set_ne (by omega)).trans J2, World.cell?_setCell_same _ _ _ J3, fun o => by rw [World.frozen?_setCell]; exact Jf o, ?_⟩
            exact ⟨inv3.out.agree (fun b hb => Below.heap_setCell _ _ _ _ (by have := HS.out b hb; simp; omega)) ((Agree.refl _ _ _).setCell (.inl (by simp)) _) (by simp), bel3.out.setCell (by simp) _, by simp; exact hz3⟩
          case measure => simp [intOf]; omega
      · have bl := HI.out.2.1
        have r0 : wr.cell? ⟨w.heap.size + 1, 0, none⟩ = some (.int .i64 0) := (bl.cell (p := ⟨w.heap.size + 1, 0, none⟩) (by simp)).trans p0.out
        have r1 : wr.cell? ⟨w.heap.size + 1, 1, none⟩ = some (.int .u64 0) := (bl.cell (p := ⟨w.heap.size + 1, 1, none⟩) (by simp)).trans p1.out
        have r2 : wr.cell? ⟨w.heap.size + 1, 2, none⟩ = some (.slice none 0 0) := (bl.cell (p := ⟨w.heap.size + 1, 2, none⟩) (by simp)).trans p2.out
        have r3 : wr.cell? ⟨w.heap.size + 1, 3, none⟩ = some (.slice none 0 0) := (bl.cell (p := ⟨w.heap.size + 1, 3, none⟩) (by simp)).trans p3.out
        have rf : ∀ o, wr.frozen? ⟨w.heap.size + 1, o, none⟩ = false := fun o => (bl.frozen (p := ⟨w.heap.size + 1, o, none⟩) (by simp)).trans (pf.out o)
        clear bl
        have hkk : Hid (k = ks.length) := by rw [Hid]; omega
        go_wp2_with fail
        obtain ⟨s0, s1, s2, s3⟩ := set4_read (u0 := .int .i64 tag) (u1 := .int .u64 num) (u2 := .slice ab bs.length cb) (u3 := .slice av k cv) r0 r1 r2 r3
        have hKd := HI.out.1.done (by simp; omega)
        rw [List.take_of_length_le (by omega)] at hKd
        have hAg : AgreeS (fun b => S b ∨ (w.heap.size + 3 ≤ b ∧ b < wr.heap.size)) wr ((((wr.setCell ⟨w.heap.size + 1, 0, none⟩ (.int .i64 tag)).setCell ⟨w.heap.size + 1, 1, none⟩ (.int .u64 num)).setCell ⟨w.heap.size + 1, 2, none⟩ (.slice ab bs.length cb)).setCell ⟨w.heap.size + 1, 3, none⟩ (.slice av k cv)) := fun b hb => by
          have hne : b ≠ w.heap.size + 1 := by
            rcases hb with hb | hb
            · have := HS.out b hb; omega
            · omega
          rw [Below.heap_setCell _ _ _ _ hne, Below.heap_setCell _ _ _ _ hne, Below.heap_setCell _ _ _ _ hne, Below.heap_setCell _ _ _ _ hne]
        have hsub : ∀ b, (S b ∨ (w.heap.size + 3 ≤ b ∧ b < wr.heap.size)) → (S b ∨ (w.heap.size ≤ b ∧ b < ((((wr.setCell ⟨w.heap.size + 1, 0, none⟩ (.int .i64 tag)).setCell ⟨w.heap.size + 1, 1, none⟩ (.int .u64 num)).setCell ⟨w.heap.size + 1, 2, none⟩ (.slice ab bs.length cb)).setCell ⟨w.heap.size + 1, 3, none⟩ (.slice av k cv)).heap.size)) := fun b hb => by
          rcases hb with hb | hb
          · exact .inl hb
          · exact .inr ⟨by omega, by simp; exact hb.2⟩
        have hbelw : Below w.heap.size w wr := hB0.out.trans (HI.out.2.1.mono (by omega))
        have hAS : AgreeS S w ((((wr.setCell ⟨w.heap.size + 1, 0, none⟩ (.int .i64 tag)).setCell ⟨w.heap.size + 1, 1, none⟩ (.int .u64 num)).setCell ⟨w.heap.size + 1, 2, none⟩ (.slice ab bs.length cb)).setCell ⟨w.heap.size + 1, 3, none⟩ (.slice av k cv)) := fun b hb => (hAg b (.inl hb)).trans (hbelw.block b (HS.out b hb))
        refine bodyPost_ret (v := .agg #[.int .i64 tag, .int .u64 num, .slice ab bs.length cb, .slice av k cv]) (by simp [results, Try.results22, go_sem, s0, s1, s2, s3]) rfl ⟨_, rfl, ⟨by rw [HT3.out]; exact hn0, by rw [HT3.out]; exact hn1, ?_, ?_⟩, hbelw.trans (bset4 (by omega) _ _ _ _)⟩
        · rw [HT2.out]
          exact HB.out.agree hAS (fun b hb => .inl hb)
        · rw [HT1.out]
          have h2 := hKd.agree (fun _ _ _ r => r.agree hAg hsub) hAg hsub
          have e : (Value.slice av k cv) = .slice av ks.length cv := by rw [hkk.out]
          simpa [hkk.out] using h2

end Go.Proofs.Ytnnanmpogjmkiaa
