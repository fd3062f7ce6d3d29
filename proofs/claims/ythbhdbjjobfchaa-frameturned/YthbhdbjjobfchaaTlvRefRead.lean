/-
  What the reference's read answers.
-/
import Derived.Test.YthbhdbjjobfchaaTlvBack
import Derived.Test.YthbhdbjjobfchaaTlvReadTop
import Derived.Deep.CutBlock
import Derived.Laws.AppendOwnNone
namespace Go.Proofs.Ythbhdbjjobfchaa.Tlv
open Go.RowKit
attribute [local go_sem ↓] Go.wp_at_zero Go.wp_at_succ

/-- What the reference's read does with bytes, where lists may be nested d deep. -/
def RReadOk (d : Nat) : Prop := ∀ (v : Value) (bs : List Int) (w : World), BySl 0 w.heap.size w v bs → Calls Try.prog 54 #[v, .int .i64 d] w fun e w' =>
  ((rd d bs = none ∧ e = .returned (.tuple #[.agg #[.int .i64 0, .int .u64 0, .slice none 0 0, .slice none 0 0], .int .i64 0])) ∨
    (∃ (t : Tr (d + 1)) (m : Nat) (sb sk : Value), rd d bs = some (t, m) ∧ e = .returned (.tuple #[.agg #[.int .i64 t.hd.1, .int .u64 t.hd.2.1, sb, sk], .int .i64 m]) ∧ RepS (fun b => w.heap.size ≤ b ∧ b < w'.heap.size) w' (d + 1) t sb sk)) ∧ Below w.heap.size w w'

theorem addr_plus (b o j : Nat) : (⟨b, o, none⟩ : Addr).add j = ⟨b, o + j, none⟩ := by unfold Addr.add; split <;> simp_all

theorem ownsRow_form' {w : World} {base n e size : Nat} {v : Value} {xs : List Value} (h : w.ownsRow base e size v n xs) : ∃ a c, v = .slice a n c := by
  rcases h.2 with ⟨rfl, h0⟩ | ⟨g, cap, cur, rfl, _⟩
  · exact ⟨_, _, by rw [h0]⟩
  · exact ⟨_, _, rfl⟩

/-- The block of a result that is still empty, behind a call (the reference's type). -/
theorem res_facts32 {w w1 : World} (hb : Below (w.heap.size + 1) (w.alloc (Obj.cells #[Value.int IntKind.i64 0, Value.int IntKind.u64 0, Value.slice none 0 0, Value.slice none 0 0] 93)) w1) :
    w.heap.size < w1.heap.size ∧ w1.cell? ⟨w.heap.size, 0, none⟩ = some (.int .i64 0) ∧ w1.cell? ⟨w.heap.size, 1, none⟩ = some (.int .u64 0) ∧ w1.cell? ⟨w.heap.size, 2, none⟩ = some (.slice none 0 0) ∧ w1.cell? ⟨w.heap.size, 3, none⟩ = some (.slice none 0 0) ∧ (∀ o, w1.frozen? ⟨w.heap.size, o, none⟩ = false) ∧ Below w.heap.size w w1 := by
  have hb' : Below (w.alloc (Obj.cells #[Value.int IntKind.i64 0, Value.int IntKind.u64 0, Value.slice none 0 0, Value.slice none 0 0] 93)).heap.size (w.alloc (Obj.cells #[Value.int IntKind.i64 0, Value.int IntKind.u64 0, Value.slice none 0 0, Value.slice none 0 0] 93)) w1 := by simpa using hb
  obtain ⟨hc, hf⟩ := bcell hb'
  have hz := hb.size
  simp at hz
  refine ⟨by omega, ?_, ?_, ?_, ?_, fun o => ?_, ((Below.refl _ _).alloc (Nat.le_refl _) _).trans (hb.mono (by omega))⟩
  · rw [hc _ _ (by simp)]; simp [go_sem]
  · rw [hc _ _ (by simp)]; simp [go_sem]
  · rw [hc _ _ (by simp)]; simp [go_sem]
  · rw [hc _ _ (by simp)]; simp [go_sem]
  · rw [hf _ _ (by simp)]; simp [go_sem]

set_option maxHeartbeats 2000000 in
set_option maxRecDepth 100000 in
theorem rread_of {d : Nat} (hd8 : d ≤ 8) (hrec : ∀ d', d = d' + 1 → RReadOk d') : RReadOk d := by
  intro v bs w h
  obtain ⟨a, cap, rfl, h2, h3, h4, h5, h6, h7⟩ := id h
  have H := hid h
  obtain ⟨R, hR⟩ : ∃ R, rd d bs = R := ⟨_, rfl⟩
  rw [hR]
  have HR := hid hR
  clear hR h h4
  by_cases hs : bs.length < 3
  · clear h6 h7
    go_enter Try.func54, Try.ntmps54
    go_wp2_with fail
    refine bodyPost_ret (v := .tuple #[.agg #[.int .i64 0, .int .u64 0, .slice none 0 0, .slice none 0 0], .int .i64 0]) (by simp [results, Try.results54, go_sem]) rfl ⟨.inl ⟨?_, rfl⟩, (Below.refl _ _).alloc (Nat.le_refl _) _⟩
    rw [← HR.out, rd_eq, rd1, if_pos hs]
  · obtain ⟨b, o, rfl, _, hbw, hc⟩ := h7 (by intro e; subst e; simp at hs)
    have c0 := hc 0 (by omega)
    have c1 := hc 1 (by omega)
    have c2 := hc 2 (by omega)
    have y0 : 0 ≤ bs.getD 0 0 ∧ bs.getD 0 0 ≤ 255 := by have := h6 bs[0] (List.getElem_mem _); simpa [List.getElem?_eq_getElem (show 0 < bs.length by omega)] using this
    have y1 : 0 ≤ bs.getD 1 0 ∧ bs.getD 1 0 ≤ 255 := by have := h6 bs[1] (List.getElem_mem _); simpa [List.getElem?_eq_getElem (show 1 < bs.length by omega)] using this
    have y2 : 0 ≤ bs.getD 2 0 ∧ bs.getD 2 0 ≤ 255 := by have := h6 bs[2] (List.getElem_mem _); simpa [List.getElem?_eq_getElem (show 2 < bs.length by omega)] using this
    clear h6 h7 hc
    have he : endOf bs = 3 + (bs.getD 1 0 * 256 + bs.getD 2 0).toNat := rfl
    obtain ⟨M, hM⟩ : ∃ M, (bs.getD 1 0 * 256 + bs.getD 2 0).toNat = M := ⟨_, rfl⟩
    rw [hM] at he
    have HE := hid he
    clear he
    generalize hx0 : bs.getD 0 0 = x0 at *
    generalize bs.getD 1 0 = x1 at *
    generalize bs.getD 2 0 = x2 at *
    have HX0 := hid hx0
    clear hx0
    rw [Nat.add_zero] at c0
    have HMx : Hid ((M : Int) = x1 * 256 + x2) := by rw [Hid]; omega
    clear hM
    have hS := hid hs
    obtain ⟨L, hL⟩ : ∃ L, bs.length = L := ⟨_, rfl⟩
    rw [hL] at h2 h5 hs ⊢
    have HL := hid hL
    clear hL
    have hM1 : M ≤ 65535 := by have := HMx.out; omega
    go_enter Try.func54, Try.ntmps54
    go_upto_region 3 with fail
    have hb0 : Hid (Below (w.heap.size + 1) (w.alloc (Obj.cells #[Value.int IntKind.i64 0, Value.int IntKind.u64 0, Value.slice none 0 0, Value.slice none 0 0] 93)) (w.alloc (Obj.cells #[Value.int IntKind.i64 0, Value.int IntKind.u64 0, Value.slice none 0 0, Value.slice none 0 0] 93))) := Below.refl _ _
    go_cut [6] (fun s wx => s = .int .i64 (M : Int) ∧ Hid (Below (w.heap.size + 1) (w.alloc (Obj.cells #[Value.int IntKind.i64 0, Value.int IntKind.u64 0, Value.slice none 0 0, Value.slice none 0 0] 93)) wx))
    case first =>
      go_quiet (fail)
      go_wp2_with fail
      go_meet
      exact ⟨congrArg (Value.int .i64) (by have := HMx.out; omega), below_drewN hb0.out _⟩
    case rest =>
      obtain ⟨rfl, HBel⟩ := hcut
      obtain ⟨wq, hwq⟩ : ∃ wq, wq = wc := ⟨_, rfl⟩
      subst hwq
      obtain ⟨hz, g0, g1, g2, g3, gf, hbel⟩ := res_facts32 HBel.out
      have HB := hid hbel
      have k0 : wq.cell? ⟨b, o, none⟩ = some (.int .u8 x0) := (hbel.cell (p := ⟨b, o, none⟩) hbw).trans c0
      have HBy : Hid (BySl 0 wq.heap.size wq (.slice (some ⟨b, o, none⟩) bs.length cap) bs) := H.out.agree (Agree.below hbel) (Nat.le_refl _) (by omega)
      clear hbel c0 c1 c2 hb0
      by_cases hlE : L < 3 + M
      · go_wp2_with fail
        obtain ⟨q0, q1, q2, q3⟩ := set4_read (u0 := .int .i64 0) (u1 := .int .u64 0) (u2 := .slice none 0 0) (u3 := .slice none 0 0) g0 g1 g2 g3
        refine bodyPost_ret (v := .tuple #[.agg #[.int .i64 0, .int .u64 0, .slice none 0 0, .slice none 0 0], .int .i64 0]) (by simp [results, Try.results54, go_sem, q0, q1, q2, q3]) rfl ⟨.inl ⟨?_, rfl⟩, HB.out.trans (bset4 (Nat.le_refl _) _ _ _ _)⟩
        rw [← HR.out, rd_eq, rd1, if_neg hS.out, HE.out, HL.out, if_pos hlE]
      · have hbw2 : b < wq.heap.size := by omega
        obtain ⟨ad, hA⟩ : ∃ ad, (if cap = 3 then some (⟨b, o, none⟩ : Addr) else some ⟨b, o + 3, none⟩) = some ad := by split <;> exact ⟨_, rfl⟩
        have HBm : Hid (BySl 0 wq.heap.size wq (.slice (some ad) M (cap - 3)) ((bs.take (3 + M)).drop 3)) := by
          have h := bySl_mid (E := 3 + M) HBy.out (by omega) (by rw [HL.out]; omega)
          rw [hA, show 3 + M - 3 = M by omega] at h
          exact h
        obtain ⟨body, hbody⟩ : ∃ body, (bs.take (3 + M)).drop 3 = body := ⟨_, rfl⟩
        rw [hbody] at HBm
        have hrd : Hid (R = (rdBody d (rdKids d) x0 body).map fun v => (v, 3 + M)) := by
          rw [Hid, ← HR.out, rd_eq, rd1, if_neg hS.out, HE.out, HL.out, if_neg hlE, HX0.out, hbody]
        have hbl : body.length = M := by rw [← hbody, List.length_drop, List.length_take_of_le (by rw [HL.out]; omega)]; omega
        have HBL := hid hbl
        have hcells : Hid (0 < M → ∃ b' o', ad = ⟨b', o', none⟩ ∧ b' < wq.heap.size ∧ ∀ i, i < M → wq.cell? ⟨b', o' + i, none⟩ = some (.int .u8 (body.getD i 0))) := by
          intro hp
          obtain ⟨_, _, e, _, _, _, _, _, h7⟩ := HBm.out
          simp only [Value.slice.injEq] at e
          obtain ⟨rfl, _, rfl⟩ := e
          obtain ⟨b', o', e, _, hb, hc⟩ := h7 (by intro e; rw [e] at hbl; simp at hbl; omega)
          rw [hbl] at hc
          exact ⟨b', o', by simpa using e, hb, hc⟩
        have hbytes : Hid (∀ x ∈ body, 0 ≤ x ∧ x ≤ 255) := by obtain ⟨_, _, _, _, _, _, _, h, _⟩ := HBm.out; exact h
        clear hbody hbl
        have hm3 : 3 + M - 3 = M := by omega
        have hdL : decide ((L : Int) < 3 + (M : Int)) = false := by simp; omega
        have hcap1 : cap ≤ 9223372036854775807 := h3
        go_upto_block 0 with fail
        simp only [hm3]
        clear hm3
        obtain ⟨W1, hW1⟩ : ∃ W1, W1 = wq.alloc (Obj.cells #[Value.int .i64 x0, Value.int .u64 0, Value.slice none 0 0, Value.slice none 0 0] 93) := ⟨_, rfl⟩
        have v0 : W1.cell? ⟨wq.heap.size, 0, none⟩ = some (.int .i64 x0) := by rw [hW1]; simp [go_sem]
        have v1 : W1.cell? ⟨wq.heap.size, 1, none⟩ = some (.int .u64 0) := by rw [hW1]; simp [go_sem]
        have v2 : W1.cell? ⟨wq.heap.size, 2, none⟩ = some (.slice none 0 0) := by rw [hW1]; simp [go_sem]
        have v3 : W1.cell? ⟨wq.heap.size, 3, none⟩ = some (.slice none 0 0) := by rw [hW1]; simp [go_sem]
        have vf : ∀ o, W1.frozen? ⟨wq.heap.size, o, none⟩ = false := by intro o; rw [hW1]; simp [go_sem]
        have HZ1 : Hid (W1.heap.size = wq.heap.size + 1) := by rw [Hid, hW1]; simp
        have HW1 : Hid (Below wq.heap.size wq W1) := by rw [Hid, hW1]; exact (Below.refl _ _).alloc (Nat.le_refl _) _
        have G0 : W1.cell? ⟨w.heap.size, 0, none⟩ = some (.int .i64 0) := by rw [hW1, World.cell?_alloc_past _ _ _ hz]; exact g0
        have G1 : W1.cell? ⟨w.heap.size, 1, none⟩ = some (.int .u64 0) := by rw [hW1, World.cell?_alloc_past _ _ _ hz]; exact g1
        have G2 : W1.cell? ⟨w.heap.size, 2, none⟩ = some (.slice none 0 0) := by rw [hW1, World.cell?_alloc_past _ _ _ hz]; exact g2
        have G3 : W1.cell? ⟨w.heap.size, 3, none⟩ = some (.slice none 0 0) := by rw [hW1, World.cell?_alloc_past _ _ _ hz]; exact g3
        have Gf : ∀ o, W1.frozen? ⟨w.heap.size, o, none⟩ = false := fun o => by rw [hW1, World.frozen?_alloc_past _ _ _ hz]; exact gf o
        rw [← hW1]
        clear hW1 g0 g1 g2 g3 gf k0
        have hnone : Hid (rdBody d (rdKids d) x0 body = none) → Hid (R = none) := fun h => by rw [Hid, hrd.out, h.out]; rfl
        have HNone := hid hnone
        clear hnone
        go_cut [5, 9, 10, 11, 12, 45, 75, 82] (fun _ _ _ _ _ _ _ _ wx => ∃ (t : Tr (d + 1)) (a a' : Option Addr) (l c l' c' : Nat), wx.cell? ⟨wq.heap.size, 0, none⟩ = some (.int .i64 t.hd.1) ∧ wx.cell? ⟨wq.heap.size, 1, none⟩ = some (.int .u64 t.hd.2.1) ∧ wx.cell? ⟨wq.heap.size, 2, none⟩ = some (.slice a l c) ∧ wx.cell? ⟨wq.heap.size, 3, none⟩ = some (.slice a' l' c') ∧
          Hid (rdBody d (rdKids d) x0 body = some t ∧ RepS (fun b => wq.heap.size + 1 ≤ b ∧ b < wx.heap.size) wx (d + 1) t (.slice a l c) (.slice a' l' c') ∧ Below wq.heap.size wq wx))
        case first =>
          by_cases h1 : x0 = 1
          · by_cases h8 : 8 < M
            · have HBn : Hid (rdBody d (rdKids d) x0 body = none) := by rw [Hid, rdBody, if_pos h1, if_pos (.inl (by rw [HBL.out]; exact h8))]
              have HRn := HNone.out HBn
              subst h1
              go_wp2_with fail
              obtain ⟨q0, q1, q2, q3⟩ := set4_read (u0 := .int .i64 0) (u1 := .int .u64 0) (u2 := .slice none 0 0) (u3 := .slice none 0 0) G0 G1 G2 G3
              refine bodyPost_ret (v := .tuple #[.agg #[.int .i64 0, .int .u64 0, .slice none 0 0, .slice none 0 0], .int .i64 0]) (by simp [results, Try.results54, go_sem, q0, q1, q2, q3]) rfl ⟨.inl ⟨HRn.out, rfl⟩, (HB.out.trans (HW1.out.mono (by omega))).trans (bset4 (Nat.le_refl _) _ _ _ _)⟩
            · have hq8 : decide ((8 : Int) < (M : Int)) = false := by simp; omega
              by_cases hM0 : M = 0
              · have hq0 : decide ((0 : Int) < (M : Int)) = false := by simp; omega
                have hbnil : body = [] := List.length_eq_zero_iff.1 (by rw [HBL.out]; exact hM0)
                have HBs : Hid (rdBody d (rdKids d) x0 body = some (Tr.mk 1 0 [] [])) := by rw [Hid, rdBody, if_pos h1, if_neg (by rw [hbnil]; simp), hbnil]; rfl
                clear hbnil
                subst h1
                go_wp2_with fail
                refine wp_loop_rounds 1 ?_
                rw [rounds_succ]
                go_wp2_with fail
                go_meet
                exact ⟨Tr.mk 1 0 [] [], _, _, _, _, _, _, v0, v1, v2, v3, HBs.out, ⟨Int.le_refl _, (by decide : (0 : Int) ≤ 18446744073709551615), BySlS.none _ _, KSlS.none _ _ _⟩, HW1.out⟩
              · obtain ⟨b', o', rfl, hb', hcb⟩ := hcells.out (by omega)
                have hq0 : decide ((0 : Int) < (M : Int)) = true := by simp; omega
                have e0 := hcb 0 (by omega)
                rw [Nat.add_zero] at e0
                have E0 : W1.cell? ⟨b', o', none⟩ = some (.int .u8 (body.getD 0 0)) := (HW1.out.cell (p := ⟨b', o', none⟩) hb').trans e0
                have hhead : Hid (body.head? = some (body.getD 0 0)) := by
                  rw [Hid]
                  cases hb : body with
                  | nil => have := HBL.out; rw [hb] at this; simp at this; omega
                  | cons y ys => simp
                have HCB := hid hcb
                clear hcb e0
                by_cases hy0 : body.getD 0 0 = 0
                · have HBn : Hid (rdBody d (rdKids d) x0 body = none) := by rw [Hid, rdBody, if_pos h1, if_pos (.inr (by rw [hhead.out, hy0]))]
                  have HRn := HNone.out HBn
                  rw [hy0] at E0
                  clear hy0
                  subst h1
                  go_wp2_with fail
                  obtain ⟨q0, q1, q2, q3⟩ := set4_read (u0 := .int .i64 0) (u1 := .int .u64 0) (u2 := .slice none 0 0) (u3 := .slice none 0 0) G0 G1 G2 G3
                  refine bodyPost_ret (v := .tuple #[.agg #[.int .i64 0, .int .u64 0, .slice none 0 0, .slice none 0 0], .int .i64 0]) (by simp [results, Try.results54, go_sem, q0, q1, q2, q3]) rfl ⟨.inl ⟨HRn.out, rfl⟩, (HB.out.trans (HW1.out.mono (by omega))).trans (bset4 (Nat.le_refl _) _ _ _ _)⟩
                · have HBs : Hid (rdBody d (rdKids d) x0 body = some (Tr.mk 1 (valB body) [] [])) := by rw [Hid, rdBody, if_pos h1, if_neg (by rw [HBL.out, hhead.out]; exact fun h => h.elim h8 (fun h => hy0 (Option.some.inj h)))]
                  have hyb : (body.getD 0 0 == 0) = false := by simpa using hy0
                  have Hy0 := hid hy0
                  clear hy0
                  generalize body.getD 0 0 = yy at E0 hyb
                  subst h1
                  go_wp2_with fail
                  go_loopw [9] (fun i wr => ∃ k : Nat, k ≤ M ∧ i = .int .i64 k ∧ wr.cell? ⟨wq.heap.size, 0, none⟩ = some (.int .i64 1) ∧ wr.cell? ⟨wq.heap.size, 1, none⟩ = some (.int .u64 (valB (body.take k))) ∧ wr.cell? ⟨wq.heap.size, 2, none⟩ = some (.slice none 0 0) ∧ wr.cell? ⟨wq.heap.size, 3, none⟩ = some (.slice none 0 0) ∧ (∀ o, wr.frozen? ⟨wq.heap.size, o, none⟩ = false) ∧ Hid (Below wq.heap.size wq wr)) (fun i _ => M - (intOf i).toNat)
                  case atStart => exact ⟨0, Nat.zero_le _, rfl, v0, by rw [v1]; simp [valB], v2, v3, vf, HW1.out⟩
                  case round =>
                    obtain ⟨k, hk, rfl, t0, t1, t2, t3, tf, HI⟩ := hrel
                    clear v0 v1 v2 v3 vf E0 hyb
                    by_cases hlt : k < M
                    · have hck := (HI.out.cell (p := ⟨b', o' + k, none⟩) hb').trans (HCB.out k hlt)
                      have hltb : k < body.length := by rw [HBL.out]; exact hlt
                      have hsn : Hid (valB (body.take (k + 1)) = valB (body.take k) * 256 + body.getD k 0) := by
                        rw [Hid, List.take_succ_eq_append_getElem hltb, valB_snoc]
                        simp [List.getElem?_eq_getElem hltb]
                      have hb0 : 0 ≤ body.getD k 0 ∧ body.getD k 0 ≤ 255 := by
                        have := hbytes.out (body[k]) (List.getElem_mem hltb)
                        simpa [List.getElem?_eq_getElem hltb] using this
                      have hv := valB_bd (body.take k) (fun x hx => hbytes.out x (List.mem_of_mem_take hx))
                      have hp := pow_le7 (body.take k).length (by rw [List.length_take_of_le (by omega)]; omega)
                      have hv2 : valB (body.take k) < 72057594037927936 := by omega
                      have hv1 := hv.1
                      clear hv hp hltb
                      generalize body.getD k 0 = y at hck hsn hb0
                      generalize valB (body.take k) = m at t1 hsn hv1 hv2
                      have hw1 : IntKind.u64.wrap (m * 256) = m * 256 := by rw [IntKind.wrap_u64]; omega
                      have hw2 : IntKind.u64.wrap y = y := by rw [IntKind.wrap_u64]; omega
                      have hw3 : IntKind.u64.wrap (m * 256 + y) = m * 256 + y := by rw [IntKind.wrap_u64]; omega
                      have hbne : b' ≠ wq.heap.size := by omega
                      go_wp2_with fail
                      go_region
                      all_goals go_wp2_with fail
                      all_goals
                        go_roundw
                        case rel => exact ⟨k + 1, by omega, by go_num, (cell_set_ne (by omega)).trans t0, by rw [hsn.out]; exact World.cell?_setCell_same _ _ _ t1, (cell_set_ne (by omega)).trans t2, (cell_set_ne (by omega)).trans t3, fun o => by rw [World.frozen?_drew, World.frozen?_setCell]; exact tf o, (HI.out.setCell (Nat.le_refl _) _).drew⟩
                        case measure => simp [intOf]; omega
                    · go_wp2_with fail
                      go_meet
                      have hkM : k = M := by omega
                      have hvb := valB_bd body hbytes.out
                      have hp8 := pow_le8 body.length (by rw [HBL.out]; omega)
                      rw [hkM, List.take_of_length_le (by rw [HBL.out]; omega)] at t1
                      exact ⟨Tr.mk 1 (valB body) [] [], _, _, _, _, _, _, t0, t1, t2, t3, HBs.out, ⟨hvb.1, by show valB body ≤ _; omega, BySlS.none _ _, KSlS.none _ _ _⟩, HI.out⟩
          · by_cases h2' : x0 = 2
            · have HBs : Hid (rdBody d (rdKids d) x0 body = some (Tr.mk 2 0 body [])) := by rw [Hid, rdBody, if_neg h1, if_pos h2']
              clear h1
              subst h2'
              obtain ⟨i0, hi, hz0, hz1, hz2⟩ := info_parts Try.info5
              have hnews : Hid (∀ j u, (body.map (Value.int .u8))[j]? = some u → W1.cell? (ad.add j) = some u) := by
                intro j u hj
                have hjn : j < body.length := by
                  have := (List.getElem?_eq_some_iff.1 hj).1
                  simpa using this
                obtain ⟨b', o', rfl, hb', hcb⟩ := hcells.out (by rw [HBL.out] at hjn; omega)
                rw [addr_plus, HW1.out.cell (p := ⟨b', o' + j, none⟩) hb', hcb j (by rw [HBL.out] at hjn; exact hjn)]
                simp only [List.getElem?_map, List.getElem?_eq_getElem hjn, Option.map_some, Option.some.injEq] at hj
                simp [List.getElem?_eq_getElem hjn, hj]
              have hone : Hid (∀ u ∈ body.map (Value.int .u8), u.oneCell' = true) := by intro u hu; obtain ⟨x, _, rfl⟩ := List.mem_map.1 hu; rfl
              have hnl : Hid ((body.map (Value.int .u8)).length = M * 1) := by rw [Hid, List.length_map, HBL.out]; omega
              go_wp2_with (at_builtin; go_must (refine wpList_append_own _ rfl _ _ 24 rfl W1.heap.size 5 i0 (.int .u8 0) 1 1 Try.underlying24 hi hz0 hz1 hz2 rfl (by decide) _ _ _ rfl (World.ownsRow_nil W1 W1.heap.size 5 1) ad M (cap - 3) (body.map (Value.int .u8)) rfl hnl.out hnews.out hone.out (by unfold maxLen; omega) (by omega) (Nat.le_refl _) ?_))
              intro v' w2 hown hgrow hnil
              have hs2 := hgrow.size
              replace hown : w2.ownsRow W1.heap.size 5 1 v' M (body.map (Value.int .u8)) := by simpa using hown
              obtain ⟨av, cv, rfl⟩ := ownsRow_form' hown
              have hbyl : Hid (BySlS (fun b => wq.heap.size + 1 ≤ b ∧ b < w2.heap.size) w2 (.slice av M cv) body) := by
                have K := BySl.own (base := W1.heap.size) (w := w2) (v := .slice av M cv) (bs := body) (by rw [HBL.out]; exact hown) (by rw [HBL.out]; omega) hbytes.out
                rw [HZ1.out] at K
                exact K.toS
              have u0 := hgrow.cell v0 (by simp [Value.ownBlock])
              have u1 := hgrow.cell v1 (by simp [Value.ownBlock])
              have u2 := hgrow.cell v2 (by simp [Value.ownBlock])
              have u3 := hgrow.cell v3 (by simp [Value.ownBlock])
              have hvW : wq.heap.size < W1.heap.size := by have := HZ1.out; omega
              have uf : ∀ o, w2.frozen? ⟨wq.heap.size, o, none⟩ = false := fun o => (hgrow.frozen_far ⟨wq.heap.size, o, none⟩ hvW (by simp [Value.ownBlock])).trans (vf o)
              have Hb2 : Hid (Below wq.heap.size wq w2) := HW1.out.grown hgrow (by omega) (by intro k e; simp [Value.ownBlock] at e)
              clear hown hgrow hnil v0 v1 v2 v3 vf G0 G1 G2 G3 Gf
              go_wp2_with fail
              go_meet
              refine ⟨Tr.mk 2 0 body [], _, _, _, _, _, _, (cell_set_ne (by omega)).trans u0, (cell_set_ne (by omega)).trans u1, World.cell?_setCell_same _ _ _ u2, (cell_set_ne (by omega)).trans u3, HBs.out, ⟨Int.le_refl _, (by decide : (0 : Int) ≤ 18446744073709551615), ?_, KSlS.none _ _ _⟩, Hb2.out.setCell (Nat.le_refl _) _⟩
              exact hbyl.out.agree (fun b hb => Below.heap_setCell _ _ _ _ (by have := hb.1; simp; omega)) (fun b hb => ⟨hb.1, by simp; exact hb.2⟩)
            · by_cases h3' : x0 = 3
              · cases d with
                | zero =>
                  have HBn : Hid (rdBody 0 (rdKids 0) x0 body = none) := by rw [Hid, rdBody, if_neg h1, if_neg h2', if_pos h3']; rfl
                  have HRn := HNone.out HBn
                  clear h1 h2'
                  subst h3'
                  go_wp2_with fail
                  obtain ⟨q0, q1, q2, q3⟩ := set4_read (u0 := .int .i64 0) (u1 := .int .u64 0) (u2 := .slice none 0 0) (u3 := .slice none 0 0) G0 G1 G2 G3
                  refine bodyPost_ret (v := .tuple #[.agg #[.int .i64 0, .int .u64 0, .slice none 0 0, .slice none 0 0], .int .i64 0]) (by simp [results, Try.results54, go_sem, q0, q1, q2, q3]) rfl ⟨.inl ⟨HRn.out, rfl⟩, (HB.out.trans (HW1.out.mono (by omega))).trans (bset4 (Nat.le_refl _) _ _ _ _)⟩
                | succ d' =>
                  have hrk := hid (hrec d' rfl)
                  obtain ⟨i0, hi, hz0, hz1, hz2⟩ := info_parts Try.info93
                  have HBk : Hid (rdBody (d' + 1) (rdKids (d' + 1)) x0 body = (rdKids (d' + 1) body).map fun ks => Tr.mk 3 0 [] ks) := by rw [Hid, rdBody, if_neg h1, if_neg h2', if_pos h3']
                  obtain ⟨K, hK⟩ : ∃ K, rdKids (d' + 1) body = K := ⟨_, rfl⟩
                  have hKl : rdList (rd d') M body = K := by rw [← hK, ← HBL.out]; rfl
                  have HKl := hid hKl
                  have HK := hid hK
                  clear h1 h2' hK hKl
                  subst h3'
                  have hdz : ((((d' + 1 : Nat)) : Int) == 0) = false := by simp; omega
                  go_wp2_with fail
                  go_loopg [10] M (fun k x wr => ∃ (i : Nat) (v : Value) (ts : List (Tr (d' + 1))), x = .int .i64 i ∧ i ≤ M ∧ M - i ≤ k ∧ k ≤ M ∧ wr.cell? ⟨wq.heap.size, 0, none⟩ = some (.int .i64 3) ∧ wr.cell? ⟨wq.heap.size, 1, none⟩ = some (.int .u64 0) ∧ wr.cell? ⟨wq.heap.size, 2, none⟩ = some (.slice none 0 0) ∧ wr.cell? ⟨wq.heap.size, 3, none⟩ = some v ∧ (∀ o, wr.frozen? ⟨wq.heap.size, o, none⟩ = false) ∧
                    Hid (BInv (fun _ => False) (wq.heap.size + 1) ts v wr ∧ Below wq.heap.size wq wr ∧ wq.heap.size + 1 ≤ wr.heap.size ∧ ts.length + k ≤ M ∧ (rdList (rd d') k (body.drop i)).map (ts ++ ·) = K))
                  case atStart => exact ⟨0, _, [], rfl, Nat.zero_le _, by omega, Nat.le_refl _, v0, v1, v2, v3, vf, BInv.nil _ _ _, HW1.out, by rw [HZ1.out]; exact Nat.le_refl _, by simp, by rw [List.drop_zero, HKl.out]; cases K <;> simp⟩
                  case round =>
                    obtain ⟨i, v, ts, rfl, hi0, hi1, hi2, t0, t1, t2, t3, tf, HI⟩ := hrel
                    clear v0 v1 v2 v3 vf G0 G1 G2 G3 Gf
                    have hws := HI.out.2.2.1
                    obtain ⟨av, cv, hv⟩ := HI.out.1.form
                    subst hv
                    by_cases hlt : i < M
                    · obtain ⟨b', o', rfl, hb', hcb⟩ := hcells.out (by omega)
                      have HCB := hid hcb
                      clear hcb
                      have hbsl : Hid (BySl 0 wr.heap.size wr (.slice (if cap - 3 = i then some ⟨b', o', none⟩ else some ⟨b', o' + i, none⟩) (M - i) (cap - 3 - i)) (body.drop i)) := by
                        have hq := HBm.out.agree (Agree.below HI.out.2.1) (Nat.le_refl _) (B' := wr.heap.size) (by omega)
                        rw [← HBL.out] at hq
                        have := bySl_rest hq i (by rw [HBL.out]; omega) rfl
                        rw [HBL.out] at this
                        exact this
                      have hcapM : M ≤ cap - 3 := by omega
                      have hne : Hid (body.drop i ≠ []) := by intro e; have := congrArg List.length e; simp [HBL.out] at this; omega
                      have hcI : (i : Int) ≤ (cap - 3 : Nat) := by omega
                      rw [if_neg (by omega)] at hbsl
                      go_wp2_with fail
                      refine (hrk.out _ (body.drop i) wr hbsl.out).mono ?_
                      rintro e w1 ⟨hres, hb1⟩
                      have Hb1 := hid hb1
                      have hs1 := hb1.size
                      have hvw : wq.heap.size < wr.heap.size := by omega
                      have U0 : w1.cell? ⟨wq.heap.size, 0, none⟩ = some (.int .i64 3) := (hb1.cell (p := ⟨wq.heap.size, 0, none⟩) hvw).trans t0
                      have U1 : w1.cell? ⟨wq.heap.size, 1, none⟩ = some (.int .u64 0) := (hb1.cell (p := ⟨wq.heap.size, 1, none⟩) hvw).trans t1
                      have U2 : w1.cell? ⟨wq.heap.size, 2, none⟩ = some (.slice none 0 0) := (hb1.cell (p := ⟨wq.heap.size, 2, none⟩) hvw).trans t2
                      have U3 : w1.cell? ⟨wq.heap.size, 3, none⟩ = some (.slice av ts.length cv) := (hb1.cell (p := ⟨wq.heap.size, 3, none⟩) hvw).trans t3
                      have Uf : ∀ o, w1.frozen? ⟨wq.heap.size, o, none⟩ = false := fun o => (hb1.frozen (p := ⟨wq.heap.size, o, none⟩) hvw).trans (tf o)
                      have hvw1 : wq.heap.size < w1.heap.size := by omega
                      have Hbq : Hid (Below wq.heap.size wq w1) := HI.out.2.1.trans (hb1.mono (by omega))
                      clear hb1 t0 t1 t2 t3 tf
                      obtain ⟨k', rfl⟩ : ∃ k', gk = k' + 1 := ⟨gk - 1, by omega⟩
                      rcases hres with ⟨hnone, rfl⟩ | ⟨t1', m, sb1, sk1, hsome, rfl, hr1⟩
                      · have HRn := HNone.out (by rw [Hid, HBk.out, HK.out, ← HI.out.2.2.2.2, rdList_fail hne.out hnone]; rfl)
                        obtain ⟨hz', g0, g1, g2, g3, gf, hbel⟩ := res_facts32 (HBel.out.trans (Hbq.out.mono (by omega)))
                        have HB2 := hid hbel
                        clear hbel hnone
                        go_wp2_with fail
                        obtain ⟨q0, q1, q2, q3⟩ := set4_read (u0 := .int .i64 0) (u1 := .int .u64 0) (u2 := .slice none 0 0) (u3 := .slice none 0 0) g0 g1 g2 g3
                        refine bodyPost_ret (v := .tuple #[.agg #[.int .i64 0, .int .u64 0, .slice none 0 0, .slice none 0 0], .int .i64 0]) (by simp [results, Try.results54, go_sem, q0, q1, q2, q3, hz']) rfl ⟨.inl ⟨HRn.out, rfl⟩, (HB2.out.trans (bset4 (Nat.le_refl _) _ _ _ _)).alloc (by simp; omega) _⟩
                      · have hm := rd_pos hsome
                        have hml : m ≤ M - i := by have := hm.2; rw [List.length_drop, HBL.out] at this; exact this
                        have HSm := hid hsome
                        obtain ⟨a3, l3, p3, a4, l4, p4, rfl, rfl⟩ := hr1.sl
                        have Hr1 := hid hr1
                        have hmz : ((m : Int) == 0) = false := by simp; omega
                        clear hsome hr1
                        have inv1 : BInv (fun _ => False) (wq.heap.size + 1) ts (.slice av ts.length cv) ((w1.alloc (Obj.cells #[Value.int .i64 t1'.hd.1, Value.int .u64 t1'.hd.2.1, Value.slice a3 l3 p3, Value.slice a4 l4 p4] 93)).alloc (Obj.cells #[Value.int .i64 t1'.hd.1, Value.int .u64 t1'.hd.2.1, Value.slice a3 l3 p3, Value.slice a4 l4 p4] 93)) :=
                          HI.out.1.agree (fun _ h => h.elim) ((((Agree.below Hb1.out).alloc hs1 _).alloc (by simp; omega) _)) (by simp; omega)
                        have hr2 : Hid (RepS (fun b => False ∨ (wr.heap.size ≤ b ∧ b < w1.heap.size)) ((w1.alloc (Obj.cells #[Value.int .i64 t1'.hd.1, Value.int .u64 t1'.hd.2.1, Value.slice a3 l3 p3, Value.slice a4 l4 p4] 93)).alloc (Obj.cells #[Value.int .i64 t1'.hd.1, Value.int .u64 t1'.hd.2.1, Value.slice a3 l3 p3, Value.slice a4 l4 p4] 93)) (d' + 1) t1' (.slice a3 l3 p3) (.slice a4 l4 p4)) :=
                          Hr1.out.agree (fun b hb => (Below.heap_alloc _ _ _ (by simp; have := hb.2; omega)).trans (Below.heap_alloc _ _ _ hb.2)) (fun b hb => .inr hb)
                        have hlt0 := hid HI.out.1.lt
                        obtain ⟨ps, hl, hown, hkid⟩ := inv1
                        have HO := hid hown
                        have HKid := hid hkid
                        have HLn := hid hl
                        clear hown hkid hl
                        have htl := HI.out.2.2.2.1
                        have hnews := hid (new4 (w1.alloc (Obj.cells #[Value.int .i64 t1'.hd.1, Value.int .u64 t1'.hd.2.1, Value.slice a3 l3 p3, Value.slice a4 l4 p4] 93)) t1' (.slice a3 l3 p3) (.slice a4 l4 p4))
                        have hone := hid (one4 t1' a3 l3 p3 a4 l4 p4)
                        go_wp2_with (at_builtin; go_must (refine wpList_append_lies _ rfl _ _ 91 rfl (wq.heap.size + 1) 93 i0 _ 4 64 Try.underlying91 hi hz0 hz1 hz2 rfl (by decide) _ ts.length (cellsK ts ps) rfl HO.out ⟨w1.heap.size + 1, 0, none⟩ 1 1 (cell4 t1' (.slice a3 l3 p3, .slice a4 l4 p4)) rfl rfl (by simpa using hnews.out) hone.out (by omega) (by unfold maxLen; omega) (by omega) (by simp; omega) (w1.heap.size + 1 + 1) (by simp) ?_))
                        intro g' cap' w2 hown2 hgrow2 hat2 hlt2
                        have hs2 := hgrow2.size
                        simp at hs2
                        have hneb : some wq.heap.size ≠ (Value.slice av ts.length cv).ownBlock := fun e => by have := (hlt0.out _ e.symm).1; omega
                        have J0 : w2.cell? ⟨wq.heap.size, 0, none⟩ = some (.int .i64 3) := (hgrow2.cell_far ⟨wq.heap.size, 0, none⟩ (by simp; omega) hneb).trans ((World.cell?_alloc_past _ _ _ (by simp; omega)).trans ((World.cell?_alloc_past _ _ _ hvw1).trans U0))
                        have J1 : w2.cell? ⟨wq.heap.size, 1, none⟩ = some (.int .u64 0) := (hgrow2.cell_far ⟨wq.heap.size, 1, none⟩ (by simp; omega) hneb).trans ((World.cell?_alloc_past _ _ _ (by simp; omega)).trans ((World.cell?_alloc_past _ _ _ hvw1).trans U1))
                        have J2 : w2.cell? ⟨wq.heap.size, 2, none⟩ = some (.slice none 0 0) := (hgrow2.cell_far ⟨wq.heap.size, 2, none⟩ (by simp; omega) hneb).trans ((World.cell?_alloc_past _ _ _ (by simp; omega)).trans ((World.cell?_alloc_past _ _ _ hvw1).trans U2))
                        have J3 : w2.cell? ⟨wq.heap.size, 3, none⟩ = some (.slice av ts.length cv) := (hgrow2.cell_far ⟨wq.heap.size, 3, none⟩ (by simp; omega) hneb).trans ((World.cell?_alloc_past _ _ _ (by simp; omega)).trans ((World.cell?_alloc_past _ _ _ hvw1).trans U3))
                        have Jf : ∀ o, w2.frozen? ⟨wq.heap.size, o, none⟩ = false := fun o => (hgrow2.frozen_far ⟨wq.heap.size, o, none⟩ (by simp; omega) hneb).trans ((World.frozen?_alloc_past _ _ _ (by simp; omega)).trans ((World.frozen?_alloc_past _ _ _ hvw1).trans (Uf o)))
                        have inv2 : Hid (BInv (fun _ => False) (wq.heap.size + 1) (ts ++ [t1']) (.slice (some ⟨g', 0, none⟩) (ts.length + 1) cap') w2) :=
                          BInv.push (g := g') (cap := cap') HLn.out (fun _ h => h.elim) (by simp; omega) HKid.out hr2.out hws (by simp; omega) (fun r e => ⟨(hlt0.out r e).1, .inl (hlt0.out r e).2⟩) hown2 hgrow2 (by simpa using hat2)
                        have bel2 : Hid (Below wq.heap.size wq w2) := ((Hbq.out.alloc (by omega) _).alloc (by simp; omega) _).grown hgrow2 (by simp; omega) (fun r e => by have := (hlt0.out r e).1; omega)
                        have hrel' : Hid ((rdList (rd d') k' (body.drop (i + m))).map (ts ++ [t1'] ++ ·) = K) := by
                          have e := HI.out.2.2.2.2
                          rw [rdList_step hne.out HSm.out, Option.map_map, List.drop_drop] at e
                          rw [Hid, ← e]
                          congr 1
                          funext x
                          simp
                        clear hown2 hgrow2 hat2 U0 U1 U2 U3 Uf
                        go_wp2_with fail
                        go_roundg k'
                        case measure => omega
                        case rel => exact ⟨i + m, .slice (some ⟨g', 0, none⟩) (ts.length + 1) cap', ts ++ [t1'], by go_num, by omega, by omega, by omega, (cell_set_ne (by omega)).trans J0, (cell_set_ne (by omega)).trans J1, (cell_set_ne (by omega)).trans J2, World.cell?_setCell_same _ _ _ J3, fun o => by rw [World.frozen?_setCell]; exact Jf o, inv2.out.agree (fun _ h => h.elim) ((Agree.refl _ _ _).setCell (.inl (by simp)) _) (by simp), bel2.out.setCell (Nat.le_refl _) _, by simp; omega, by simp; omega, hrel'.out⟩
                    · go_wp2_with fail
                      go_meet
                      have hts := HI.out.1.done (by have := HI.out.2.2.2.1; omega)
                      have hKs : K = some ts := by
                        rw [← HI.out.2.2.2.2, List.drop_of_length_le (by rw [HBL.out]; omega)]
                        cases gk <;> simp [rdList]
                      refine ⟨Tr.mk 3 0 [] ts, _, _, _, _, _, _, t0, t1, t2, t3, ?_, ⟨Int.le_refl _, (by decide : (0 : Int) ≤ 18446744073709551615), BySlS.none _ _, ?_⟩, HI.out.2.1⟩
                      · rw [HBk.out, HK.out, hKs]; rfl
                      · exact hts.agree (fun _ _ _ r => r.agree (fun _ _ => rfl) (fun b hb => hb.elim (fun h => h.elim) id)) (fun _ _ => rfl) (fun b hb => hb.elim (fun h => h.elim) id)
              · have HBn : Hid (rdBody d (rdKids d) x0 body = none) := by rw [Hid, rdBody, if_neg h1, if_neg h2', if_neg h3']
                have HRn := HNone.out HBn
                go_wp2_with fail
                obtain ⟨q0, q1, q2, q3⟩ := set4_read (u0 := .int .i64 0) (u1 := .int .u64 0) (u2 := .slice none 0 0) (u3 := .slice none 0 0) G0 G1 G2 G3
                refine bodyPost_ret (v := .tuple #[.agg #[.int .i64 0, .int .u64 0, .slice none 0 0, .slice none 0 0], .int .i64 0]) (by simp [results, Try.results54, go_sem, q0, q1, q2, q3]) rfl ⟨.inl ⟨HRn.out, rfl⟩, (HB.out.trans (HW1.out.mono (by omega))).trans (bset4 (Nat.le_refl _) _ _ _ _)⟩
        case rest =>
          obtain ⟨t, a, a', l, c, l', c', t0, t1, t2, t3, HX⟩ := hcut
          clear v0 v1 v2 v3 vf G0 G1 G2 G3 Gf
          have hzq := hz
          obtain ⟨hz', g0, g1, g2, g3, gf, hbel⟩ := res_facts32 (HBel.out.trans (HX.out.2.2.mono (by omega)))
          have HB2 := hid hbel
          clear hbel
          go_wp2_with fail
          obtain ⟨q0, q1, q2, q3⟩ := set4_read (u0 := .int .i64 t.hd.1) (u1 := .int .u64 t.hd.2.1) (u2 := .slice a l c) (u3 := .slice a' l' c') g0 g1 g2 g3
          have hAg : AgreeS (fun b => wq.heap.size + 1 ≤ b ∧ b < wc.heap.size) wc ((((wc.setCell ⟨w.heap.size, 0, none⟩ (.int .i64 t.hd.1)).setCell ⟨w.heap.size, 1, none⟩ (.int .u64 t.hd.2.1)).setCell ⟨w.heap.size, 2, none⟩ (.slice a l c)).setCell ⟨w.heap.size, 3, none⟩ (.slice a' l' c')) := fun b hb => by
            have hne : b ≠ w.heap.size := by have := hb.1; omega
            rw [Below.heap_setCell _ _ _ _ hne, Below.heap_setCell _ _ _ _ hne, Below.heap_setCell _ _ _ _ hne, Below.heap_setCell _ _ _ _ hne]
          refine bodyPost_ret (v := .tuple #[.agg #[.int .i64 t.hd.1, .int .u64 t.hd.2.1, .slice a l c, .slice a' l' c'], .int .i64 (3 + (M : Int))]) (by simp [results, Try.results54, go_sem, q0, q1, q2, q3]) rfl ⟨.inr ?_, HB2.out.trans (bset4 (Nat.le_refl _) _ _ _ _)⟩
          have hfin : R = some (t, 3 + M) := by rw [hrd.out, HX.out.1]; rfl
          have hrep := HX.out.2.1.agree hAg (S' := fun b => w.heap.size ≤ b ∧ b < ((((wc.setCell ⟨w.heap.size, 0, none⟩ (.int .i64 t.hd.1)).setCell ⟨w.heap.size, 1, none⟩ (.int .u64 t.hd.2.1)).setCell ⟨w.heap.size, 2, none⟩ (.slice a l c)).setCell ⟨w.heap.size, 3, none⟩ (.slice a' l' c')).heap.size) (fun b hb => ⟨by have := hb.1; omega, by simp; exact hb.2⟩)
          exact ⟨t, 3 + M, .slice a l c, .slice a' l' c', hfin, by rw [show ((3 + M : Nat) : Int) = 3 + (M : Int) by omega], hrep⟩

theorem rreadOk : ∀ d, d ≤ 8 → RReadOk d
  | 0, _ => rread_of (by omega) (fun _ e => by omega)
  | d + 1, h => rread_of h (fun d' e => by have : d = d' := by omega
                                           subst this
                                           exact rreadOk d (by omega))

end Go.Proofs.Ythbhdbjjobfchaa.Tlv
