/-
  The reference's List, and Append.
-/
import Derived.Test.YtmiipifhbliamaaGreatSimRCmp
namespace Go.Proofs.YtmiipifhbliamaaGreat.Sim
open Go.RowKit Go.Maps

theorem Tryz.infoStr : (Tryz.prog.info? 9).map (fun i => (i.zero, i.size, i.bytes)) = some (some (.string ⟨#[]⟩), 1, 16) := by kernel_rfl

set_option maxHeartbeats 4000000 in
theorem rlist_any {Q : Nat → Prop} {N : Nat} (w : World) (m : Nat) (p : PS) (h : RSys Q N w m p) : Calls Tryz.prog 42 #[.pointer (some ⟨m, 0, none⟩)] w fun e w' => ∃ u, e = .returned u ∧ OwnN w' u (pList p) ∧ (∀ x, u.ownBlock = some x → w.heap.size ≤ x) ∧ Kp No w w' := by
  obtain ⟨D, vF, vS, vA, vC, us, F, h, hI, hF⟩ := h
  have hml := h.lt m h.qm
  have q2 : w.cell? ⟨m, 2, none⟩ = some vS := h.c 2
  have q6 : w.cell? ⟨m, 6, none⟩ = some (.bool p.down) := h.c 6
  have hls := hI.lseen
  have hbg := hI.big
  obtain ⟨sa, sc, rfl, hs1, hs2, hs3⟩ := h.seen
  have HS := hid hs3
  cases hd : p.down with
  | true =>
    have e : pList p = [] := by simp [pList, hd]
    rw [e]
    rw [hd] at q6
    clear h hI hF hs3 HS e hd
    by_cases hlt : (0 : Int) < (p.seen.length : Int)
    · go_enter Tryz.func42, Tryz.ntmps42
      go_wp2
      refine wp_loop_rounds 1 ?_
      rw [rounds_succ]
      go_wp2
      go_ret
      exact ⟨_, rfl, Row.nil _ _ _, by simp [Value.ownBlock], Kp.refl _ _⟩
    · go_enter Tryz.func42, Tryz.ntmps42
      go_wp2
      refine wp_loop_rounds 1 ?_
      rw [rounds_succ]
      go_wp2
      go_ret
      exact ⟨_, rfl, Row.nil _ _ _, by simp [Value.ownBlock], Kp.refl _ _⟩
  | false =>
    have HE : Hid (pList p = p.seen.map (·.1)) := by simp [Hid, pList, hd]
    rw [hd] at q6
    have r2 : Hid (∀ V, Kp No w V → V.cell? ⟨m, 2, none⟩ = some (.slice sa p.seen.length sc) ∧ V.cell? ⟨m, 6, none⟩ = some (.bool false)) := fun V k => ⟨(k.cell (p := ⟨m, 2, none⟩) hml (fun h => h)).trans q2, (k.cell (p := ⟨m, 6, none⟩) hml (fun h => h)).trans q6⟩
    clear h hI hF hs3 hd q2 q6
    go_enter Tryz.func42, Tryz.ntmps42
    go_wp2
    go_loopw [3, 4] (fun x y wr => ∃ (i : Nat) (ad : Option Addr) (cap : Nat), x = .slice ad i cap ∧ y = .int .i64 i ∧ i ≤ p.seen.length ∧ Hid (Row wr 9 1 (.slice ad i cap) i (((p.seen.take i).map (·.1)).map encStr)) ∧ Hid (∀ b, (Value.slice ad i cap).ownBlock = some b → w.heap.size ≤ b) ∧ Hid (Kp No w wr)) (fun _ y _ => p.seen.length - (intOf y).toNat)
    case atStart => exact ⟨0, none, 0, rfl, rfl, by omega, Row.nil _ _ _, by simp [Hid, Value.ownBlock], Kp.refl _ _⟩
    case round =>
      obtain ⟨i, ad, cap, rfl, rfl, hi, HR, HO, HK⟩ := hrel
      obtain ⟨z2, z6⟩ := r2.out _ HK.out
      by_cases hlt : i < p.seen.length
      · obtain ⟨g, rfl, _, hg, hcell⟩ := HS.out (by intro e; rw [e] at hlt; simp at hlt)
        obtain ⟨c, hc⟩ : ∃ c, p.seen[i]? = some c := ⟨_, List.getElem?_eq_getElem hlt⟩
        have e0 : wr.cell? ⟨g, i * 2, none⟩ = some (.string (sOf c.1)) := (HK.out.cell (p := ⟨g, i * 2, none⟩) hg (fun h => h)).trans (hcell i c hc 0 (by omega))
        have HT : Hid (((p.seen.take (i + 1)).map (·.1)).map encStr = ((p.seen.take i).map (·.1)).map encStr ++ [.string (sOf c.1)]) := by rw [Hid, List.take_add_one, hc]; simp; rfl
        generalize ((p.seen.take i).map (·.1)).map encStr = xs at *
        generalize sOf c.1 = sn at *
        clear hcell hc
        go_wp2_with (first | (at_builtin; refine app_row _ rfl _ _ 45 9 (.string ⟨#[]⟩) 1 16 rfl Tryz.underlying45 Tryz.infoStr rfl (by decide) (.slice ad i cap) (.slice (some ⟨wr.heap.size, 0, none⟩) 1 1) i 1 xs [.string sn] rfl rfl (HR.out.kept ((Kp.refl _ _).alloc _)) (Src.one wr [.string sn] 1 9 rfl (by intro u hu; simp at hu; rw [hu]; rfl)) (by omega) (by decide) ?_; intro a2 cap2 w2 hr2 hg2 hb2; have HR2 := hid hr2; have HG2 := hid hg2; have HB2 := hid hb2; clear hr2 hg2 hb2) | go_in)
        go_roundw
        case rel =>
          have hks := HK.out.size
          have hz : (wr.alloc (.cells #[.string sn] 9)).heap.size = wr.heap.size + 1 := by simp
          refine ⟨i + 1, a2, cap2, rfl, by go_num, by omega, by rw [HT.out]; exact HR2, fun b hb => ?_, (HK.out.alloc _).grown HG2.out (fun b hb => .inr (HO.out b hb))⟩
          rcases HB2.out with e | e
          · rw [e] at hb; exact HO.out b hb
          · rw [e] at hb; simp at hb; omega
        case measure => simp [intOf]; omega
      · obtain rfl : i = p.seen.length := by omega
        go_wp2
        go_ret
        refine ⟨_, rfl, ?_, HO.out, HK.out⟩
        have := HR.out
        rw [List.take_length] at this
        unfold OwnN
        rw [HE.out, List.length_map]
        exact this

end Go.Proofs.YtmiipifhbliamaaGreat.Sim
