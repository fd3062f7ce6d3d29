/-
  feed, walked.
-/
import Derived.Test.YtinijgkkmfdfiaaDoorFeed
import Derived.Deep.DeepCutAuto
namespace Go.Proofs.YtinijgkkmfdfiaaDoor
open Go.RowKit

theorem with_it {p q : Prop} (h : p) (k : p → q) : q := k h

set_option maxHeartbeats 2000000 in
set_option maxRecDepth 100000 in
theorem feed_any {f : FuncId} {caps : Array Value} {T : World → List Nat → List (List Nat) → Prop} (ht : Teller f caps T) (w : World) (sb gb s mn av mx m : Nat) (wt : List Nat) (v : Value) (c : Bool) (l : List Nat) (cs : List (List Nat)) (b : Value) (bs : List Nat)
    (S : StX w sb gb s mn av mx m (hashOf s wt) wt v c) (hT : T w l cs) (hd : ∀ x ∈ l, x ∉ fp sb gb v) (hb : ByP (fun g => g ∉ fp sb gb v ∧ g ∉ l) w b bs) (hn : wt.length + bs.length ≤ 50000) (hc : cs.length + bs.length ≤ 50000) :
    Calls Tryd.prog 34 #[.pointer (some ⟨sb, 0, none⟩), b, .func (.func 35) #[.pointer (some ⟨sb, 0, none⟩)] #[], .func (.func f) #[] caps] w fun e w' => e = .returned (.tuple #[]) ∧
      Fed T w (fp sb gb v) l sb gb s mn av mx m c w' (fin c (feed (endB s mn mx m) cs wt bs)) := by
  have HT := hid ht
  have H0 : Hid (FI T w (fp sb gb v) l sb gb s mn av mx m c w (hashOf s wt) cs wt) := ⟨v, l, S, hT, Kp.refl _ _, fun x hx => .inl hx, fun x hx => .inl hx, hd⟩
  have HBY := hid hb
  obtain ⟨a, cap, rfl, hcap, hcm, _⟩ := hb
  have hsw := S.lt
  clear ht S hT hd
  obtain ⟨L, hL⟩ : ∃ L, bs.length = L := ⟨_, rfl⟩
  have HL := hid hL
  rw [hL] at hn hc hcap ⊢
  clear hL
  generalize hF : fp sb gb v = F at *
  clear hF
  go_enter Tryd.func34, Tryd.ntmps34
  go_wp2_with fail
  go_loopw [12] (fun i wr => ∃ k : Nat, k ≤ L ∧ i = .int .i64 k ∧ Hid (FI T w F l sb gb s mn av mx m c wr (hashOf s (feed (endB s mn mx m) cs wt (bs.take k)).2) (feed (endB s mn mx m) cs wt (bs.take k)).1 (feed (endB s mn mx m) cs wt (bs.take k)).2)) (fun i _ => L - (intOf i).toNat)
  case atStart => exact ⟨0, Nat.zero_le _, rfl, by rw [List.take_zero, feed_nil]; exact H0.out⟩
  case round =>
    clear H0
    obtain ⟨k, hk, rfl, HI⟩ := hrel
    by_cases hlt : k < L
    · obtain ⟨g, o, rfl, ⟨hgF, hgl⟩, hg, hcell⟩ : ∃ g o, a = some ⟨g, o, none⟩ ∧ (g ∉ F ∧ g ∉ l) ∧ g < w.heap.size ∧ ∀ i, i < bs.length → w.cell? ⟨g, o + i, none⟩ = some (.int .u8 (bs.getD i 0 : Nat)) := by
        obtain ⟨a', cap', e, _, _, _, _, _, h7⟩ := HBY.out
        cases e
        exact h7 (by intro e; have := HL.out; rw [e] at this; simp at this; omega)
      have hx : bs.getD k 0 < 256 := by
        obtain ⟨a', cap', e, _, _, _, _, h6, _⟩ := HBY.out
        exact getD_lt h6 (by have := HL.out; omega)
      have hkI : (k : Int) < (L : Int) := by omega
      have hsn := hid (feed_succ (E := endB s mn mx m) cs wt bs k (by have := HL.out; omega))
      have hct := hid (feed_count (E := endB s mn mx m) (bs.take k) cs wt)
      have hcw := hcell k (by have := HL.out; omega)
      clear hcell
      obtain ⟨vk, lk, Sk, Tk, Kk, hFk, hlk, hdk⟩ := HI.out
      have c1 : wr.cell? ⟨g, o + k, none⟩ = some (.int .u8 (bs.getD k 0 : Nat)) := (Kk.cell (p := ⟨g, o + k, none⟩) hg (by simp only [List.mem_append]; exact fun h => h.elim hgF hgl)).trans hcw
      clear hcw
      have c0 := Sk.c0
      have c6 := Sk.c6
      have f6 := Sk.fz 6
      have hsr := Sk.lt
      obtain ⟨fl, hfl, G⟩ := Sk.gr
      have HG : Hid (Gr wr.drew gb s fl) := G.below ((Below.refl wr.heap.size wr).drew) G.1
      have C6 : Hid (wr.drew.cell? ⟨sb, 6, none⟩ = some (.int .u64 (hashOf s (feed (endB s mn mx m) cs wt (bs.take k)).2))) := c6
      have F6 : Hid (wr.drew.frozen? ⟨sb, 6, none⟩ = false) := f6
      have hhr := hid Sk
      clear Sk Tk Kk hFk hlk hdk G
      generalize bs.getD k 0 = x at *
      have hlt1 := hid (roll_lt s (hashOf s (feed (endB s mn mx m) cs wt (bs.take k)).2) x)
      have hre := hid (hashOf_app s (feed (endB s mn mx m) cs wt (bs.take k)).2 [x])
      generalize feed (endB s mn mx m) cs wt (bs.take k) = p at *
      generalize hashOf s p.2 = h at *
      go_wp2_with fail
      go_cut [] (fun wx => Hid (FI T w F l sb gb s mn av mx m c wx (roll s h x) p.1 p.2))
      case first =>
        go_region_with (go_at_call 45; refine (roll12_any gb s fl h x hx wr.drew hfl HG.out).mono ?_; rintro e w1 ⟨rfl, hk1, hg1⟩; have d6 : w1.cell? ⟨sb, 6, none⟩ = some (.int .u64 h) := (hk1.cell (p := ⟨sb, 6, none⟩) hsr hhr.out.ne1).trans C6.out; have g6 : w1.frozen? ⟨sb, 6, none⟩ = false := (hk1.frozen (p := ⟨sb, 6, none⟩) hsr hhr.out.ne1).trans F6.out; have HK1 := hid hk1; have HG1 := hid hg1; clear hk1 hg1)
        all_goals
          go_wp2_with fail
          go_meet
          exact (HI.out.drew HT.out).rolled HT.out HK1.out HG1.out _ hlt1.out
      case rest =>
        have HFI : Hid (FI T w F l sb gb s mn av mx m c wc (roll s h x) p.1 p.2) := hcut
        clear hcut HI hhr HG C6 F6 c0 c6 c1 f6 hsr hfl
        obtain ⟨vk, lk, Sk, Tk, Kk, hFk, hlk, hdk⟩ := HFI.out
        have c7 := Sk.c7
        have hsr := Sk.lt
        have hln : p.2.length < 50000 := by have := hct.out.2; have := List.length_take_le k bs; omega
        have hcs : p.1.length ≤ 50000 := by have := hct.out.1; have := List.length_take_le k bs; omega
        have hrow0 : Hid (Row (wc.alloc (.cells #[.int .u8 (x : Int)] 5)) 5 vk (cl p.2)) := Sk.own.row.kp (m := []) ((Kp.refl _ _).alloc _) (by simp)
        have HS := hid Sk
        have HTk := hid (And.intro Tk (And.intro Kk (And.intro hFk (And.intro hlk hdk))))
        clear Sk Tk Kk hFk hlk hdk HFI
        go_upto_region 5 with (at_builtin; refine app_rowS _ rfl _ _ 25 5 (.int .u8 0) 1 rfl Tryd.underlying25 Tryd.info5 rfl vk _ (cl p.2) [.int .u8 (x : Int)] (p.2.length + 1) (by rw [cl_length]; rfl) rfl rfl hrow0.out (Src.one _ _ _ rfl) (by omega) (by decide) ?_; intro aw cv w1 hrow hgr hvb; have kg : Kp vk.ownBlock.toList (wc.alloc (.cells #[.int .u8 (x : Int)] 5)) w1 := (Kp.refl _ _).grown hgr (fun x hx => .inl (by simp [hx])); have hsn7 : sb ∉ vk.ownBlock.toList := fun hx => (HS.out.ne2 sb (by simpa using hx)).1 rfl; have d7 : w1.cell? ⟨sb, 7, none⟩ = some vk := (kg.cell (p := ⟨sb, 7, none⟩) (by simp; omega) hsn7).trans ((World.cell?_alloc_past _ _ _ hsr).trans c7); have g7 : w1.frozen? ⟨sb, 7, none⟩ = false := (kg.frozen (p := ⟨sb, 7, none⟩) (by simp; omega) hsn7).trans ((((Kp.refl [] wc).alloc _).frozen (p := ⟨sb, 7, none⟩) hsr (by simp)).trans (HS.out.fz 7)); have HROW := hid hrow; have HGR := hid hgr; have HVB := hid hvb; clear kg hsn7 hrow hgr hvb)
        have HF4 : Hid (FI T w F l sb gb s mn av mx m c (w1.setCell ⟨sb, 7, none⟩ (.slice aw (p.2.length + 1) cv)) (hashOf s (p.2 ++ [x])) p.1 (p.2 ++ [x])) := by
          rw [Hid, hre.out, hashFrom_one]
          exact FI.pushed HT.out _ HS.out HTk.out.1 HTk.out.2.1 HTk.out.2.2.1 HTk.out.2.2.2.1 HTk.out.2.2.2.2 x hx (by omega) HROW.out HGR.out HVB.out
        clear HROW HGR HVB d7 g7 HS HTk hrow0 c7
        generalize w1.setCell ⟨sb, 7, none⟩ (.slice aw (p.2.length + 1) cv) = W4 at *
        have hst := hid (step_yes (E := endB s mn mx m) (st := p) (c := x))
        have hsf := hid (step_no (E := endB s mn mx m) (st := p) (c := x))
        have hne : Hid (p.2 ++ [x] ≠ []) := by rw [Hid]; simp
        have hl4 : (p.2 ++ [x]).length ≤ 100000 := by simp; omega
        generalize p.2 ++ [x] = y at *
        cases hE : endB s mn mx m y with
        | false =>
          have HE := hid hE
          clear hE
          go_upto_region 7 with (go_at_call 46; refine with_it HF4.out ?_; rintro ⟨v4, l4, S4, T4, r4⟩; refine (atEnd_any W4 sb gb s mn av mx m y v4 c S4).mono ?_; rintro e w5 ⟨rfl, n, rfl⟩; rw [HE.out]; clear S4 T4 r4)
          go_wp2
          go_roundw
          case rel => exact ⟨k + 1, by omega, by go_num, by rw [hsn.out, hsf.out HE.out]; exact HF4.out.drewN HT.out n⟩
          case measure => simp [intOf]; omega
        | true =>
          have HE := hid hE
          clear hE
          go_wp2_with (go_at_call 46; refine with_it HF4.out ?_; rintro ⟨v4, l4, S4, T4, r4⟩; refine (atEnd_any W4 sb gb s mn av mx m y v4 c S4).mono ?_; rintro e w5 ⟨rfl, n, rfl⟩; rw [HE.out]; clear S4 T4 r4)
          obtain ⟨v5, l5, S5, T5, K5, hF5, hl5, hd5⟩ := HF4.out.drewN HT.out n
          generalize W4.drewN n = W5 at *
          refine (give_any W5 sb gb s mn av mx m _ y v5 c S5).mono ?_
          rintro e w6 ⟨u, v6, rfl, S6, hu, hnew, hv6, hk6⟩
          have HC := hid (FI.told HT.out S5 T5 K5 hF5 hl5 hd5 S6 hu hnew hv6 hk6 hne.out hl4 S5.bts (by omega))
          clear S5 T5 K5 hF5 hl5 hd5 S6 hu hnew hv6 hk6
          have hent := HT.out.ent
          go_wp2_with fail
          refine HC.out.mono ?_
          rintro e w7 ⟨rfl, HF7⟩
          have H7 := hid HF7
          clear HF7
          go_wp2
          go_roundw
          case rel => exact ⟨k + 1, by omega, by go_num, by rw [hsn.out, hst.out HE.out, hashOf, hashFrom_nil]; exact H7.out⟩
          case measure => simp [intOf]; omega
    · have e : bs.take k = bs := List.take_of_length_le (by have := HL.out; omega)
      rw [e] at HI
      have hnlt : ¬ (k : Int) < (L : Int) := by omega
      have hct : Hid ((feed (endB s mn mx m) cs wt bs).1.length ≤ 50000) := by have := (feed_count (E := endB s mn mx m) bs cs wt).1; have := HL.out; exact (show (feed (endB s mn mx m) cs wt bs).1.length ≤ 50000 by omega)
      clear e hlt
      obtain ⟨p, hp⟩ : ∃ p, feed (endB s mn mx m) cs wt bs = p := ⟨_, rfl⟩
      have HP := hid hp
      rw [hp] at HI hct
      clear hp
      obtain ⟨vk, lk, Sk, Tk, Kk, hFk, hlk, hdk⟩ := HI.out
      obtain ⟨ak, ck, rfl, _, _, _⟩ := Sk.own.slice
      have c7 := Sk.c7
      have c8 := Sk.c8
      have hlk' := Sk.len
      have HSk := hid Sk
      have HTk := hid (And.intro Tk (And.intro Kk (And.intro hFk (And.intro hlk hdk))))
      clear Sk Tk Kk hFk hlk hdk HBY
      by_cases h0 : p.2 = []
      · have hz : decide (0 < p.2.length) = false := by simp [h0]
        have H0 := hid h0
        clear h0
        go_wp2
        go_end0
        refine ⟨rfl, ?_⟩
        have e : fin c p = p := by
          unfold fin shutL
          rw [H0.out]
          cases c
          · rfl
          · show (p.1, []) = p
            rw [← H0.out]
        rw [HP.out, e]
        exact HI.out
      · have hz : decide (0 < p.2.length) = true := by simpa using List.length_pos_iff.2 h0
        have H0 := hid h0
        clear h0
        cases c with
        | false =>
          go_wp2_with (go_at_call 35; refine (over_any wr sb false c8).mono ?_; rintro e w5 ⟨rfl, h5⟩; subst w5)
          go_end0
          refine ⟨rfl, ?_⟩
          rw [HP.out]
          exact HI.out
        | true =>
          have hent := HT.out.ent
          go_wp2_with (go_at_call 35; refine (over_any wr sb true c8).mono ?_; rintro e w5 ⟨rfl, h5⟩; subst w5)
          refine (give_any wr sb gb s mn av mx m _ p.2 _ true HSk.out).mono ?_
          rintro e w6 ⟨u, v6, rfl, S6, hu, hnew, hv6, hk6⟩
          have HC := hid (FI.told HT.out HSk.out HTk.out.1 HTk.out.2.1 HTk.out.2.2.1 HTk.out.2.2.2.1 HTk.out.2.2.2.2 S6 hu hnew hv6 hk6 H0.out hlk' HSk.out.bts (by have := hct.out; omega))
          clear S6 hu hnew hv6 hk6
          go_wp2_with fail
          refine HC.out.mono ?_
          rintro e w7 ⟨rfl, HF7⟩
          have H7 := hid HF7
          clear HF7
          go_wp2
          go_end0
          refine ⟨rfl, ?_⟩
          have e : fin true p = (p.1 ++ [p.2], []) := by
            show (shutL p, []) = _
            unfold shutL
            rw [if_neg H0.out]
          rw [HP.out, e]
          unfold Fed
          rw [hashOf, hashFrom_nil]
          exact H7.out

end Go.Proofs.YtinijgkkmfdfiaaDoor
