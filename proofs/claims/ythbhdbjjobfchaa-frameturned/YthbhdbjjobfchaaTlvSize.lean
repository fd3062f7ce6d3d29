/-
  What bodySize, listSize, Size and Right of tlv answer, for whatever tree lies in memory.
-/
import Derived.Test.YthbhdbjjobfchaaTlvSmall
namespace Go.Proofs.Ythbhdbjjobfchaa.Tlv
open Go.RowKit

/-- What bodySize does with a tree that is nested at most n deep. -/
def SizeOk (n : Nat) : Prop := ∀ (t : Tr n) (sb sk : Value) (room deep : Int) (w : World), Rep 0 w.heap.size w n t sb sk → -3 ≤ room → room ≤ 65535 → 0 ≤ deep → deep ≤ 8 →
  Calls Try.prog 50 #[.agg #[.int .i64 t.hd.1, .int .u64 t.hd.2.1, sb, sk], .int .i64 room, .int .i64 deep] w fun e w' =>
    e = .returned (.tuple #[.int .i64 (bsz n t room deep).1, .bool (bsz n t room deep).2]) ∧ Below w.heap.size w w'

theorem lsz_go {α : Type} {f : α → Int → Int → Int × Bool} {ks : List α} {room deep : Int} (h : 0 < deep) : lsz f ks room deep = lszGo f room deep 0 ks := by
  unfold lsz; rw [if_neg (by omega)]

set_option maxHeartbeats 1000000 in
theorem listSize_any {n : Nat} (hn : SizeOk n) (ks : List (Tr n)) (v : Value) (room deep : Int) (w : World) (h : KSl 0 w.heap.size w (Rep 0 w.heap.size w n) v ks) (hr0 : 0 ≤ room) (hr1 : room ≤ 65535) (hd0 : 0 < deep) (hd1 : deep ≤ 8) :
    Calls Try.prog 64 #[v, .int .i64 room, .int .i64 deep] w fun e w' => e = .returned (.tuple #[.int .i64 (lsz (bsz n) ks room deep).1, .bool (lsz (bsz n) ks room deep).2]) ∧ Below w.heap.size w w' := by
  rw [lsz_go hd0]
  obtain ⟨a, cap, rfl, h2, h3, h4, h5, h7⟩ := h
  have A := hid h7
  have hdb : (deep == 0) = false := by simp; omega
  clear h7 h4
  go_enter Try.func64, Try.ntmps64
  go_wp2
  go_loopw [8, 17] (fun c i wr => ∃ (k : Nat) (acc : Int), k ≤ ks.length ∧ i = .int .i64 k ∧ c = .int .i64 acc ∧ 0 ≤ acc ∧ acc ≤ room ∧ Hid (lszGo (bsz n) room deep acc (ks.drop k) = lszGo (bsz n) room deep 0 ks) ∧ Hid (Below w.heap.size w wr)) (fun _ i _ => ks.length - (intOf i).toNat)
  case atStart => exact ⟨0, 0, Nat.zero_le _, rfl, rfl, by omega, by omega, by simp [Hid], Below.refl _ _⟩
  case round =>
    obtain ⟨k, acc, hk, rfl, rfl, ha0, ha1, hgo, hbel⟩ := hrel
    by_cases hlt : k < ks.length
    · obtain ⟨b, o, rfl, _, hbs, hc⟩ := A.out (by intro e; subst e; simp at hlt)
      obtain ⟨sb, sk, c0, c1, c2, c3, hrep⟩ := hc k ks[k] (List.getElem?_eq_getElem hlt)
      clear hc
      obtain ⟨a1, l1, p1, a2, l2, p2, rfl, rfl⟩ := hrep.sl
      have hR := hid hrep
      clear hrep
      have d0 := (hbel.out.cell (p := ⟨b, o + k * 4, none⟩) hbs).trans c0
      have d1 := (hbel.out.cell (p := ⟨b, o + k * 4 + 1, none⟩) hbs).trans c1
      have d2 := (hbel.out.cell (p := ⟨b, o + k * 4 + 2, none⟩) hbs).trans c2
      have d3 := (hbel.out.cell (p := ⟨b, o + k * 4 + 3, none⟩) hbs).trans c3
      clear c0 c1 c2 c3
      have hdrop : Hid (ks.drop k = ks[k] :: ks.drop (k + 1)) := List.drop_eq_getElem_cons hlt
      generalize ks[k] = t at *
      go_wp2_with fail
      have hbz := hbel.out.size
      have hbw : b < wr.heap.size := by omega
      refine (hn t _ _ _ _ _ (hR.out.agree ((Agree.below hbel.out).alloc hbz _) (Nat.le_refl _) (by simp; omega)) (by omega) (by omega) (by omega) (by omega)).mono ?_
      rintro e w1 ⟨rfl, hb1⟩
      have hfit := bsz_fits n t (room - acc - 3) (deep - 1)
      have hst : Hid (lszGo (bsz n) room deep acc (t :: ks.drop (k + 1)) = if (bsz n t (room - acc - 3) (deep - 1)).2 then lszGo (bsz n) room deep (acc + (3 + (bsz n t (room - acc - 3) (deep - 1)).1)) (ks.drop (k + 1)) else (0, false)) := rfl
      have hb2 : Hid (Below w.heap.size w w1) := (hbel.out.alloc hbz _).trans (hb1.mono (by simp; omega))
      clear hb1
      generalize bsz n t (room - acc - 3) (deep - 1) = r at hfit hst ⊢
      obtain ⟨m, ok⟩ := r
      cases ok with
      | true =>
        have hm := hfit rfl
        clear hfit
        simp only at hm
        go_wp2_with fail
        go_roundw
        case rel => exact ⟨k + 1, acc + (3 + m), by omega, by go_num, by go_num, by omega, by omega, by rw [Hid, ← hgo.out, hdrop.out, hst.out]; rfl, hb2⟩
        case measure => simp [intOf]; omega
      | false =>
        clear hfit
        go_wp2_with fail
        go_ret2
        refine ⟨?_, hb2.out⟩
        rw [← hgo.out, hdrop.out, hst.out]
        rfl
    · go_wp2_with fail
      go_ret2
      refine ⟨?_, hbel.out⟩
      rw [← hgo.out, List.drop_of_length_le (by omega)]
      rfl

set_option maxHeartbeats 400000 in
theorem listSize_zero (a : Option Addr) (l c : Nat) (room : Int) (w : World) :
    Calls Try.prog 64 #[.slice a l c, .int .i64 room, .int .i64 0] w fun e w' => e = .returned (.tuple #[.int .i64 0, .bool false]) ∧ w' = w := by
  go_enter Try.func64, Try.ntmps64
  go_wp2_with fail
  go_ret2
  exact ⟨rfl, rfl⟩

theorem bsz_no {n : Nat} {t : Tr (n + 1)} {room deep : Int} (h : room < 0 ∨ oeB t.hd.1 t.hd.2.1 t.hd.2.2.length t.kd.length = false) : bsz (n + 1) t room deep = (0, false) := by
  simp only [bsz]; rw [if_pos h]

theorem bsz_yes {n : Nat} {t : Tr (n + 1)} {room deep : Int} (h0 : 0 ≤ room) (h1 : oeB t.hd.1 t.hd.2.1 t.hd.2.2.length t.kd.length = true) : bsz (n + 1) t room deep =
    if t.hd.1 = 1 then (nsz t.hd.2.1, decide (nsz t.hd.2.1 ≤ room))
    else if t.hd.1 = 2 then ((t.hd.2.2.length : Int), decide ((t.hd.2.2.length : Int) ≤ room))
    else if t.hd.1 = 3 then lsz (bsz n) t.kd room deep
    else (0, false) := by
  simp only [bsz]; rw [if_neg (by rw [h1]; simp; omega)]

set_option maxHeartbeats 1000000 in
theorem bodySize_any : ∀ n, SizeOk n
  | 0 => fun t => by cases t
  | n + 1 => by
    intro t sb sk room deep w hrep hr0 hr1 hd0 hd1
    have ih := bodySize_any n
    obtain ⟨hn0, hn1, hby, hks⟩ := hrep
    have HB := hid hby
    have HK := hid hks
    obtain ⟨ab, cb, rfl, hrb⟩ := hby
    obtain ⟨ak, ck, rfl, hrk⟩ := hks
    clear hrb hrk
    have hoe := bsz_no (t := t) (room := room) (deep := deep)
    have hyes := bsz_yes (t := t) (room := room) (deep := deep)
    have hlb : t.hd.2.2.length ≤ 140737488355328 := by obtain ⟨_, _, _, _, _, _, h, _⟩ := HB.out; exact h
    generalize bsz (n + 1) t room deep = r at *
    generalize hks' : t.kd = ks at *
    have HKS := hid hks'
    clear hks'
    generalize t.hd.2.2 = bs at *
    generalize t.hd.2.1 = num at *
    generalize t.hd.1 = tag at *
    by_cases hneg : room < 0
    · rw [hoe (.inl hneg)]
      clear hoe hyes
      go_enter Try.func50, Try.ntmps50
      go_wp2_with fail
      go_ret2
      exact ⟨rfl, (Below.refl _ _).alloc (Nat.le_refl _) _⟩
    · cases hq : oeB tag num bs.length ks.length with
      | false =>
        rw [hoe (.inr hq)]
        clear hoe hyes
        have HQ := hid hq
        clear hq
        go_enter Try.func50, Try.ntmps50
        go_wp2_with fail
        refine (othersEmpty_any _ _ _ _ _ _ _ _ _).mono ?_
        rintro e w1 ⟨rfl, hb1⟩
        rw [HQ.out]
        have hb2 : Hid (Below w.heap.size w w1) := ((Below.refl _ _).alloc (Nat.le_refl _) _).trans (hb1.mono (by simp))
        clear hb1
        go_wp2_with fail
        go_ret2
        exact ⟨rfl, hb2.out⟩
      | true =>
        have hr := hid (hyes (by omega) hq)
        have HQ := hid hq
        clear hoe hyes hq
        have hroom : 0 ≤ room := by omega
        clear hneg
        go_enter Try.func50, Try.ntmps50
        go_wp2_with fail
        refine (othersEmpty_any _ _ _ _ _ _ _ _ _).mono ?_
        rintro e w1 ⟨rfl, hb1⟩
        rw [HQ.out]
        have hb2 : Hid (Below w.heap.size w w1) := ((Below.refl _ _).alloc (Nat.le_refl _) _).trans (hb1.mono (by simp))
        have hz : w.heap.size < w1.heap.size := by have := hb1.size; simp at this; omega
        obtain ⟨hc, hf⟩ := bcell hb1
        clear hb1 hf
        by_cases h1 : tag = 1
        · subst h1
          go_wp2_with fail
          refine (numberSize_any _ _ hn0 hn1).mono ?_
          rintro e w2 ⟨rfl, hw2⟩
          rw [hw2]
          clear hw2
          go_wp2_with fail
          go_ret2
          refine ⟨?_, hb2.out⟩
          rw [hr.out]
          rfl
        · by_cases h2 : tag = 2
          · subst h2
            go_wp2_with fail
            go_ret2
            refine ⟨?_, hb2.out⟩
            rw [hr.out]
            rfl
          · by_cases h3 : tag = 3
            · subst h3
              by_cases hdz : deep = 0
              · subst hdz
                go_wp2_with fail
                refine (listSize_zero _ _ _ _ _).mono ?_
                rintro e w2 ⟨rfl, hw2⟩
                rw [hw2]
                clear hw2
                go_wp2_with fail
                go_ret2
                refine ⟨?_, hb2.out⟩
                rw [hr.out]
                rfl
              · go_wp2_with fail
                refine (listSize_any ih ks _ _ _ _ (HK.out.agree (fun _ _ _ h => h.agree (Agree.below hb2.out) (Nat.le_refl _) (by omega)) (Agree.below hb2.out) (Nat.le_refl _) (by omega)) hroom hr1 (by omega) hd1).mono ?_
                rintro e w2 ⟨rfl, hb3⟩
                have hb4 : Hid (Below w.heap.size w w2) := hb2.out.trans (hb3.mono (by omega))
                clear hb3
                go_wp2_with fail
                go_ret2
                refine ⟨?_, hb4.out⟩
                rw [hr.out]
                rfl
            · go_wp2_with fail
              go_ret2
              refine ⟨?_, hb2.out⟩
              rw [hr.out, if_neg h1, if_neg h2, if_neg h3]
              rfl

/-- How many bytes a tree's form has; 0: it is not right. -/
def szT (n : Nat) (t : Tr n) : Int := if (bsz n t 65535 8).2 then 3 + (bsz n t 65535 8).1 else 0

set_option maxHeartbeats 400000 in
theorem size_any {n : Nat} (t : Tr n) (sb sk : Value) (w : World) (h : Rep 0 w.heap.size w n t sb sk) :
    Calls Try.prog 32 #[.agg #[.int .i64 t.hd.1, .int .u64 t.hd.2.1, sb, sk]] w fun e w' => e = .returned (.int .i64 (szT n t)) ∧ Below w.heap.size w w' := by
  obtain ⟨a1, l1, p1, a2, l2, p2, rfl, rfl⟩ := h.sl
  have H := hid h
  clear h
  have hfit := bsz_fits n t 65535 8
  go_enter Try.func32, Try.ntmps32
  go_wp2_with fail
  refine (bodySize_any n t _ _ _ _ _ (H.out.agree ((Agree.refl _ _ _).alloc (Nat.le_refl _) _) (Nat.le_refl _) (by simp)) (by omega) (by omega) (by omega) (by omega)).mono ?_
  rintro e w1 ⟨rfl, hb1⟩
  have hb2 : Hid (Below w.heap.size w w1) := ((Below.refl _ _).alloc (Nat.le_refl _) _).trans (hb1.mono (by simp))
  clear hb1
  obtain ⟨r, hr⟩ : ∃ r, bsz n t 65535 8 = r := ⟨_, rfl⟩
  rw [hr] at hfit
  have HR := hid hr
  clear hr
  rw [HR.out]
  obtain ⟨m, ok⟩ := r
  cases ok with
  | true =>
    have hm := hfit rfl
    clear hfit
    simp only at hm
    go_wp2_with fail
    go_ret
    refine ⟨?_, hb2.out⟩
    rw [szT, HR.out]
    rfl
  | false =>
    clear hfit
    go_wp2_with fail
    go_ret
    refine ⟨?_, hb2.out⟩
    rw [szT, HR.out]
    rfl

end Go.Proofs.Ythbhdbjjobfchaa.Tlv
