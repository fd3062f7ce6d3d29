/-
  Are records few, and short? Put, Size and the reference's Put of any record.
-/
import Derived.Test.YthbhdbjjobfchaaFrAlive
import Derived.Test.YthbhdbjjobfchaaFrRPut
namespace Go.Proofs.Ythbhdbjjobfchaa
open Go.RowKit
open Tlv (Tr BySlS AgreeS Agree)
open Crc (hid Kept Tab)

/-- Few, and short. -/
def lightB (ls : List Nat) : Bool := decide (ls.length ≤ 20) && ls.all (fun l => decide (l ≤ 5100))

set_option maxHeartbeats 1000000 in
set_option maxRecDepth 100000 in
theorem light_any (a : Option Addr) (cap : Nat) (ls : List Nat) (w : World) (hm : ls.length ≤ 4611686018427387904) (hls : ∀ l ∈ ls, l ≤ 9223372036854775807)
    (h : ∀ i, i < ls.length → ∃ g o x c, a = some ⟨g, o, none⟩ ∧ w.cell? ⟨g, o + i * 34 + 33, none⟩ = some (.slice x (ls.getD i 0) c)) :
    Calls Try.prog 7 #[.slice a ls.length cap] w fun e w' => e = .returned (.bool (lightB ls)) ∧ w' = w := by
  have H := hid h
  have HM := hid hls
  clear h hls
  by_cases h20 : ls.length ≤ 20
  · have h20' : ¬ ((20 : Int) < ls.length) := by omega
    go_enter Try.func7, Try.ntmps7
    go_wp2
    go_loop [3] (fun i => ∃ k : Nat, k ≤ ls.length ∧ i = .int .i64 k ∧ Hid (∀ j, j < k → ls.getD j 0 ≤ 5100)) (fun i => ls.length - (intOf i).toNat)
    case atStart => exact ⟨0, Nat.zero_le _, rfl, fun j hj => absurd hj (by omega)⟩
    case round =>
      obtain ⟨k, hk, rfl, HJ⟩ := hrel
      by_cases hlt : k < ls.length
      · obtain ⟨g, o, x, c, rfl, hc⟩ := H.out k hlt
        have hx : ls.getD k 0 ≤ 9223372036854775807 := HM.out _ (by rw [List.getD_eq_getElem?_getD, List.getElem?_eq_getElem hlt]; simp)
        have HN : Hid (ls.getD k 0 ≤ 5100 → ∀ j, j < k + 1 → ls.getD j 0 ≤ 5100) := by
          intro h j hj
          by_cases e : j = k
          · rw [e]; exact h
          · exact HJ.out j (by omega)
        have HB : Hid (¬ ls.getD k 0 ≤ 5100 → lightB ls = false) := by
          intro h
          rw [lightB]
          have : ls.all (fun l => decide (l ≤ 5100)) = false := by
            rw [List.all_eq_false]
            refine ⟨ls[k], List.getElem_mem hlt, ?_⟩
            rw [List.getD_eq_getElem?_getD, List.getElem?_eq_getElem hlt] at h
            simpa using h
          rw [this, Bool.and_false]
        generalize ls.getD k 0 = l at *
        by_cases hl : l ≤ 5100
        · have hl' : ¬ ((5100 : Int) < l) := by omega
          go_wp2
          go_round
          case rel => exact ⟨k + 1, by omega, by go_num, HN.out hl⟩
          case measure => simp [intOf]; omega
        · have hl' : (5100 : Int) < l := by omega
          have HBB := hid (HB.out hl)
          clear hl
          go_wp2
          go_ret
          exact ⟨by rw [HBB.out]; rfl, rfl⟩
      · have HBB : Hid (lightB ls = true) := by
          have hk' : k = ls.length := by omega
          rw [Hid, lightB]
          simp only [Bool.and_eq_true, decide_eq_true_eq, List.all_eq_true]
          refine ⟨h20, fun l hl => ?_⟩
          obtain ⟨i, hi, rfl⟩ := List.getElem_of_mem hl
          have := HJ.out i (by omega)
          rwa [List.getD_eq_getElem?_getD, List.getElem?_eq_getElem hi, Option.getD_some] at this
        go_wp2
        go_ret
        exact ⟨by rw [HBB.out]; rfl, rfl⟩
  · have h20' : (20 : Int) < ls.length := by omega
    have HBB : Hid (lightB ls = false) := by rw [Hid, lightB, decide_eq_false h20, Bool.false_and]
    clear h20
    go_enter Try.func7, Try.ntmps7
    go_wp2
    go_ret
    exact ⟨by rw [HBB.out]; rfl, rfl⟩

/-- What Put answers of any record. -/
def putX (k : Int) (nm bs : List Int) : List Int := if rightB k bs.length then frameR k nm bs else []
def putF (k : Int) (l : Nat) : Int := if rightB k l then 0 else 1

theorem BySlS.len {S : Nat → Prop} {w : World} {v : Value} {xs : List Int} (h : BySlS S w v xs) : ∃ a c, v = .slice a xs.length c := by
  obtain ⟨a, c, rfl, _⟩ := h
  exact ⟨a, c, rfl⟩

theorem own_all {w : World} {base : Nat} {v : Value} {xs : List Int} (h : Crc.Own w base v (nats xs)) (hl : xs.length ≤ 100000) (hx : ∀ x ∈ xs, 0 ≤ x ∧ x ≤ 255) : BySlS (fun g => base ≤ g ∧ g < w.heap.size) w v xs := by
  rcases h.2 with ⟨rfl, h0⟩ | ⟨g, cap, cur, rfl, hb, hg, hn, hc, hs, ht⟩
  · rw [nats_length] at h0
    have : xs = [] := List.length_eq_zero_iff.1 h0
    subst this
    exact Tlv.BySlS.none _ _
  · rw [nats_length] at hn ⊢
    refine ⟨_, cap, rfl, hn, hc, by simp, by omega, hx, fun _ => ⟨g, 0, rfl, ⟨hb, (Array.getElem?_eq_some_iff.1 hg).1⟩, fun i hi => ?_⟩⟩
    have hi2 : i < (nats xs).length := by rw [nats_length]; exact hi
    rw [Nat.zero_add, World.ownsRow.cellAt (show w.ownsRow base 5 1 _ (nats xs).length (Crc.cl (nats xs)) from h) i (by omega), Crc.cl_at _ i hi2]
    have hb2 := hx (xs.getD i 0) (by rw [List.getD_eq_getElem?_getD, List.getElem?_eq_getElem hi]; simp)
    simp only [nats, List.getD_eq_getElem?_getD, List.getElem?_map, List.getElem?_eq_getElem hi, Option.map_some, Option.getD_some] at hb2 ⊢
    congr 2
    omega

theorem put_one (b : Nat) (k : Int) (nm bs : List Int) (v : Value) (w : World) (hT : TabX w b) (hb : Tlv.BySl 0 w.heap.size w v bs) (hn : nm.length = 32) (hx : ∀ x ∈ nm, 0 ≤ x ∧ x ≤ 255) :
    Calls Try.prog 10 #[.pointer (some ⟨b, 0, none⟩), .agg (recA k nm v).toArray] w fun e w' => ∃ a c, e = .returned (.tuple #[.slice a (putX k nm bs).length c, .int .i64 (putF k bs.length)]) ∧ BySlS (fun g => w.heap.size ≤ g ∧ g < w'.heap.size) w' (.slice a (putX k nm bs).length c) (putX k nm bs) ∧ Kept b w w' ∧ TabX w' b := by
  obtain ⟨av, cv, rfl, _, _, _, _, h6, _⟩ := id hb
  unfold putX putF
  cases hr : rightB k bs.length with
  | false =>
    refine (put_no _ k nm bs av cv w hn hr).mono ?_
    rintro e w1 ⟨rfl, hb1⟩
    exact ⟨none, 0, rfl, Tlv.BySlS.none _ _, Kept.below hb1, hT.below hb1⟩
  | true =>
    have hR := right_of hr hn hx h6
    refine (put_yes b k nm bs _ w hT hb hR).mono ?_
    rintro e w1 ⟨v', rfl, ho, hk, ht⟩
    have h1 := own_all ho (by rw [frameR_length hR]; have := hR.2.2.1; omega) (frameR_bd hR)
    obtain ⟨a, c, rfl⟩ := BySlS.len h1
    exact ⟨a, c, rfl, h1, hk, ht⟩

theorem rput_one (k : Int) (nm bs : List Int) (v : Value) (w : World) (hb : Tlv.BySl 0 w.heap.size w v bs) (hn : nm.length = 32) (hx : ∀ x ∈ nm, 0 ≤ x ∧ x ≤ 255) :
    Calls Try.prog 12 #[.agg (recA k nm v).toArray] w fun e w' => ∃ a c, e = .returned (.tuple #[.slice a (putX k nm bs).length c, .int .i64 (putF k bs.length)]) ∧ BySlS (fun g => w.heap.size ≤ g ∧ g < w'.heap.size) w' (.slice a (putX k nm bs).length c) (putX k nm bs) ∧ Below w.heap.size w w' := by
  obtain ⟨av, cv, rfl, _, _, _, _, h6, _⟩ := id hb
  unfold putX putF
  cases hr : rightB k bs.length with
  | false =>
    refine (rput_no k nm bs av cv w hn hr).mono ?_
    rintro e w1 ⟨rfl, hb1⟩
    exact ⟨none, 0, rfl, Tlv.BySlS.none _ _, hb1⟩
  | true =>
    have hR := right_of hr hn hx h6
    refine (rput_yes k nm bs _ w hb hR).mono ?_
    rintro e w1 ⟨v', rfl, ho, hk⟩
    have h1 := own_all ho (by rw [frameR_length hR]; have := hR.2.2.1; omega) (frameR_bd hR)
    obtain ⟨a, c, rfl⟩ := BySlS.len h1
    exact ⟨a, c, rfl, h1, hk⟩

theorem size_one (k : Int) (nm bs : List Int) (v : Value) (w : World) (hb : Tlv.BySl 0 w.heap.size w v bs) (hn : nm.length = 32) (hx : ∀ x ∈ nm, 0 ≤ x ∧ x ≤ 255) :
    Calls Try.prog 15 #[.agg (recA k nm v).toArray] w fun e w' => e = .returned (.int .i64 ((putX k nm bs).length : Nat)) ∧ Below w.heap.size w w' := by
  obtain ⟨av, cv, rfl, _, _, _, _, h6, _⟩ := id hb
  unfold putX
  cases hr : rightB k bs.length with
  | false => exact size_no k nm bs av cv w hn hr
  | true =>
    have hR := right_of hr hn hx h6
    have h := size_yes k nm bs _ w hb hR
    rw [if_pos rfl, frameR_length hR]
    exact h

end Go.Proofs.Ythbhdbjjobfchaa
