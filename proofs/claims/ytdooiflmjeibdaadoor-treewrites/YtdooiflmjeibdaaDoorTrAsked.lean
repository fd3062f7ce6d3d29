/-
  asked.
-/
import Derived.Test.YtdooiflmjeibdaaDoorTrWith
namespace Go.Proofs.YtdooiflmjeibdaaDoor.Tr
open Go.RowKit

def askedF (t : List It) (ps : List ByteArray) : Int := if rightB t then (if ps.all (fun p => pathB (tx p)) then 0 else 10) else 1
def barsF (t : List It) (p : ByteArray) : Int := if rightB t then (if pathB (tx p) then homeF t p else 10) else 1
def mkdirR (t : List It) (p : ByteArray) : Int × List It :=
  if barsF t p = 0 then (if (look t p).isSome then (6, []) else if 60 ≤ t.length then (2, []) else (0, putL t (p, true, []))) else (barsF t p, [])
def dirAt (t : List It) (p : ByteArray) : Bool := match look t p with
  | some x => x.2.1
  | none => false
def writeR (t : List It) (p : ByteArray) (b : List Nat) : Int × List It :=
  if barsF t p = 0 then (if dirAt t p then (8, []) else if 2000 < b.length then (2, []) else if (look t p).isNone && decide (60 ≤ t.length) then (2, []) else (0, putL t (p, false, b))) else (barsF t p, [])
theorem right_rises {t : List It} (h : rightB t = true) : risesB t = true ∧ t.length ≤ 60 := by
  simp only [rightB, Bool.and_eq_true, decide_eq_true_eq] at h
  exact ⟨h.1.2, h.1.1⟩
theorem bars_right {t : List It} {p : ByteArray} (h : barsF t p = 0) : rightB t = true := by
  unfold barsF at h
  split at h
  · assumption
  · omega

set_option maxHeartbeats 4000000 in
theorem asked_any (w : World) (v : Value) (t : List It) (g : Nat) (ps : List ByteArray) (h : IRow Any w v t) (hl : t.length ≤ 1000) (hs : ∀ y ∈ t, ShortI y) (hg : Blk w g 9 (tc ps)) (hpl : ps.length ≤ 2) (hp : ∀ p ∈ ps, p.size ≤ 1000000) :
    Calls Tryd.prog 32 #[v, .slice (some ⟨g, 0, none⟩) ps.length ps.length] w fun e w' => e = .returned (.int .i64 (askedF t ps)) ∧ Kp No w w' := by
  have HR := hid (right_any w v t h (by omega) hs)
  have HF : Hid (askedF t ps = if rightB t then (if ps.all (fun p => pathB (tx p)) then 0 else 10) else 1) := rfl
  clear h hs
  cases hr : rightB t with
  | false =>
    simp only [hr] at HR HF
    rw [HF.out]
    go_enter Tryd.func32, Tryd.ntmps32
    go_wp2_with (go_at_call 46; refine HR.out.mono ?_; rintro e w1 ⟨rfl, hk⟩; have HK := hid hk; clear hk)
    go_ret
    exact ⟨rfl, HK.out⟩
  | true =>
    simp only [hr, if_true] at HR HF
    rw [HF.out]
    have HG := hid hg
    have HP := hid hp
    have HQ1 : Hid (∀ p ∈ ps, pathB (tx p) = false → (if ps.all (fun p => pathB (tx p)) then (0 : Int) else 10) = 10) := fun p hp hb => by
      have : ps.all (fun p => pathB (tx p)) = false := List.all_eq_false.2 ⟨p, hp, by rw [hb]; simp⟩
      rw [this]
      rfl
    have HQ2 : Hid ((∀ p ∈ ps, pathB (tx p) = true) → (if ps.all (fun p => pathB (tx p)) then (0 : Int) else 10) = 0) := fun hb => by
      have : ps.all (fun p => pathB (tx p)) = true := List.all_eq_true.2 hb
      rw [this]
      rfl
    generalize (if ps.all (fun p => pathB (tx p)) then (0 : Int) else 10) = q at *
    obtain ⟨n, hn⟩ : ∃ n, ps.length = n := ⟨_, rfl⟩
    have HN := hid hn
    rw [hn] at hpl ⊢
    clear hg hp hn HF
    go_enter Tryd.func32, Tryd.ntmps32
    go_wp2_with (go_at_call 46; refine HR.out.mono ?_; rintro e w1 ⟨rfl, hk⟩; have HK := hid hk; clear hk)
    go_loopw [12] (fun x wr => ∃ i : Nat, x = .int .i64 i ∧ i ≤ n ∧ Hid ((∀ j p, j < i → ps[j]? = some p → pathB (tx p) = true) ∧ Kp No w wr)) (fun x _ => n - (intOf x).toNat)
    case atStart => exact ⟨0, rfl, Nat.zero_le _, fun j p h => absurd h (Nat.not_lt_zero _), HK.out⟩
    case round =>
      obtain ⟨i, rfl, hi, HS⟩ := hrel
      by_cases hlt : i < n
      · have hltI : (i : Int) < (n : Int) := by omega
        obtain ⟨p, hp⟩ : ∃ p, ps[i]? = some p := ⟨_, List.getElem?_eq_getElem (by rw [HN.out]; omega)⟩
        have HX := hid hp
        have c0 : wr.cell? ⟨g, i, none⟩ = some (.string p) := ((HG.out.kp HS.out.2 (fun h => h)).cell i).trans (tc_at ps i p hp)
        have HPA := hid (path_any p (HP.out p (List.mem_of_getElem? hp)) wr)
        clear hp
        cases hb : pathB (tx p) with
        | false =>
          simp only [hb] at HPA
          have HB := hid hb
          clear hb
          go_wp2_with (go_at_call 26; refine HPA.out.mono ?_; rintro e w2 ⟨rfl, hk⟩; have HK2 := hid hk; clear hk)
          go_ret
          refine ⟨?_, HS.out.2.andNone HK2.out⟩
          rw [HQ1.out p (List.mem_of_getElem? HX.out) HB.out]
          rfl
        | true =>
          simp only [hb] at HPA
          have HB := hid hb
          clear hb
          go_wp2_with (go_at_call 26; refine HPA.out.mono ?_; rintro e w2 ⟨rfl, hk⟩; have HK2 := hid hk; clear hk)
          go_roundw
          case rel => exact ⟨i + 1, by go_num, by omega, fun j q hj hq => by
            by_cases e : j = i
            · subst e
              have := HX.out
              rw [hq] at this
              cases this
              exact HB.out
            · exact HS.out.1 j q (by omega) hq, HS.out.2.andNone HK2.out⟩
          case measure => simp [intOf] <;> omega
      · have hltI : ¬ (i : Int) < (n : Int) := by omega
        go_wp2
        go_ret
        refine ⟨?_, HS.out.2⟩
        rw [HQ2.out (fun p hp => by
          obtain ⟨j, hj⟩ := List.mem_iff_getElem?.1 hp
          exact HS.out.1 j p (by have := (List.getElem?_eq_some_iff.1 hj).1; have := HN.out; omega) hj)]
        rfl

end Go.Proofs.YtdooiflmjeibdaaDoor.Tr
