/-
  The words of primes are reckoned: reckon, walked.
-/
import Derived.Test.YtbmdnjmdehmahaaPrimesB
import Derived.Test.YtbmdnjmdehmahaaRoot
import Derived.Deep.RegionHeld3
import Derived.Deep.RegionWith
import Derived.Deep.DeepCutAuto
namespace Go.Proofs.Ytbmdnjmdehmahaa
open Go.RowKit

set_option maxRecDepth 100000 in
theorem cube_make (p : Nat) (w : World) :
    Calls Try.prog 57 #[.int .u64 (p : Int)] w fun e w' => e = .returned (.func (.func 68) #[] #[.pointer (some ⟨w.heap.size, 0, none⟩)]) ∧ w' = w.alloc (.cells #[.int .u64 (p : Int)] 96) := by
  have hmf : ∀ (fn : Fn) (first cap : Array Value) (w : World), (Instr.makeFunc fn first cap).run Try.prog w = .ok (.func fn first cap) w := fun _ _ _ _ => rfl
  go_enter Try.func57, Try.ntmps57
  go_wp2
  go_ret
  exact ⟨rfl, rfl⟩
set_option maxRecDepth 100000 in
theorem square_make (p : Nat) (w : World) :
    Calls Try.prog 58 #[.int .u64 (p : Int)] w fun e w' => e = .returned (.func (.func 70) #[] #[.pointer (some ⟨w.heap.size, 0, none⟩)]) ∧ w' = w.alloc (.cells #[.int .u64 (p : Int)] 96) := by
  have hmf : ∀ (fn : Fn) (first cap : Array Value) (w : World), (Instr.makeFunc fn first cap).run Try.prog w = .ok (.func fn first cap) w := fun _ _ _ _ => rfl
  go_enter Try.func58, Try.ntmps58
  go_wp2
  go_ret
  exact ⟨rfl, rfl⟩

theorem roots3_small : ∀ i, i < 64 → roots3.getD i 0 < 34359738368 := by decide +kernel
theorem roots2_small : ∀ i, i < 8 → roots2.getD i 0 < 34359738368 := by decide +kernel
theorem primes_small : ∀ i, i < 64 → primes64.getD i 0 < 4294967296 := by decide +kernel

theorem behind3 (i g : Nat) (w : World) (hi : i < 64) (hc : w.cell? ⟨g, 0, none⟩ = some (.int .u64 (primes64.getD i 0 : Nat))) :
    Calls Try.prog 56 #[.func (.func 68) #[] #[.pointer (some ⟨g, 0, none⟩)]] w fun e w' => e = .returned (.int .u32 ((words64.getD i 0 : Nat) : Int)) ∧ w' = w := by
  have h := behind_any 68 g (roots3.getD i 0) w (.inl rfl) (roots3_small i hi) (fun n hn => by
    have h := cube_fits n (primes64.getD i 0) g w hn (primes_small i hi) hc
    rw [root3_fits i n hi] at h
    exact h)
  rw [(roots3_are i hi).2.2] at h
  exact h
theorem behind2 (i g : Nat) (w : World) (hi : i < 8) (hc : w.cell? ⟨g, 0, none⟩ = some (.int .u64 (primes64.getD i 0 : Nat))) :
    Calls Try.prog 56 #[.func (.func 70) #[] #[.pointer (some ⟨g, 0, none⟩)]] w fun e w' => e = .returned (.int .u32 ((first8.getD i 0 : Nat) : Int)) ∧ w' = w := by
  have h := behind_any 70 g (roots2.getD i 0) w (.inr rfl) (roots2_small i hi) (fun n hn => by
    have h := square_fits n (primes64.getD i 0) g w hn hc
    rw [root2_fits i n hi] at h
    exact h)
  rw [(roots2_are i hi).2.2] at h
  exact h

/-- The words up to i are reckoned. -/
def Reck (b : Nat) (w wr : World) (i : Nat) : Prop :=
  Kp [b] w wr ∧ (∀ j, j < i → wr.cell? ⟨b, 11 + j, none⟩ = some (.int .u32 ((words64.getD j 0 : Nat) : Int))) ∧ (∀ j, j < i → j < 8 → wr.cell? ⟨b, 3 + j, none⟩ = some (.int .u32 ((first8.getD j 0 : Nat) : Int))) ∧
    (∀ j, j < 3 ∨ 75 ≤ j → wr.cell? ⟨b, j, none⟩ = w.cell? ⟨b, j, none⟩) ∧ (∀ j, 3 ≤ j → j < 75 → ∃ x, wr.cell? ⟨b, j, none⟩ = some x) ∧ ∀ j, wr.frozen? ⟨b, j, none⟩ = w.frozen? ⟨b, j, none⟩

theorem cell_set (w : World) (b j k : Nat) (v : Value) (h : j ≠ k) : (w.setCell ⟨b, k, none⟩ v).cell? ⟨b, j, none⟩ = w.cell? ⟨b, j, none⟩ := World.cell?_setCell_other _ _ _ _ (by simp only [ne_eq, Addr.mk.injEq, true_and, and_true]; omega)

/-- One more, with the world grown between. -/
theorem Reck.key {b : Nat} {w wr w1 : World} {i : Nat} (h : Reck b w wr i) (hb : b < wr.heap.size) (hk : Below wr.heap.size wr w1) (hi : i < 64) :
    (w1.setCell ⟨b, 11 + i, none⟩ (.int .u32 ((words64.getD i 0 : Nat) : Int))).cell? ⟨b, 11 + i, none⟩ = some (.int .u32 ((words64.getD i 0 : Nat) : Int)) := by
  obtain ⟨x, hx⟩ := h.2.2.2.2.1 (11 + i) (by omega) (by omega)
  exact World.cell?_setCell_same _ _ _ ((hk.cell (p := ⟨b, 11 + i, none⟩) hb).trans hx)

theorem Reck.grow {b : Nat} {w wr w1 : World} {i : Nat} (h : Reck b w wr i) (hb : b < wr.heap.size) (hk : Below wr.heap.size wr w1) : Reck b w w1 i := by
  obtain ⟨h1, h2, h3, h4, h5, h6⟩ := h
  have c : ∀ j, w1.cell? ⟨b, j, none⟩ = wr.cell? ⟨b, j, none⟩ := fun j => hk.cell (p := ⟨b, j, none⟩) hb
  refine ⟨h1.trans (Kp.below hk), fun j hj => (c _).trans (h2 j hj), fun j hj hj' => (c _).trans (h3 j hj hj'), fun j hj => (c _).trans (h4 j hj), fun j h3 h75 => ?_, fun j => (hk.frozen (p := ⟨b, j, none⟩) hb).trans (h6 j)⟩
  obtain ⟨x, hx⟩ := h5 j h3 h75
  exact ⟨x, (c _).trans hx⟩

/-- A key is laid, and a word of the start if there is one more. -/
theorem Reck.next {b : Nat} {w wr : World} {i : Nat} (h : Reck b w wr i) (hi : 8 ≤ i) (hi' : i < 64) : Reck b w (wr.setCell ⟨b, 11 + i, none⟩ (.int .u32 ((words64.getD i 0 : Nat) : Int))) (i + 1) := by
  obtain ⟨h1, h2, h3, h4, h5, h6⟩ := h
  obtain ⟨x, hx⟩ := h5 (11 + i) (by omega) (by omega)
  refine ⟨h1.setCell (p := ⟨b, 11 + i, none⟩) (.inl (by simp)) _, fun j hj => ?_, fun j hj hj' => ?_, fun j hj => ?_, fun j k1 k2 => ?_, fun j => by simpa using h6 j⟩
  · by_cases e : j = i
    · subst e; exact World.cell?_setCell_same _ _ _ hx
    · rw [cell_set _ _ _ _ _ (by omega)]; exact h2 j (by omega)
  · rw [cell_set _ _ _ _ _ (by omega)]; exact h3 j (by omega) hj'
  · rw [cell_set _ _ _ _ _ (by omega)]; exact h4 j hj
  · by_cases e : j = 11 + i
    · subst e; exact ⟨_, World.cell?_setCell_same _ _ _ hx⟩
    · obtain ⟨y, hy⟩ := h5 j k1 k2
      exact ⟨y, by rw [cell_set _ _ _ _ _ e]; exact hy⟩

/-- Half a step: the key alone. -/
def Half (b : Nat) (w wr : World) (i : Nat) : Prop := Reck b w wr i ∧ wr.cell? ⟨b, 11 + i, none⟩ = some (.int .u32 ((words64.getD i 0 : Nat) : Int))
theorem Reck.half {b : Nat} {w wr : World} {i : Nat} (h : Reck b w wr i) (hi' : i < 8) : Half b w (wr.setCell ⟨b, 11 + i, none⟩ (.int .u32 ((words64.getD i 0 : Nat) : Int))) i := by
  obtain ⟨h1, h2, h3, h4, h5, h6⟩ := h
  obtain ⟨x, hx⟩ := h5 (11 + i) (by omega) (by omega)
  refine ⟨⟨h1.setCell (p := ⟨b, 11 + i, none⟩) (.inl (by simp)) _, fun j hj => ?_, fun j hj hj' => ?_, fun j hj => ?_, fun j k1 k2 => ?_, fun j => by simpa using h6 j⟩, World.cell?_setCell_same _ _ _ hx⟩
  · rw [cell_set _ _ _ _ _ (by omega)]; exact h2 j (by omega)
  · rw [cell_set _ _ _ _ _ (by omega)]; exact h3 j (by omega) hj'
  · rw [cell_set _ _ _ _ _ (by omega)]; exact h4 j hj
  · by_cases e : j = 11 + i
    · subst e; exact ⟨_, World.cell?_setCell_same _ _ _ hx⟩
    · obtain ⟨y, hy⟩ := h5 j k1 k2
      exact ⟨y, by rw [cell_set _ _ _ _ _ e]; exact hy⟩
theorem Half.grow {b : Nat} {w wr w1 : World} {i : Nat} (h : Half b w wr i) (hb : b < wr.heap.size) (hk : Below wr.heap.size wr w1) : Half b w w1 i :=
  ⟨h.1.grow hb hk, (hk.cell (p := ⟨b, 11 + i, none⟩) hb).trans h.2⟩
theorem Half.next {b : Nat} {w wr : World} {i : Nat} (h : Half b w wr i) (hi' : i < 8) : Reck b w (wr.setCell ⟨b, 3 + i, none⟩ (.int .u32 ((first8.getD i 0 : Nat) : Int))) (i + 1) := by
  obtain ⟨⟨h1, h2, h3, h4, h5, h6⟩, h7⟩ := h
  obtain ⟨x, hx⟩ := h5 (3 + i) (by omega) (by omega)
  refine ⟨h1.setCell (p := ⟨b, 3 + i, none⟩) (.inl (by simp)) _, fun j hj => ?_, fun j hj hj' => ?_, fun j hj => ?_, fun j k1 k2 => ?_, fun j => by simpa using h6 j⟩
  · rw [cell_set _ _ _ _ _ (by omega)]
    by_cases e : j = i
    · subst e; exact h7
    · exact h2 j (by omega)
  · by_cases e : j = i
    · subst e; exact World.cell?_setCell_same _ _ _ hx
    · rw [cell_set _ _ _ _ _ (by omega)]; exact h3 j (by omega) hj'
  · rw [cell_set _ _ _ _ _ (by omega)]; exact h4 j hj
  · by_cases e : j = 3 + i
    · subst e; exact ⟨_, World.cell?_setCell_same _ _ _ hx⟩
    · obtain ⟨y, hy⟩ := h5 j k1 k2
      exact ⟨y, by rw [cell_set _ _ _ _ _ e]; exact hy⟩

set_option maxHeartbeats 2000000 in
set_option maxRecDepth 100000 in
theorem reckon_any (b : Nat) (w : World) (hb : b < w.heap.size) (hc : ∀ j, 3 ≤ j → j < 75 → ∃ x, w.cell? ⟨b, j, none⟩ = some x) (hf : ∀ j, w.frozen? ⟨b, j, none⟩ = false) :
    Calls Try.prog 45 #[.pointer (some ⟨b, 3, none⟩)] w fun e w' => e = .returned (.tuple #[]) ∧ Reck b w w' 64 := by
  have HC := hid hc
  have HF := hid hf
  clear hc hf
  go_enter Try.func45, Try.ntmps45
  go_wp2_with fail
  refine (primes_any w).mono ?_
  rintro e W ⟨r, c, rfl, hr, hrW, hc64, hcm, hnum, hbel⟩
  have HN := hid hnum
  have HB := hid hbel
  have HSZ := hid hbel.size
  have hc63 : c ≤ 9223372036854775807 := by unfold maxLen at hcm; omega
  clear hnum hbel hcm
  go_wp2_with fail
  go_loopw [6] (fun s wr => ∃ i : Nat, s = .int .i64 i ∧ i ≤ 64 ∧ Hid (Reck b W wr i)) (fun s _ => 64 - (intOf s).toNat)
  case atStart =>
    refine ⟨0, rfl, by omega, Kp.refl _ _, by omega, by omega, fun _ _ => rfl, fun j h1 h2 => ?_, fun _ => rfl⟩
    obtain ⟨x, hx⟩ := HC.out j h1 h2
    exact ⟨x, (HB.out.cell (p := ⟨b, j, none⟩) hb).trans hx⟩
  case round =>
    obtain ⟨i, rfl, hi, HR⟩ := hrel
    by_cases hlt : i < 64
    · have cq : wr.cell? ⟨r, i, none⟩ = some (.int .u64 ((primes64.getD i 0 : Nat) : Int)) := by
        have h := (HR.out.1.cell (p := ⟨r, 0 + i, none⟩) hrW (by simp; omega)).trans (HN.out i hlt)
        rwa [Nat.zero_add] at h
      have hsz := HR.out.1.size
      have hbr : b < wr.heap.size := by have := HSZ.out; omega
      have hltI : (i : Int) < 64 := by omega
      have hge0 : (0 : Int) ≤ (i : Int) := by omega
      have fz : ∀ j, wr.frozen? ⟨b, j, none⟩ = false := fun j => (HR.out.2.2.2.2.2 j).trans ((HB.out.frozen (p := ⟨b, j, none⟩) hb).trans (HF.out j))
      obtain ⟨x, hx⟩ := HR.out.2.2.2.2.1 (11 + i) (by omega) (by omega)
      have fx := fz (11 + i)
      have fal : ∀ ob, (wr.alloc ob).frozen? ⟨b, 11 + i, none⟩ = false := fun ob => by rw [World.frozen?_alloc_past _ _ _ hbr]; exact fx
      have cal : ∀ ob, (wr.alloc ob).cell? ⟨b, 11 + i, none⟩ = some x := fun ob => by rw [World.cell?_alloc_past _ _ _ hbr]; exact hx
      have HB3 := hid (fun g W1 h => behind3 i g W1 hlt h)
      generalize hpp : primes64.getD i 0 = p at *
      generalize hww : words64.getD i 0 = ww at *
      go_upto_region 3 with fail
      go_region_held3 (fun _ => True) (trivial) (first | (go_at_call 57; refine (cube_make p _).mono ?_; rintro e w1 ⟨rfl, rfl⟩) | (go_at_call 56; refine (HB3.out _ _ ?_).mono ?_; (simp [go_sem]); rintro e w1 ⟨rfl, hw1⟩; subst w1))
      obtain ⟨W2, hW2⟩ : ∃ W2, W2 = ((wr.setCell ⟨b, 11 + i, none⟩ (Value.int .u32 (ww : Int))).alloc (Obj.cells #[Value.int .u64 (p : Int)] 96)).drew := ⟨_, rfl⟩
      rw [← hW2]
      have hB2 : Below (wr.setCell ⟨b, 11 + i, none⟩ (Value.int .u32 (ww : Int))).heap.size (wr.setCell ⟨b, 11 + i, none⟩ (Value.int .u32 (ww : Int))) W2 := by rw [hW2]; exact ((Below.refl _ _).alloc (Nat.le_refl _) _).drew
      have hz2 : b < W2.heap.size := by rw [hW2]; simp; omega
      by_cases h8 : i < 8
      · have HH : Hid (Half b W W2 i) := by
          have h := HR.out.half h8
          rw [hww] at h
          exact h.grow (by simpa using hbr) hB2
        obtain ⟨x2, hx2⟩ := HH.out.1.2.2.2.2.1 (3 + i) (by omega) (by omega)
        have fx2 : W2.frozen? ⟨b, 3 + i, none⟩ = false := (HH.out.1.2.2.2.2.2 _).trans ((HB.out.frozen (p := ⟨b, 3 + i, none⟩) hb).trans (HF.out _))
        have fal2 : ∀ ob, (W2.alloc ob).frozen? ⟨b, 3 + i, none⟩ = false := fun ob => by rw [World.frozen?_alloc_past _ _ _ hz2]; exact fx2
        have cal2 : ∀ ob, (W2.alloc ob).cell? ⟨b, 3 + i, none⟩ = some x2 := fun ob => by rw [World.cell?_alloc_past _ _ _ hz2]; exact hx2
        have HB2 := hid (fun g W1 h => behind2 i g W1 h8 h)
        rw [hpp] at HB2
        have h8I : (i : Int) < 8 := by omega
        generalize hss : first8.getD i 0 = ss at *
        clear hW2 hB2 hx fx fal cal fz cq HB3
        go_upto_region 5 with fail
        go_region_held3 (fun _ => True) (trivial) (first | (go_at_call 58; refine (square_make p _).mono ?_; rintro e w1 ⟨rfl, rfl⟩) | (go_at_call 56; refine (HB2.out _ _ ?_).mono ?_; (simp [go_sem]); rintro e w1 ⟨rfl, hw1⟩; subst w1))
        go_wp2_with fail
        go_roundw
        case rel =>
          refine ⟨i + 1, by go_num, by omega, ?_⟩
          have h := HH.out.next h8
          rw [hss] at h
          exact h.grow (by simpa using hz2) ((Below.refl _ _).alloc (Nat.le_refl _) _).drew
        case measure => simp [intOf]; omega
      · have HH : Hid (Reck b W W2 (i + 1)) := by
          have h := HR.out.next (by omega) hlt
          rw [hww] at h
          exact h.grow (by simpa using hbr) hB2
        clear hW2 hB2 hx fx fal cal fz cq HB3
        go_wp2_with fail
        go_roundw
        case rel => exact ⟨i + 1, by go_num, by omega, HH.out⟩
        case measure => simp [intOf]; omega
    · have : i = 64 := by omega
      subst this
      go_wp2_with fail
      go_end0
      obtain ⟨h1, h2, h3, h4, h5, h6⟩ := HR.out
      refine ⟨rfl, (Kp.below HB.out).trans h1, h2, h3, fun j hj => (h4 j hj).trans (HB.out.cell (p := ⟨b, j, none⟩) hb), h5, fun j => (h6 j).trans (HB.out.frozen (p := ⟨b, j, none⟩) hb)⟩
end Go.Proofs.Ytbmdnjmdehmahaa
