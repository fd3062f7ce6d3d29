/-
  Which names are right: the program's Name, by runes, and the reference's, by bytes.
-/
import Derived.Test.YtmiipifhbliamaaGreatSimMem
import Derived.Lib.OthersKept
import Derived.Deep.LoopGhost
import Derived.Lib.TrimU
namespace Go.Proofs.YtmiipifhbliamaaGreat.Sim
open Go.RowKit

/-- A rune that no name has. -/
def badR (x : Nat) : Bool := decide (x < 33) || decide (126 < x) || x == 47

theorem sign_bad (c : UInt8) : badR c.toNat = !sign c := by
  unfold badR sign
  by_cases h1 : c.toNat < 33 <;> by_cases h2 : 126 < c.toNat <;> by_cases h3 : c.toNat = 47 <;> simp [h1, h2, h3] <;> omega
theorem sign_high (c : UInt8) (h : 128 ≤ c.toNat) : sign c = false := by
  unfold sign
  have : decide (c.toNat ≤ 126) = false := by simp; omega
  simp [this]

theorem dec_high (s : ByteArray) (pos : Nat) (h : 128 ≤ (s.get! pos).toNat) : 128 ≤ (Utf8.decode s pos).1 := by
  unfold Utf8.decode
  simp only [Nat.add_zero]
  rw [if_neg (by omega)]
  split
  · split
    · omega
    · unfold Utf8.runeError; omega
  · split
    · split
      · rename_i h; simp only [Bool.and_eq_true, decide_eq_true_eq, ge_iff_le] at h; omega
      · unfold Utf8.runeError; omega
    · split
      · split
        · rename_i h; simp only [Bool.and_eq_true, decide_eq_true_eq, ge_iff_le] at h; omega
        · unfold Utf8.runeError; omega
      · unfold Utf8.runeError; omega
theorem dec_bad (s : ByteArray) (pos : Nat) (h : pos < s.size) : badR (Utf8.decode s pos).1 = !sign (s[pos]'h) ∧ (sign (s[pos]'h) = true → (Utf8.decode s pos).2 = 1) := by
  have e : s.get! pos = s[pos]'h := by simp [ByteArray.get!, ByteArray.getElem_eq_getElem_data, getElem!_pos, h]
  by_cases hc : (s[pos]'h).toNat < 128
  · rw [decode_ascii s pos h hc]
    exact ⟨sign_bad _, fun _ => rfl⟩
  · have h1 := sign_high _ (by omega : 128 ≤ (s[pos]'h).toNat)
    have h2 := dec_high s pos (by rw [e]; omega)
    refine ⟨?_, fun h => by rw [h1] at h; cases h⟩
    rw [h1]
    unfold badR
    have : decide (126 < (Utf8.decode s pos).1) = true := by simp; omega
    simp [this]

theorem pName1_any (x : Nat) (hx : x ≤ 1114111) (w : World) : Calls Tryz.prog 79 #[.int .i32 x] w fun e w' => e = .returned (.bool (badR x)) ∧ w' = w := by
  by_cases h1 : x < 33
  · have e : badR x = true := by simp [badR, h1]
    rw [e]
    have h1' : (x : Int) < 33 := by omega
    go_enter Tryz.func79, Tryz.ntmps79
    go_wp2
    go_ret
    exact ⟨rfl, rfl⟩
  · by_cases h2 : 126 < x
    · have e : badR x = true := by simp [badR, h2]
      rw [e]
      have h1' : ¬ (x : Int) < 33 := by omega
      have h2' : (126 : Int) < x := by omega
      go_enter Tryz.func79, Tryz.ntmps79
      go_wp2
      go_ret
      exact ⟨rfl, rfl⟩
    · have h1' : ¬ (x : Int) < 33 := by omega
      have h2' : ¬ (126 : Int) < x := by omega
      have e : badR x = (x == 47) := by simp [badR, h1, h2]
      rw [e]
      by_cases h3 : x = 47
      · subst h3
        go_enter Tryz.func79, Tryz.ntmps79
        go_wp2
        go_ret
        exact ⟨rfl, rfl⟩
      · have h3' : ((x : Int) == 47) = false := by simp; omega
        have h3'' : (x == 47) = false := by simp; omega
        rw [h3'']
        go_enter Tryz.func79, Tryz.ntmps79
        go_wp2
        go_ret
        exact ⟨rfl, rfl⟩

set_option maxHeartbeats 1000000 in
theorem indexFunc_any (s : ByteArray) (w : World) : Calls Tryz.prog 97 #[.string s, .func (.func 79) #[] #[], .bool true] w fun e w' => ∃ z : Int, e = .returned (.int .i64 z) ∧ decide (0 ≤ z) = !(s.data.toList.all sign) ∧ Below w.heap.size w w' := by
  go_enter Tryz.func97, Tryz.ntmps97
  go_wp2
  go_loopg [] s.size (fun gf wx => ∃ pos : Nat, Hid (wx.heap[w.heap.size]? = some (.stringIter s pos)) ∧ Hid (Below w.heap.size w wx) ∧ pos ≤ s.size ∧ Hid ((s.data.toList.take pos).all sign = true) ∧ s.size ≤ pos + gf)
  case atStart => exact ⟨0, World.iter_heap w s 0, (Below.refl _ w).alloc (Nat.le_refl _) _, Nat.zero_le _, by simp [Hid], by omega⟩
  case round =>
    obtain ⟨pos, hit, hbw, hps0, hall, hfu⟩ := hrel
    by_cases hps : pos < s.size
    · obtain ⟨g', rfl⟩ : ∃ g', gk = g' + 1 := ⟨gk - 1, by omega⟩
      have hnx : ∀ ty, (Instr.next (.pointer (some ⟨w.heap.size, 0, none⟩)) true ty).run Tryz.prog wr = _ := fun ty => Lib.run_next_any_at wr w.heap.size s pos ty hit hps
      obtain ⟨hb, hK1⟩ := dec_bad s pos hps
      have hle := Lib.rune_le s pos
      obtain ⟨R, hR⟩ : ∃ R, (Utf8.decode s pos).1 = R := ⟨_, rfl⟩
      obtain ⟨K, hK⟩ : ∃ K, (Utf8.decode s pos).2 = K := ⟨_, rfl⟩
      rw [hR, hK] at hnx
      rw [hR] at hb hle
      rw [hK] at hK1
      have hit2 := hid (Lib.iterAt_heap wr w.heap.size s pos (pos + K) hit)
      have hbw2 := hid (Lib.below_iterAt hbw (k := w.heap.size) (Nat.le_refl _) s (pos + K))
      have hc := hid (pName1_any R hle)
      obtain ⟨W, hWd⟩ : ∃ W, wr.iterAt w.heap.size s (pos + K) = W := ⟨_, rfl⟩
      rw [hWd] at hnx hit2 hbw2
      have hel : Hid (s.data.toList.take (pos + 1) = s.data.toList.take pos ++ [s[pos]'hps]) := by
        rw [Hid, List.take_succ_eq_append_getElem (by simpa using hps)]
        rfl
      clear hR hK hWd hit
      cases hsg : sign (s[pos]'hps) with
      | true =>
        have HK := hid (hK1 hsg)
        rw [hsg] at hb
        have HB := hid hb
        have HG := hid hsg
        clear hK1 hb hsg
        go_wp2_with (go_at_call 79; refine (hc.out _).mono ?_; rintro e w2 ⟨rfl, h2⟩; subst w2; rw [HB.out])
        go_roundg g'
        case measure => omega
        case rel =>
          have h1 := HK.out
          subst h1
          exact ⟨pos + 1, hit2, hbw2, by omega, by rw [Hid, hel.out, List.all_append, hall.out]; simp [HG.out], by omega⟩
      | false =>
        rw [hsg] at hb
        have HB := hid hb
        have HG := hid hsg
        clear hK1 hb hsg
        go_wp2_with (go_at_call 79; refine (hc.out _).mono ?_; rintro e w2 ⟨rfl, h2⟩; subst w2; rw [HB.out])
        go_ret
        refine ⟨pos, rfl, ?_, hbw2.out⟩
        have hfa : s.data.toList.all sign = false := by
          rw [List.all_eq_false]
          exact ⟨s[pos]'hps, by simp [ByteArray.getElem_eq_getElem_data], by simp [HG.out]⟩
        rw [hfa]
        simp
    · have hnx : ∀ ty, (Instr.next (.pointer (some ⟨w.heap.size, 0, none⟩)) true ty).run Tryz.prog wr = _ := fun ty => Lib.run_next_end_at wr w.heap.size s pos ty hit hps
      go_wp2
      go_ret
      refine ⟨-1, rfl, ?_, hbw.out⟩
      have := hall.out
      rw [List.take_of_length_le (by rw [Array.length_toList]; have : s.data.size = s.size := rfl; omega)] at this
      rw [this]
      rfl

theorem IndexFunc_any (s : ByteArray) (w : World) : Calls Tryz.prog 85 #[.string s, .func (.func 79) #[] #[]] w fun e w' => ∃ z : Int, e = .returned (.int .i64 z) ∧ decide (0 ≤ z) = !(s.data.toList.all sign) ∧ Below w.heap.size w w' := by
  have HI := hid (indexFunc_any s w)
  go_enter Tryz.func85, Tryz.ntmps85
  go_wp2_with (go_at_call 97; refine (HI.out).mono ?_; rintro e w1 ⟨z, rfl, hz, hb⟩; have HZ := hid hz; have HB := hid hb; clear hz hb)
  go_ret
  exact ⟨z, rfl, HZ.out, HB.out⟩

theorem containsFunc_any (s : ByteArray) (w : World) : Calls Tryz.prog 78 #[.string s, .func (.func 79) #[] #[]] w fun e w' => e = .returned (.bool (!(s.data.toList.all sign))) ∧ Below w.heap.size w w' := by
  have HI := hid (IndexFunc_any s w)
  go_enter Tryz.func78, Tryz.ntmps78
  go_wp2_with (go_at_call 85; refine (HI.out).mono ?_; rintro e w1 ⟨z, rfl, hz, hb⟩; have HZ := hid hz; have HB := hid hb; clear hz hb)
  go_ret
  refine ⟨?_, HB.out⟩
  rw [← HZ.out]
  rfl

/-- Name. -/
theorem pName_any (s : ByteArray) (hs : s.size ≤ 1000000) (w : World) : Calls Tryz.prog 70 #[.string s] w fun e w' => e = .returned (.bool (nameB s.data.toList)) ∧ Kp No w w' := by
  have hl : s.data.toList.length = s.size := by rw [Array.length_toList]; rfl
  by_cases h1 : s.size < 1
  · have e : nameB s.data.toList = false := by unfold nameB; rw [hl, decide_eq_false (by omega)]; rfl
    rw [e]
    have h1' : (s.size : Int) < 1 := by omega
    go_enter Tryz.func70, Tryz.ntmps70
    go_wp2
    go_ret
    exact ⟨rfl, Kp.refl _ _⟩
  · have h1' : ¬ (s.size : Int) < 1 := by omega
    by_cases h2 : 40 < s.size
    · have e : nameB s.data.toList = false := by unfold nameB; rw [hl, decide_eq_true (by omega), decide_eq_false (by omega)]; rfl
      rw [e]
      have h2' : (40 : Int) < (s.size : Int) := by omega
      go_enter Tryz.func70, Tryz.ntmps70
      go_wp2
      go_ret
      exact ⟨rfl, Kp.refl _ _⟩
    · have e : nameB s.data.toList = s.data.toList.all sign := by unfold nameB; rw [hl, decide_eq_true (by omega), decide_eq_true (by omega)]; rfl
      rw [e]
      have h2' : ¬ (40 : Int) < (s.size : Int) := by omega
      have HC := hid (containsFunc_any s w)
      generalize s.data.toList.all sign = ok at *
      clear e hl
      have hnot : ∀ (x : Bool) (w : World), (Op.unary .not (.bool x)).run Tryz.prog w = .ok (.bool (!x)) w := fun _ _ => rfl
      go_enter Tryz.func70, Tryz.ntmps70
      go_wp2_with (go_at_call 78; refine (HC.out).mono ?_; rintro e w1 ⟨rfl, hb⟩; have HB := hid hb; clear hb)
      go_ret
      exact ⟨rfl, Kp.below HB.out⟩

end Go.Proofs.YtmiipifhbliamaaGreat.Sim
