/-
  The reference's Name and Less, by bytes.
-/
import Derived.Test.YtmiipifhbliamaaGreatSimName
namespace Go.Proofs.YtmiipifhbliamaaGreat.Sim
open Go.RowKit

/-- A text's byte. -/
def byt (s : ByteArray) (i : Nat) : Nat := (s.data.toList.getD i 0).toNat
theorem byt_lt (s : ByteArray) (i : Nat) : byt s i < 256 := UInt8.toNat_lt _
theorem len_data (s : ByteArray) : s.data.toList.length = s.size := by rw [Array.length_toList]; rfl
theorem sidx (s : ByteArray) (i : Nat) (h : i < s.size) (w : World) : (Instr.index 9 (.string s) (.int .i64 (i : Int))).run Tryz.prog w = .ok (.int .u8 (byt s i : Nat)) w := by
  simp [Instr.index, asIntOf, run_underlying Tryz.underlying9]
  have e : s[i]? = some s[i] := getElem?_pos s i h
  have e2 : byt s i = (s[i]).toNat := by
    have h' : i < s.data.toList.length := by simpa using h
    simp [byt, List.getElem?_eq_getElem h', ByteArray.getElem_eq_getElem_data]
  rw [e, e2]
  rfl
theorem take_byt (s : ByteArray) (i : Nat) (h : i < s.size) : s.data.toList.take (i + 1) = s.data.toList.take i ++ [s.data.toList.getD i 0] := by
  have h' : i < s.data.toList.length := by rw [len_data]; exact h
  rw [List.take_succ_eq_append_getElem h', List.getD_eq_getElem?_getD, List.getElem?_eq_getElem h', Option.getD_some]
theorem mem_byt (s : ByteArray) (i : Nat) (h : i < s.size) : s.data.toList.getD i 0 ∈ s.data.toList := by
  have h' : i < s.data.toList.length := by rw [len_data]; exact h
  rw [List.getD_eq_getElem?_getD, List.getElem?_eq_getElem h', Option.getD_some]
  exact List.getElem_mem h'

set_option maxHeartbeats 1000000 in
theorem rName_any (s : ByteArray) (hs : s.size ≤ 1000000) (w : World) : Calls Tryz.prog 73 #[.string s] w fun e w' => e = .returned (.bool (nameB s.data.toList)) ∧ w' = w := by
  have hl := len_data s
  by_cases h1 : s.size < 1
  · have e : nameB s.data.toList = false := by unfold nameB; rw [hl, decide_eq_false (by omega)]; rfl
    rw [e]
    have h1' : (s.size : Int) < 1 := by omega
    go_enter Tryz.func73, Tryz.ntmps73
    go_wp2
    go_ret
    exact ⟨rfl, rfl⟩
  · have h1' : ¬ (s.size : Int) < 1 := by omega
    by_cases h2 : 40 < s.size
    · have e : nameB s.data.toList = false := by unfold nameB; rw [hl, decide_eq_true (by omega), decide_eq_false (by omega)]; rfl
      rw [e]
      have h2' : (40 : Int) < (s.size : Int) := by omega
      go_enter Tryz.func73, Tryz.ntmps73
      go_wp2
      go_ret
      exact ⟨rfl, rfl⟩
    · have e : Hid (nameB s.data.toList = s.data.toList.all sign) := by unfold Hid nameB; rw [hl, decide_eq_true (by omega), decide_eq_true (by omega)]; rfl
      have h2' : ¬ (40 : Int) < (s.size : Int) := by omega
      clear hl
      go_enter Tryz.func73, Tryz.ntmps73
      go_wp2
      go_loopw [3] (fun x wr => ∃ i : Nat, x = .int .i64 i ∧ i ≤ s.size ∧ Hid ((s.data.toList.take i).all sign = true) ∧ wr = w) (fun x _ => s.size - (intOf x).toNat)
      case atStart => exact ⟨0, rfl, by omega, by simp [Hid], rfl⟩
      case round =>
        obtain ⟨i, rfl, hi, HI, rfl⟩ := hrel
        by_cases hlt : i < s.size
        · have hx := sidx s i hlt
          have hT := hid (take_byt s i hlt)
          have hM := hid (mem_byt s i hlt)
          have hc : Hid (∃ c, s.data.toList.getD i 0 = c ∧ byt s i = c.toNat) := ⟨_, rfl, rfl⟩
          obtain ⟨c, hc1, hc2⟩ := hc.out
          rw [hc1] at hT hM
          rw [hc2] at hx
          clear hc hc1 hc2
          have hcl : c.toNat < 256 := UInt8.toNat_lt _
          have hsg : Hid (sign c = (decide (33 ≤ c.toNat) && decide (c.toNat ≤ 126) && !(c.toNat == 47))) := rfl
          generalize c.toNat = n at hx hcl hsg
          by_cases g1 : n < 33
          · have g1' : (n : Int) < 33 := by omega
            go_wp2
            go_ret
            refine ⟨?_, rfl⟩
            rw [e.out, List.all_eq_false.2 ⟨c, hM.out, by rw [hsg.out, decide_eq_false (by omega)]; simp⟩]
            rfl
          · have g1' : ¬ (n : Int) < 33 := by omega
            by_cases g2 : 126 < n
            · have g2' : (126 : Int) < n := by omega
              go_wp2
              go_ret
              refine ⟨?_, rfl⟩
              rw [e.out, List.all_eq_false.2 ⟨c, hM.out, by rw [hsg.out, decide_eq_false (p := n ≤ 126) (by omega)]; simp⟩]
              rfl
            · have g2' : ¬ (126 : Int) < n := by omega
              by_cases g3 : n = 47
              · subst g3
                go_wp2
                go_ret
                refine ⟨?_, rfl⟩
                rw [e.out, List.all_eq_false.2 ⟨c, hM.out, by rw [hsg.out]; simp⟩]
                rfl
              · have g3' : ((n : Int) == 47) = false := by simp; omega
                have HS : Hid (sign c = true) := by unfold Hid; rw [hsg.out, decide_eq_true (by omega), decide_eq_true (by omega)]; simp; omega
                go_wp2
                go_roundw
                case rel => exact ⟨i + 1, by go_num, by omega, by rw [Hid, hT.out, List.all_append, HI.out]; simp [HS.out], by first | rfl | trivial⟩
                case measure => simp [intOf]; omega
        · go_wp2
          go_ret
          refine ⟨?_, rfl⟩
          have := HI.out
          rw [List.take_of_length_le (by rw [len_data]; omega)] at this
          rw [e.out, this]
          rfl

theorem bb_step (a b : List UInt8) (i : Nat) (ha : i < a.length) (hb : i < b.length) : bytesBefore (a.drop i) (b.drop i) = if (a.getD i 0).toNat = (b.getD i 0).toNat then bytesBefore (a.drop (i + 1)) (b.drop (i + 1)) else decide ((a.getD i 0).toNat < (b.getD i 0).toNat) := by
  rw [List.drop_eq_getElem_cons ha, List.drop_eq_getElem_cons hb, List.getD_eq_getElem?_getD, List.getElem?_eq_getElem ha, List.getD_eq_getElem?_getD, List.getElem?_eq_getElem hb, Option.getD_some, Option.getD_some]
  rw [bytesBefore]
  by_cases h : a[i] = b[i]
  · simp [h]
  · have h' : ¬ a[i].toNat = b[i].toNat := fun e => h (UInt8.toNat_inj.1 e)
    have h'' : (a[i] == b[i]) = false := by simp [h]
    rw [if_neg h', h'']
    simp [UInt8.lt_iff_toNat_lt]
theorem bb_end (a b : List UInt8) (i : Nat) (h : a.length ≤ i ∨ b.length ≤ i) (ha : i ≤ a.length) (hb : i ≤ b.length) : bytesBefore (a.drop i) (b.drop i) = decide (a.length < b.length) := by
  by_cases h1 : a.length ≤ i
  · rw [List.drop_of_length_le h1]
    by_cases h2 : b.length ≤ i
    · rw [List.drop_of_length_le h2, decide_eq_false (by omega)]
      rfl
    · rw [List.drop_eq_getElem_cons (by omega : i < b.length), decide_eq_true (by omega)]
      rfl
  · have h2 : b.length ≤ i := by omega
    rw [List.drop_of_length_le h2, List.drop_eq_getElem_cons (by omega : i < a.length), decide_eq_false (by omega)]
    rfl

set_option maxHeartbeats 1000000 in
/-- Less. -/
theorem rLess_any (s t : ByteArray) (hs : s.size ≤ 1000000) (ht : t.size ≤ 1000000) (w : World) : Calls Tryz.prog 81 #[.string s, .string t] w fun e w' => e = .returned (.bool (bytesBefore s.data.toList t.data.toList)) ∧ Kp No w w' := by
  go_enter Tryz.func81, Tryz.ntmps81
  go_wp2
  go_loopw [5] (fun x wr => ∃ i : Nat, x = .int .i64 i ∧ i ≤ s.size ∧ i ≤ t.size ∧ Hid (bytesBefore s.data.toList t.data.toList = bytesBefore (s.data.toList.drop i) (t.data.toList.drop i)) ∧ Hid (Kp No w wr)) (fun x _ => s.size - (intOf x).toNat)
  case atStart => exact ⟨0, rfl, by omega, by omega, rfl, Kp.refl _ _⟩
  case round =>
    obtain ⟨i, rfl, hi, hi', HI, HK⟩ := hrel
    by_cases hlt : i < s.size
    · by_cases hlt' : i < t.size
      · have hx := sidx s i hlt
        have hy := sidx t i hlt'
        have HL := hid (bb_step s.data.toList t.data.toList i (by rw [len_data]; exact hlt) (by rw [len_data]; exact hlt'))
        have e1 : (s.data.toList.getD i 0).toNat = byt s i := rfl
        have e2 : (t.data.toList.getD i 0).toNat = byt t i := rfl
        rw [e1, e2] at HL
        clear e1 e2
        generalize byt s i = x at *
        generalize byt t i = y at *
        by_cases hxy : x = y
        · subst hxy
          go_wp2_with fail
          go_quiet (fail)
          go_wp2
          go_roundw
          case rel => exact ⟨i + 1, by go_num, by omega, by omega, by have h := HL.out; simp only [if_true] at h; rw [Hid, HI.out, h], HK.out.drewN _⟩
          case measure => simp [intOf]; omega
        · have hne : ((x : Int) != (y : Int)) = true := by simp; omega
          have HR : Hid (bytesBefore s.data.toList t.data.toList = decide (x < y)) := by rw [Hid, HI.out, HL.out, if_neg hxy]
          go_wp2_with fail
          go_quiet (fail)
          go_wp2_with fail
          go_quiet (fail)
          go_wp2
          go_ret
          refine ⟨?_, (HK.out.drewN _).drewN _⟩
          rw [HR.out]
          simp
      · have HE : Hid (bytesBefore s.data.toList t.data.toList = decide (s.size < t.size)) := by rw [Hid, HI.out, bb_end _ _ _ (.inr (by rw [len_data]; omega)) (by rw [len_data]; omega) (by rw [len_data]; omega), len_data, len_data]
        go_wp2
        go_ret
        refine ⟨?_, HK.out⟩
        rw [HE.out]
        simp
    · have HE : Hid (bytesBefore s.data.toList t.data.toList = decide (s.size < t.size)) := by rw [Hid, HI.out, bb_end _ _ _ (.inl (by rw [len_data]; omega)) (by rw [len_data]; omega) (by rw [len_data]; omega), len_data, len_data]
      go_wp2
      go_ret
      refine ⟨?_, HK.out⟩
      rw [HE.out]
      simp

end Go.Proofs.YtmiipifhbliamaaGreat.Sim
