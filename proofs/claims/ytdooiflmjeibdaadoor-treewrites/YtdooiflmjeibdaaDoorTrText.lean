/-
  Part, of the program and of the document.
-/
import Derived.Test.YtdooiflmjeibdaaDoorTrMem
import Derived.Test.YtdooiflmjeibdaaDoorTrPlain
import Derived.Deep.LoopGhost
namespace Go.Proofs.YtdooiflmjeibdaaDoor.Tr
open Go.RowKit

/-- A text's byte. -/
def byt (s : ByteArray) (i : Nat) : Nat := (s.data.toList.getD i 0).toNat
theorem byt_lt (s : ByteArray) (i : Nat) : byt s i < 256 := UInt8.toNat_lt _
theorem len_data (s : ByteArray) : s.data.toList.length = s.size := by rw [Array.length_toList]; rfl
theorem sidx (s : ByteArray) (i : Nat) (h : i < s.size) (w : World) : (Instr.index 9 (.string s) (.int .i64 (i : Int))).run Tryd.prog w = .ok (.int .u8 (byt s i : Nat)) w := by
  simp [Instr.index, asIntOf, run_underlying Tryd.underlying9]
  have e : s[i]? = some s[i] := getElem?_pos s i h
  have e2 : byt s i = (s[i]).toNat := by
    have h' : i < s.data.toList.length := by simpa using h
    simp [byt, List.getElem?_eq_getElem h', ByteArray.getElem_eq_getElem_data]
  rw [e, e2]
  rfl
theorem take_byt (s : ByteArray) (i : Nat) (h : i < s.size) : s.data.toList.take (i + 1) = s.data.toList.take i ++ [s.data.toList.getD i 0] := by
  have h' : i < s.data.toList.length := by rw [len_data]; exact h
  rw [List.take_succ_eq_append_getElem h', List.getD_eq_getElem?_getD, List.getElem?_eq_getElem h', Option.getD_some]
theorem mem_byt (s : ByteArray) (i : Nat) (h : i < s.size) : s.data.toList.getD i 0 ∈ s.data.toList := by
  have h' : i < s.data.toList.length := by rw [len_data]; exact h
  rw [List.getD_eq_getElem?_getD, List.getElem?_eq_getElem h', Option.getD_some]
  exact List.getElem_mem h'
theorem ba_eq {s t : ByteArray} : s = t ↔ s.data.toList = t.data.toList := ⟨fun h => by rw [h], fun h => by
  cases s; cases t; simp at h; rw [h]⟩

theorem tl_eq {s t : ByteArray} : s = t ↔ s.toList = t.data.toList := by rw [ByteArray.toList_eq]; exact ba_eq
theorem part_closed {s : ByteArray} (h : s = ⟨#[]⟩ ∨ s = ⟨#[46]⟩ ∨ s = ⟨#[46, 46]⟩) : partB s.data.toList = false := by
  rcases h with rfl | rfl | rfl <;> rfl
theorem part_long {s : ByteArray} (h : 20 < s.size) : partB s.data.toList = false := by
  rw [partB, len_data, decide_eq_false (p := s.size ≤ 20) (by omega)]
  simp
theorem part_else {s : ByteArray} (h0 : s ≠ ⟨#[]⟩) (h1 : s ≠ ⟨#[46]⟩) (h2 : s ≠ ⟨#[46, 46]⟩) (h3 : ¬ 20 < s.size) : partB s.data.toList = s.data.toList.all sgn := by
  have a0 : 1 ≤ s.size := by
    refine Nat.pos_of_ne_zero (fun h => h0 ?_)
    rw [ba_eq]
    exact List.length_eq_zero_iff.1 ((len_data s).trans h)
  have a1 : (s.data.toList == [46]) = false := by
    rw [beq_eq_false_iff_ne]
    exact fun h => h1 (ba_eq.2 h)
  have a2 : (s.data.toList == [46, 46]) = false := by
    rw [beq_eq_false_iff_ne]
    exact fun h => h2 (ba_eq.2 h)
  rw [partB, len_data, decide_eq_true a0, decide_eq_true (p := s.size ≤ 20) (by omega), a1, a2]
  simp

set_option maxHeartbeats 1000000 in
theorem part_any (s : ByteArray) (hs : s.size ≤ 20000000) (w : World) : Calls Tryd.prog 41 #[.string s] w fun e w' => e = .returned (.bool (partB s.data.toList)) ∧ w' = w := by
  by_cases h0 : s = ⟨#[]⟩ ∨ s = ⟨#[46]⟩ ∨ s = ⟨#[46, 46]⟩
  · rw [part_closed h0]
    rcases h0 with rfl | rfl | rfl <;>
    · go_enter Tryd.func41, Tryd.ntmps41
      go_wp2
      go_ret
      exact ⟨rfl, rfl⟩
  · have n0 : ¬ s = ⟨#[]⟩ := fun h => h0 (.inl h)
    have n1 : ¬ s = ⟨#[46]⟩ := fun h => h0 (.inr (.inl h))
    have n2 : ¬ s = ⟨#[46, 46]⟩ := fun h => h0 (.inr (.inr h))
    have b0 : s.toList.isEmpty = false := by rw [List.isEmpty_eq_false_iff]; exact fun h => n0 (tl_eq.2 h)
    have b1 : (s.toList == [46]) = false := beq_eq_false_iff_ne.2 (fun h => n1 (tl_eq.2 h))
    have b2 : (s.toList == [46, 46]) = false := beq_eq_false_iff_ne.2 (fun h => n2 (tl_eq.2 h))
    have hz : ¬ (s.size : Int) < 1 := by
      have : s.size ≠ 0 := fun h => n0 (ba_eq.2 (List.length_eq_zero_iff.1 ((len_data s).trans h)))
      omega
    clear h0
    by_cases h3 : 20 < s.size
    · have h3' : (20 : Int) < (s.size : Int) := by omega
      rw [part_long h3]
      go_enter Tryd.func41, Tryd.ntmps41
      go_wp2
      go_ret
      exact ⟨rfl, rfl⟩
    · have h3' : ¬ (20 : Int) < (s.size : Int) := by omega
      · have e : Hid (partB s.data.toList = s.data.toList.all sgn) := part_else n0 n1 n2 h3
        go_enter Tryd.func41, Tryd.ntmps41
        go_wp2
        go_loopw [21] (fun x wr => ∃ i : Nat, x = .int .i64 i ∧ i ≤ s.size ∧ Hid ((s.data.toList.take i).all sgn = true) ∧ wr = w) (fun x _ => s.size - (intOf x).toNat)
        case atStart => exact ⟨0, rfl, by omega, by simp [Hid], rfl⟩
        case round =>
          obtain ⟨i, rfl, hi, HI, rfl⟩ := hrel
          by_cases hlt : i < s.size
          · have hx := sidx s i hlt
            have hltI : (i : Int) < (s.size : Int) := by omega
            have hT := hid (take_byt s i hlt)
            have hM := hid (mem_byt s i hlt)
            have hc : Hid (∃ c, s.data.toList.getD i 0 = c ∧ byt s i = c.toNat) := ⟨_, rfl, rfl⟩
            obtain ⟨c, hc1, hc2⟩ := hc.out
            rw [hc1] at hT hM
            rw [hc2] at hx
            clear hc hc1 hc2
            have hcl : c.toNat < 256 := UInt8.toNat_lt _
            have hsg : Hid (sgn c = (decide (33 ≤ c.toNat) && decide (c.toNat ≤ 126) && !(c.toNat == 47))) := rfl
            generalize c.toNat = n at hx hcl hsg
            have HBAD : Hid (sgn c = false → partB s.data.toList = false) := fun hf => by rw [e.out, List.all_eq_false.2 ⟨c, hM.out, by rw [hf]; simp⟩]
            by_cases g1 : n < 33
            · have g1' : (n : Int) < 33 := by omega
              go_wp2
              go_ret
              refine ⟨?_, rfl⟩
              rw [HBAD.out (by rw [hsg.out, decide_eq_false (by omega)]; simp)]
              rfl
            · have g1' : ¬ (n : Int) < 33 := by omega
              by_cases g2 : 126 < n
              · have g2' : (126 : Int) < n := by omega
                go_wp2
                go_ret
                refine ⟨?_, rfl⟩
                rw [HBAD.out (by rw [hsg.out, decide_eq_false (p := n ≤ 126) (by omega)]; simp)]
                rfl
              · have g2' : ¬ (126 : Int) < n := by omega
                by_cases g3 : n = 47
                · subst g3
                  go_wp2
                  go_ret
                  refine ⟨?_, rfl⟩
                  rw [HBAD.out (by rw [hsg.out]; simp)]
                  rfl
                · have g3' : ((n : Int) == 47) = false := by simp; omega
                  have HS : Hid (sgn c = true) := by unfold Hid; rw [hsg.out, decide_eq_true (by omega), decide_eq_true (by omega)]; simp; omega
                  go_wp2
                  go_roundw
                  case rel => exact ⟨i + 1, by go_num, by omega, by rw [Hid, hT.out, List.all_append, HI.out]; simp [HS.out], by first | rfl | trivial⟩
                  case measure => simp [intOf]; omega
          · have hltI : ¬ (i : Int) < (s.size : Int) := by omega
            go_wp2
            go_ret
            refine ⟨?_, rfl⟩
            have := HI.out
            rw [List.take_of_length_le (by rw [len_data]; omega)] at this
            rw [e.out, this]
            rfl


end Go.Proofs.YtdooiflmjeibdaaDoor.Tr
