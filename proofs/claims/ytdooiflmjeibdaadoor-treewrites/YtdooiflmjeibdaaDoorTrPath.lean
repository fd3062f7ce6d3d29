/-
  Path, of the document and of the program.
-/
import Derived.Test.YtdooiflmjeibdaaDoorTrRow
import Derived.Test.YtdooiflmjeibdaaDoorTrShelf
namespace Go.Proofs.YtdooiflmjeibdaaDoor.Tr
open Go.RowKit

/-- A row's text. -/
theorem OwnT.at {w : World} {ad : Option Addr} {n cap : Nat} {xs : List ByteArray} (h : OwnT w (.slice ad n cap) xs) (i : Nat) (x : ByteArray) (hx : xs[i]? = some x) : ∃ g, ad = some ⟨g, 0, none⟩ ∧ w.cell? ⟨g, i, none⟩ = some (.string x) := by
  have hi : i < xs.length := (List.getElem?_eq_some_iff.1 hx).1
  have h' := h.row
  obtain ⟨hl, h2⟩ := h
  rcases h2 with ⟨e, h0⟩ | ⟨g, cap', cur, e, _, _, hn, _⟩
  · rw [h0] at hi
    omega
  · cases e
    refine ⟨g, rfl, ?_⟩
    rw [Row.cellAt h' i (by omega)]
    exact tc_at xs i x hx

theorem all_part {xs : List ByteArray} {i : Nat} {x : ByteArray} (hx : xs[i]? = some x) (h : partB x.data.toList = false) : (xs.map (·.data.toList)).all partB = false := by
  rw [List.all_eq_false]
  exact ⟨x.data.toList, List.mem_map.2 ⟨x, List.mem_of_getElem? hx, rfl⟩, by rw [h]; simp⟩
theorem part_take {xs : List ByteArray} {i : Nat} {x : ByteArray} (hx : xs[i]? = some x) (h : partB x.data.toList = true) (h0 : ((xs.take i).map (·.data.toList)).all partB = true) : ((xs.take (i + 1)).map (·.data.toList)).all partB = true := by
  obtain ⟨hi, e⟩ := List.getElem?_eq_some_iff.1 hx
  rw [List.take_succ_eq_append_getElem hi, List.map_append, List.all_append, h0, e]
  simp [h]
theorem part_done {xs : List ByteArray} {i : Nat} (hi : xs.length ≤ i) (h0 : ((xs.take i).map (·.data.toList)).all partB = true) : (xs.map (·.data.toList)).all partB = true := by rwa [List.take_of_length_le hi] at h0
theorem mem_size {s : ByteArray} {xs : List ByteArray} (h : cuts s.data.toList = xs.map (·.data.toList)) : ∀ x ∈ xs, x.size ≤ s.size := by
  intro x hx
  have h1 := tot_cuts s.data.toList
  have h2 : x.data.toList ∈ cuts s.data.toList := by rw [h]; exact List.mem_map.2 ⟨x, hx, rfl⟩
  have h3 : ∀ l : List Tx, x.data.toList ∈ l → x.size + 1 ≤ tot l := by
    intro l hl
    induction l with
    | nil => simp at hl
    | cons a t ih =>
      simp only [tot, List.map_cons, List.sum_cons]
      rcases List.mem_cons.1 hl with rfl | hl
      · rw [len_data]; omega
      · have := ih hl
        simp only [tot] at this
        omega
  have h4 := h3 _ h2
  rw [h1, len_data] at h4
  omega


theorem cells_row (w : World) (xs : List ByteArray) (N : Nat) (_h : xs.length ≤ N) (i : Nat) (x : ByteArray) (hx : xs[i]? = some x) : (w.alloc (.cells (Lib.cellsOf xs N) 9)).cell? ⟨w.heap.size, i, none⟩ = some (.string x) := by
  rw [World.cell?_alloc_at _ _ _ _ rfl]
  have hi := (List.getElem?_eq_some_iff.1 hx).1
  have hx' : xs[i] = x := (List.getElem?_eq_some_iff.1 hx).2
  simp [Lib.cellsOf, List.getElem?_append_left, hi, hx']

set_option maxHeartbeats 1000000 in
/-- strings.SplitN of at most seven, by /. -/
theorem splitN_any (s : ByteArray) (hs : s.size ≤ 1000000) (w : World) : Calls Tryd.prog 40 #[.string s, .string ⟨#[47]⟩, .int .i64 7] w fun e w' => ∃ (xs : List ByteArray) (N : Nat), xs.length ≤ N ∧ e = .returned (.slice (some ⟨w.heap.size, 0, none⟩) xs.length N) ∧ w' = w.alloc (.cells (Lib.cellsOf xs N) 9) ∧
    xs.map (·.data.toList) = Lib.splitK [47] 0 (min 7 (s.data.toList.length + 1) - 1) s.data.toList := by
  have hN : ((min 7 (s.size + 1) : Nat) : Int) = min (if (7 : Int) < 0 then (Lib.countB s ⟨#[47]⟩ : Int) + 1 else 7) ((s.size : Int) + 1) := by
    rw [if_neg (by omega)]
    omega
  have hg := Any.strings_genSplit_core Tryd.gsplit Tryd.info9 s ⟨#[47]⟩ 0 7 (min 7 (s.size + 1)) w (by omega) (by decide) (by omega) (fun x c _ => by
    have := Any.strings_Index_one (P := Tryd.prog) (ρ := Tryd.gsplit_ren) { Tryd.gsplit with } x 47 (w.alloc (.cells c 9))
    rw [← Lib.index_one] at this
    exact this) (by
    have := Any.strings_Count_one (P := Tryd.prog) (ρ := Tryd.gsplit_ren) { Tryd.gsplit with } s 47 w
    rw [Lib.countByte, ← Lib.count_one] at this
    exact this) (by omega) (by omega) hN
  go_enter Tryd.func40, Tryd.ntmps40
  go_wp2_with (go_at_call 51; refine hg.mono ?_; rintro e w1 ⟨rfl, rfl⟩)
  go_ret
  exact ⟨_, _, by have := Lib.splitB_length_le ⟨#[47]⟩ 0 (min 7 (s.size + 1) - 1) s; omega, rfl, rfl, by rw [Lib.splitB_data, len_data]⟩

theorem splitK_mem (k : Nat) (s : Tx) : ∀ x ∈ Lib.splitK [47] 0 k s, x.length ≤ s.length := by
  induction k generalizing s with
  | zero =>
    intro x hx
    simp only [Lib.splitK, List.mem_singleton] at hx
    rw [hx]
    exact Nat.le_refl _
  | succ k ih =>
    intro x hx
    rw [Lib.splitK] at hx
    split at hx
    · rw [List.mem_singleton.1 hx]
      exact Nat.le_refl _
    · rcases List.mem_cons.1 hx with rfl | hx
      · rw [List.length_take]
        omega
      · have := ih _ x hx
        rw [List.length_drop] at this
        omega

set_option maxHeartbeats 2000000 in
theorem path_any (s : ByteArray) (hs : s.size ≤ 1000000) (w : World) : Calls Tryd.prog 26 #[.string s] w fun e w' => e = .returned (.bool (pathB s.data.toList)) ∧ Kp No w w' := by
  have HP := hid (path_split s.data.toList)
  go_enter Tryd.func26, Tryd.ntmps26
  go_wp2_with (go_at_call 40; refine (splitN_any _ hs _).mono ?_; rintro e w1 ⟨xs, N, hN, rfl, hw0, hxs0⟩; have hw := hid hw0; have HX := hid hxs0; clear hw0 hxs0)
  all_goals
    have HC := hid (cells_row w xs N hN)
    have HM := hid (splitK_mem (min 7 (s.data.toList.length + 1) - 1) s.data.toList)
    rw [HX.out.symm] at HP HM
    have HK : Hid (Kp No w w1) := by unfold Hid; rw [hw.out]; exact (Kp.refl _ _).alloc _
    rw [← hw.out] at HC
    have HN := hid hN
    clear hw hN HX
  · rename_i h6
    go_ret
    refine ⟨?_, HK.out⟩
    rw [HP.out, List.length_map, decide_eq_false (p := xs.length ≤ 6) (by omega)]
    rfl
  · rename_i h6
    have hxl : xs.length ≤ 6 := by omega
    go_loopw [13] (fun x wr => ∃ i : Nat, x = .int .i64 i ∧ i ≤ xs.length ∧ Hid (((xs.take i).map (·.data.toList)).all partB = true) ∧ wr = w1) (fun x _ => xs.length - (intOf x).toNat)
    case atStart => exact ⟨0, rfl, Nat.zero_le _, by simp [Hid], rfl⟩
    case round =>
      obtain ⟨i, rfl, hi, HI, rfl⟩ := hrel
      by_cases hlt : i < xs.length
      · have hltI : (i : Int) < (xs.length : Int) := by omega
        obtain ⟨x, hx⟩ : ∃ x, xs[i]? = some x := ⟨_, List.getElem?_eq_getElem hlt⟩
        have hcell := HC.out i x hx
        have HX2 := hid hx
        have hxs : x.size ≤ 20000000 := by
          have := HM.out x.data.toList (List.mem_map.2 ⟨x, List.mem_of_getElem? hx, rfl⟩)
          rw [len_data, len_data] at this
          omega
        have hp := part_any x hxs wr
        cases hb : partB x.data.toList with
        | false =>
          rw [hb] at hp
          clear hx
          go_wp2_with (go_at_call 41; refine hp.mono ?_; rintro e w2 ⟨rfl, rfl⟩)
          go_ret
          refine ⟨?_, HK.out⟩
          rw [HP.out, all_part HX2.out hb, Bool.and_false]
          rfl
        | true =>
          rw [hb] at hp
          clear hx
          have HB := hid hb
          clear hb
          go_wp2_with (go_at_call 41; refine hp.mono ?_; rintro e w2 ⟨rfl, rfl⟩)
          go_roundw
          case rel => exact ⟨i + 1, by go_num, by omega, part_take HX2.out HB.out HI.out, by first | rfl | trivial⟩
          case measure => simp [intOf] <;> omega
      · have hltI : ¬ (i : Int) < (xs.length : Int) := by omega
        go_wp2
        go_ret
        refine ⟨?_, HK.out⟩
        rw [HP.out, part_done (by omega) HI.out, List.length_map, decide_eq_true (p := xs.length ≤ 6) (by omega)]
        rfl

end Go.Proofs.YtdooiflmjeibdaaDoor.Tr
