/- Of the proof: the texts ShIds, ShMax, SgStabM, SgRow, SgSwap, SgRot, SgCmp, SgIns, SgSymA, SgSymB, SgSymC, SgStable, SgCompact, SgSort, SgRight, SgBin, SgFind, SgJoin, SgCmpM, SgOwn, ShNext, ShRecs, one behind the other. -/
import Derived.Test.YtaaioaocjfpajaaGreatDoorB12
import Derived.Test.YtaaioaocjfpajaaGreatDoorPkShelf
import Derived.Sort.OwnSortedInts
import Derived.Sort.KeysCollected
import Derived.Test.YtaaioaocjfpajaaGreatDoorB1
import Derived.Deep.MidRow
import Derived.Deep.RegionHeld3
import Derived.Lib.BytesEntry
import Derived.Deep.RegionWith
import Derived.BigRegion
import Derived.Deep.DeepCutAuto
import Derived.Stop.BytesEq
import Derived.Lib.AppendZerosOnto
import Derived.Test.YtaaioaocjfpajaaGreatDoorB7
section
/-
  The ids of the packs that are seen, rising.
-/
namespace Go.Proofs.YtaaioaocjfpajaaGreatDoor.Sh
open Go.RowKit Go.Shelf
open Sim (hid Kp No PS Done Blk nm pList OwnN Row Nm)

def packS : ByteArray := ⟨#[112, 97, 99, 107, 46]⟩
/-- The id that a name tells. -/
def idN (n : Nm) : Option Int := if (idOf packS ⟨n.toArray⟩).2 = true then some (idOf packS ⟨n.toArray⟩).1 else none
def ic (zs : List Int) : List Value := zs.map (Value.int .i64)
def RowZ (w : World) (v : Value) (zs : List Int) : Prop := Row w 3 1 v zs.length (ic zs)
theorem infoI : (Tryz.prog.info? 3).map (fun i => (i.zero, i.size, i.bytes)) = some (some (.int .i64 0), 1, 8) := by kernel_rfl
theorem run_oneI (n : Int) (w : World) : (Instr.buildSlice 23 1 #[(0, .int .i64 n)]).run Tryz.prog w = .ok (.slice (some ⟨w.heap.size, 0, none⟩) 1 1) (w.alloc (.cells #[.int .i64 n] 3)) := by kernel_rfl
theorem RowZ.form {w : World} {v : Value} {zs : List Int} (h : RowZ w v zs) : ∃ a c, v = .slice a zs.length c ∧ zs.length ≤ c ∧ c ≤ maxLen ∧ (zs ≠ [] → ∃ g, a = some ⟨g, 0, none⟩ ∧ g < w.heap.size) := by
  obtain ⟨a, c, rfl, h1, h2, h3, h4⟩ := Row.shape h
  refine ⟨a, c, rfl, h1, h2, fun hne => ?_⟩
  cases a with
  | none =>
    have := (h3 rfl).1
    exact absurd (List.length_eq_zero_iff.1 this) hne
  | some x =>
    obtain ⟨hs, ho⟩ := h4 x rfl
    obtain ⟨b, o, s⟩ := x
    simp only at hs ho
    subst hs ho
    exact ⟨b, rfl, Row.lt h b rfl⟩
theorem RowZ.cell {w : World} {g n c : Nat} {zs : List Int} (h : RowZ w (.slice (some ⟨g, 0, none⟩) n c) zs) (hn : n = zs.length) (i : Nat) {z : Int} (hi : zs[i]? = some z) : w.cell? ⟨g, i, none⟩ = some (.int .i64 z) := by
  subst hn
  have hl := (List.getElem?_eq_some_iff.1 hi).1
  have := Row.cellAt h i (by omega)
  rw [this, ic, List.getElem?_map, hi]
  rfl

theorem Vars.kept {w w' : World} (h : Vars w) (k : Kp No w w') : Vars w' := h.below k.toBelow'

set_option maxHeartbeats 1000000 in
theorem pickI_any {P : Nat → Prop} {N : Nat} (w : World) (s : Nat) (p : PS) (h : Sim.Sys P N w s p) (hV : Vars w) (hnl : ∀ n ∈ pList p, n.length ≤ 20000000) :
    Calls Tryz.prog 60 #[.pointer (some ⟨s, 0, none⟩), .func (.func 61) #[.string ⟨#[112, 97, 99, 107, 46]⟩] #[]] w fun e w' => ∃ u, e = .returned u ∧ RowZ w' u ((pList p).filterMap idN) ∧ (∀ x, u.ownBlock = some x → w.heap.size ≤ x) ∧ Kp No w w' := by
  have HL := hid (Sim.list_any w s p h)
  have hlen : (pList p).length ≤ 1000 := by
    have h1 := h.inv.lseen
    have h2 := h.inv.big
    unfold pList
    split
    · simp
    · rw [List.length_map]; omega
  have HV := hid hV
  obtain ⟨L, hL⟩ : ∃ L, pList p = L := ⟨_, rfl⟩
  rw [hL] at HL hlen hnl ⊢
  have HNL := hid hnl
  clear hL h hV hnl
  go_enter Tryz.func60, Tryz.ntmps60
  go_wp2_with fail
  refine HL.out.mono ?_
  rintro e w1 ⟨u, rfl, hu, hub, hk⟩
  obtain ⟨ua, uc, rfl, hform⟩ := OwnN.form hu
  have HU := hid (And.intro hu (And.intro hub (And.intro hk hform)))
  have HK1 := hid hk
  have HV1 := hid (Vars.kept HV.out hk)
  clear hu hub hk hform HV
  go_wp2_with fail
  go_loopw [5, 13] (fun v i wr => ∃ (k : Nat) (a : Option Addr) (m c : Nat), k ≤ L.length ∧ i = .int .i64 (k : Int) ∧ v = .slice a m c ∧ m ≤ k ∧ Hid (m = ((L.take k).filterMap idN).length ∧ RowZ wr (.slice a m c) ((L.take k).filterMap idN) ∧ (∀ x, (Value.slice a m c).ownBlock = some x → w1.heap.size ≤ x) ∧ Kp No w1 wr)) (fun _ i _ => L.length - (intOf i).toNat)
  case atStart => exact ⟨0, none, 0, 0, Nat.zero_le _, rfl, rfl, Nat.le_refl _, by simp, Row.nil _ _ _, (by intro x hx; cases hx), Kp.refl _ _⟩
  case round =>
    obtain ⟨k, a, m, c, hk, rfl, rfl, hmk, HS⟩ := hrel
    by_cases hlt : k < L.length
    · have hltI : (k : Int) < (L.length : Int) := by omega
      obtain ⟨n, hn⟩ : ∃ n, L[k]? = some n := ⟨_, List.getElem?_eq_getElem hlt⟩
      obtain ⟨hu, hub, hk1, hform⟩ := HU.out
      obtain ⟨gu, rfl⟩ := hform (by intro e; rw [e] at hlt; simp at hlt)
      obtain ⟨hm, hrow, hblk, hkr⟩ := HS.out
      have cu : wr.cell? ⟨gu, k, none⟩ = some (.string ⟨n.toArray⟩) := OwnN.cell (Row.kept hu hkr) rfl k hn
      have hsz : (⟨n.toArray⟩ : ByteArray).size ≤ 20000000 := by
        have := HNL.out n (List.mem_of_getElem? hn)
        have e : (⟨n.toArray⟩ : ByteArray).size = n.length := by rw [Lib.size_eq]
        omega
      have HOWN := hid (pid_any ⟨#[112, 97, 99, 107, 46]⟩ (by decide) ⟨n.toArray⟩ hsz wr (Vars.kept HV1.out hkr))
      have HN := hid hn
      have HX := hid (And.intro hm (And.intro hrow (And.intro hblk hkr)))
      clear hu hub hk1 hform hm hrow hblk hkr hn HS hsz
      obtain ⟨I, hI⟩ : ∃ I, idOf ⟨#[112, 97, 99, 107, 46]⟩ ⟨n.toArray⟩ = I := ⟨_, rfl⟩
      rw [hI] at HOWN
      have HIN : Hid (idN n = if I.2 = true then some I.1 else none) := by rw [Hid, idN, packS, hI]
      clear hI
      obtain ⟨z, b⟩ := I
      cases b with
      | false =>
        go_wp2_with fail
        refine HOWN.out.mono ?_
        rintro e w2 ⟨rfl, hb2⟩
        have HF : Hid (m = ((L.take (k + 1)).filterMap idN).length ∧ RowZ w2 (.slice a m c) ((L.take (k + 1)).filterMap idN) ∧ (∀ x, (Value.slice a m c).ownBlock = some x → w1.heap.size ≤ x) ∧ Kp No w1 w2) := by
          have e : (L.take (k + 1)).filterMap idN = (L.take k).filterMap idN := by
            have hin := HIN.out
            rw [List.take_add_one, HN.out, List.filterMap_append]
            simp [hin]
          rw [Hid, e]
          obtain ⟨q1, q2, q3, q4⟩ := HX.out
          exact ⟨q1, Row.kept q2 (Kp.below hb2), q3, q4.andNone (Kp.below hb2)⟩
        clear hb2 HOWN
        go_wp2_with fail
        go_round
        case rel => exact ⟨k + 1, a, m, c, by omega, by go_num, rfl, by omega, HF⟩
        case measure => simp [intOf]; omega
      | true =>
        go_wp2_with fail
        refine HOWN.out.mono ?_
        rintro e w2 ⟨rfl, hb2⟩
        have HK2 : Hid (Kp No wr w2) := Kp.below hb2
        clear hb2 HOWN
        have hal : Kp No w2 (w2.alloc (.cells #[.int .i64 z] 3)) := (Kp.refl _ _).alloc _
        have HR5 : Hid (Row (w2.alloc (.cells #[.int .i64 z] 3)) 3 1 (.slice a m c) m (ic ((L.take k).filterMap idN))) := by
          have h : Row wr 3 1 (.slice a m c) ((L.take k).filterMap idN).length (ic ((L.take k).filterMap idN)) := HX.out.2.1
          rw [← HX.out.1] at h
          exact (h.kept HK2.out).kept hal
        have HSRC : Hid (Sim.Src (w2.alloc (.cells #[.int .i64 z] 3)) (.slice (some ⟨w2.heap.size, 0, none⟩) 1 1) 1 1 [.int .i64 z]) := Sim.Src.one w2 [.int .i64 z] 1 3 rfl (by intro u hu; rw [List.mem_singleton.1 hu]; rfl)
        have HN1 := hid (fun V => run_oneI z V)
        have HAL := hid hal
        clear hal
        go_wp2_with (first
          | (refine wpList_val (by rfl) (exec_slice1 23 _ (by rfl) (.int .i64 z) _ (by rfl) (HN1.out _)) ?_)
          | (refine Sim.app_row _ (by rfl) _ _ 23 3 (.int .i64 0) 1 8 (by rfl) Tryz.underlying23 infoI rfl (by omega) (.slice a m c) (.slice (some ⟨w2.heap.size, 0, none⟩) 1 1) m 1 (ic ((L.take k).filterMap idN)) [.int .i64 z] (by rfl) (by rfl) HR5.out HSRC.out (by omega) (by omega) ?_; intro ad2 cap2 w6 hrow6 hgr6 hown6))
        have HF : Hid (m + 1 = ((L.take (k + 1)).filterMap idN).length ∧ RowZ w6 (.slice ad2 (m + 1) cap2) ((L.take (k + 1)).filterMap idN) ∧ (∀ x, (Value.slice ad2 (m + 1) cap2).ownBlock = some x → w1.heap.size ≤ x) ∧ Kp No w1 w6) := by
          obtain ⟨hm, hrow, hblk, hkr⟩ := HX.out
          have e : (L.take (k + 1)).filterMap idN = (L.take k).filterMap idN ++ [z] := by
            have hin := HIN.out
            rw [List.take_add_one, HN.out, List.filterMap_append]
            simp [hin]
          have hs := hkr.size
          have hs2 := HK2.out.size
          rw [Hid, e, List.length_append, ← hm]
          refine ⟨rfl, ?_, fun x hx => ?_, ?_⟩
          · unfold RowZ
            rw [List.length_append, ← hm, ic, List.map_append]
            exact hrow6
          · rcases hown6 with h | h
            · exact hblk x (by rw [← h]; exact hx)
            · rw [h] at hx
              have := Option.some.inj hx
              simp at this
              omega
          · exact ((hkr.andNone HK2.out).andNone HAL.out).grown hgr6 (fun x hx => .inr (hblk x hx))
        clear hrow6 hgr6 hown6 HX
        go_wp2_with fail
        go_round
        case rel => exact ⟨k + 1, _, m + 1, _, by omega, by go_num, rfl, by omega, HF⟩
        case measure => simp [intOf]; omega
    · have hltI : ¬ (k : Int) < (L.length : Int) := by omega
      have hkn : k = L.length := by omega
      subst hkn
      go_wp2_with fail
      go_ret
      obtain ⟨hm, hrow, hblk, hkr⟩ := HS.out
      rw [List.take_length] at hrow
      exact ⟨_, rfl, hrow, fun x hx => Nat.le_trans HK1.out.size (hblk x hx), HK1.out.andNone hkr⟩

def leI (x y : Int) : Bool := decide (x ≤ y)
/-- The ids that are seen, rising. -/
def idsP (p : PS) : List Int := ((pList p).filterMap idN).mergeSort leI

theorem sort_row (w u : World) (v : Value) (zs : List Int) (h : RowZ w v zs) (ho : ∀ x, v.ownBlock = some x → u.heap.size ≤ x) (hl : zs.length ≤ 1000) :
    Calls Tryz.prog 62 #[v] w fun e w' => e = .returned (.tuple #[]) ∧ RowZ w' v (zs.mergeSort leI) ∧ Kp (fun x => u.heap.size ≤ x) w w' := by
  obtain ⟨a, c, rfl, h1, h2, h3⟩ := h.form
  by_cases hz : zs = []
  · subst hz
    have hc := Any.slices_Sort_int_none Sim.Tryz.sortI a c w
    refine Calls.mono hc ?_
    rintro e w' ⟨rfl, rfl⟩
    exact ⟨rfl, by simpa using h, Kp.refl _ _⟩
  · obtain ⟨g, rfl, hg⟩ := h3 hz
    rcases h.2 with ⟨h0, _⟩ | ⟨g', cap', cur, hv, _, hb, hn, hcap, hsz, ht⟩
    · cases h0
    cases hv
    have ht' : cur.toList.take zs.length = zs.map (Value.int .i64) := by rw [Nat.mul_one] at ht; exact ht
    refine (Any.slices_Sort_int Sim.Tryz.sortI g 0 c zs w (holds_of_blockI hb ht') hg (by omega)).mono ?_
    rintro e w' ⟨rfl, n, os, rfl⟩
    have hlen : (zs.mergeSort fun x y => decide (x ≤ y)).length = zs.length := List.length_mergeSort zs
    refine ⟨rfl, ?_, ?_⟩
    · have hr := ownsRow_sortedI (n := n) (os := os) (base := 0) hlen (Nat.zero_le _) hb hn hcap hsz
      show Sim.Row _ 3 1 _ (zs.mergeSort leI).length (ic (zs.mergeSort leI))
      rw [show (zs.mergeSort leI).length = zs.length from hlen]
      exact hr
    · have hgr := grownBy_sortedI (w := w) (g := g) (n := n) (os := os) (zs.mergeSort fun x y => decide (x ≤ y)).toArray
      exact (Kp.ofGrown hgr).mono (fun x hx => .inl (by have := ho x (by rw [← hx]; rfl); exact this))

set_option maxHeartbeats 1000000 in
theorem pids_any {P : Nat → Prop} {N : Nat} (w : World) (s : Nat) (p : PS) (h : Sim.Sys P N w s p) (hV : Vars w) (hnl : ∀ n ∈ pList p, n.length ≤ 20000000) :
    Calls Tryz.prog 35 #[.pointer (some ⟨s, 0, none⟩)] w fun e w' => ∃ u, e = .returned u ∧ RowZ w' u (idsP p) ∧ (∀ x, u.ownBlock = some x → w.heap.size ≤ x) ∧ Kp No w w' := by
  have hmf : ∀ (fn : Fn) (first cap : Array Value) (w : World), (Instr.makeFunc fn first cap).run Tryz.prog w = .ok (.func fn first cap) w := fun _ _ _ _ => rfl
  have HP := hid (pickI_any w s p h hV hnl)
  have hlen : ((pList p).filterMap idN).length ≤ 1000 := by
    have h1 := h.inv.lseen
    have h2 := h.inv.big
    refine Nat.le_trans (List.length_filterMap_le _ _) ?_
    unfold pList
    split
    · simp
    · rw [List.length_map]; omega
  have HS := hid (fun V v (hv : RowZ V v ((pList p).filterMap idN)) (ho : ∀ x, v.ownBlock = some x → w.heap.size ≤ x) => sort_row V w v _ hv ho hlen)
  unfold idsP
  obtain ⟨Z, hZ⟩ : ∃ Z, (pList p).filterMap idN = Z := ⟨_, rfl⟩
  rw [hZ] at HP HS ⊢
  clear hZ h hV hnl hlen
  go_enter Tryz.func35, Tryz.ntmps35
  go_wp2_with fail
  refine HP.out.mono ?_
  rintro e w1 ⟨u, rfl, hu, hub, hk⟩
  obtain ⟨a, c, rfl, _⟩ := hu.form
  have HSS := hid (HS.out w1 _ hu hub)
  have HK := hid (And.intro hub hk)
  clear hu hub hk HS HP
  generalize hn : Z.length = n at *
  clear hn
  go_wp2_with fail
  refine HSS.out.mono ?_
  rintro e w2 ⟨rfl, hr, hk2⟩
  have HF : Hid (RowZ w2 (.slice a n c) (Z.mergeSort leI) ∧ (∀ x, (Value.slice a n c).ownBlock = some x → w.heap.size ≤ x) ∧ Kp No w w2) := ⟨hr, HK.out.1, HK.out.2.trans hk2 (fun x hx => .inr hx)⟩
  clear hr hk2
  go_wp2_with fail
  go_ret
  exact ⟨_, rfl, HF.out⟩

end Go.Proofs.YtaaioaocjfpajaaGreatDoor.Sh
end

section
/-
  The greatest of some numbers; the ids of a shelf.
-/
namespace Go.Proofs.YtaaioaocjfpajaaGreatDoor.Sh
open Go.RowKit Go.Shelf
open Sim (hid Kp No PS Done Blk nm pList OwnN Row Nm)

def maxZ : List Int → Int
  | [] => 0
  | z :: r => r.foldl max z
theorem maxZ_snoc (zs : List Int) (z : Int) (h : zs ≠ []) : maxZ (zs ++ [z]) = max (maxZ zs) z := by
  cases zs with
  | nil => exact absurd rfl h
  | cons y r => simp [maxZ, List.foldl_append]

set_option maxHeartbeats 1000000 in
theorem max_any (w : World) (v : Value) (zs : List Int) (h : RowZ w v zs) (hne : zs ≠ []) (hl : zs.length ≤ 100000) :
    Calls Tryz.prog 48 #[v] w fun e w' => e = .returned (.int .i64 (maxZ zs)) ∧ w' = w := by
  obtain ⟨a, c, rfl, h1, h2, h3⟩ := h.form
  obtain ⟨g, rfl, hg⟩ := h3 hne
  have HC : Hid (∀ i z, zs[i]? = some z → w.cell? ⟨g, i, none⟩ = some (.int .i64 z)) := fun i z hi => h.cell rfl i hi
  have hpos : 0 < zs.length := List.length_pos_iff.2 hne
  obtain ⟨z0, hz0⟩ : ∃ z, zs[0]? = some z := ⟨_, List.getElem?_eq_getElem hpos⟩
  have c0 := HC.out 0 z0 hz0
  obtain ⟨n, hn⟩ : ∃ n, zs.length = n := ⟨_, rfl⟩
  have HN := hid hn
  have H0 : Hid (maxZ (zs.take 1) = z0) := by
    rw [Hid, List.take_add_one, hz0]
    rfl
  obtain ⟨M, hM⟩ : ∃ M, maxZ zs = M := ⟨_, rfl⟩
  have HM := hid hM
  rw [hn] at h1 hpos hl ⊢
  rw [hM]
  have hlt1 : ¬ ((n : Int) < 1) := by omega
  clear h h3 hne hz0 hn hM
  go_enter Tryz.func48, Tryz.ntmps48
  go_wp2_with fail
  go_loopw [3, 4] (fun m i wr => ∃ (k : Nat) (z : Int), 1 ≤ k ∧ k ≤ n ∧ i = .int .i64 (k : Int) ∧ m = .int .i64 z ∧ wr = w ∧ Hid (maxZ (zs.take k) = z)) (fun _ i _ => n - (intOf i).toNat)
  case atStart => exact ⟨1, z0, Nat.le_refl _, by omega, rfl, rfl, rfl, H0⟩
  case round =>
    obtain ⟨k, z, hk1, hk2, rfl, rfl, hwr, HZ⟩ := hrel
    subst hwr
    by_cases hlt : k < n
    · have hltI : (k : Int) < (n : Int) := by omega
      obtain ⟨y, hy⟩ : ∃ y, zs[k]? = some y := ⟨_, List.getElem?_eq_getElem (by rw [HN.out]; exact hlt)⟩
      have cy := HC.out k y hy
      have HF : Hid (maxZ (zs.take (k + 1)) = max z y) := by
        rw [Hid, List.take_add_one, hy, ← HZ.out]
        exact maxZ_snoc _ _ (fun e => by
          have := congrArg List.length e
          rw [List.length_take, HN.out] at this
          simp at this
          omega)
      clear hy
      go_wp2_with fail
      exact ⟨⟨k + 1, max z y, by omega, by omega, by go_num, rfl, trivial, HF⟩, by simp [intOf]; omega⟩
    · have hltI : ¬ (k : Int) < (n : Int) := by omega
      have hkn : k = n := by omega
      subst hkn
      go_wp2_with fail
      go_ret
      have hz := HZ.out
      rw [← HN.out, List.take_length, HM.out] at hz
      exact ⟨by rw [hz]; rfl, rfl⟩

theorem ids_any {P : Nat → Prop} {N : Nat} (w : World) (h s b : Nat) (n : Int) (p : PS) (hH : ShAt w h s b n) (hS : Sim.Sys P N w s p) (hV : Vars w) (hnl : ∀ n ∈ pList p, n.length ≤ 20000000) :
    Calls Tryz.prog 15 #[.pointer (some ⟨h, 0, none⟩)] w fun e w' => ∃ u, e = .returned u ∧ RowZ w' u (idsP p) ∧ (∀ x, u.ownBlock = some x → w.heap.size ≤ x) ∧ Kp No w w' := by
  have c0 : w.cell? ⟨h, 0, none⟩ = some (.pointer (some ⟨s, 0, none⟩)) := hH.cell 0
  have HN := hid (none_any w h s b n hH)
  have HI := hid (pids_any w s p hS hV hnl)
  clear hH hS hV hnl
  generalize idsP p = Z at *
  go_enter Tryz.func15, Tryz.ntmps15
  go_wp2_with fail
  refine HN.out.mono ?_
  rintro e w1 ⟨rfl, rfl⟩
  go_wp2_with fail
  refine HI.out.mono ?_
  rintro e w2 ⟨u, rfl, hu, ho, hk⟩
  obtain ⟨a, c, rfl, _⟩ := hu.form
  have HF := hid (And.intro hu (And.intro ho hk))
  clear hu ho hk
  go_wp2_with fail
  go_ret
  exact ⟨_, rfl, HF.out⟩

/-- A number is laid behind a row of one's own. -/
theorem app_oneI (W V : World) (t : TypeId) (v : Value) (zs : List Int) (z : Int) (g : Nat) (h : RowZ W v zs) (hV : Kp No W V) (hc : V.cell? ⟨g, 0, none⟩ = some (.int .i64 z)) (hl : zs.length ≤ 100000) :
    ∃ ad cap w', (Builtin.append_ #[23, 23] t #[v, .slice (some ⟨g, 0, none⟩) 1 1]).run Tryz.prog V = .ok (.slice ad (zs.length + 1) cap) w' ∧ RowZ w' (.slice ad (zs.length + 1) cap) (zs ++ [z]) ∧ V.grownBy w' v.ownBlock := by
  obtain ⟨i, hi, hiz⟩ : ∃ i, Tryz.prog.info? 3 = some i ∧ (i.zero, i.size, i.bytes) = (some (.int .i64 0), 1, 8) := Option.map_eq_some_iff.1 infoI
  simp only [Prod.mk.injEq] at hiz
  obtain ⟨z1, z2, z3⟩ := hiz
  have hr : V.ownsRow 0 3 1 v zs.length (ic zs) := Row.kept h hV
  obtain ⟨gg, cap, W2, hap, hown2, hgrow, _, _⟩ := run_append_lies (P := Tryz.prog) V 23 t 0 3 i (.int .i64 0) 1 8 Tryz.underlying23 hi z1 z2 z3 rfl (by omega)
    v zs.length _ hr ⟨g, 0, none⟩ 1 1 [.int .i64 z] rfl (fun j u hj => by
      match j, hj with
      | 0, hj =>
        simp at hj
        subst hj
        exact hc) (by intro u hu; rw [List.mem_singleton.1 hu]; rfl) (by omega) (by unfold maxLen; omega) (by omega) (Nat.zero_le _) _ rfl
  refine ⟨_, cap, W2, hap, ?_, hgrow⟩
  show Sim.Row _ _ _ _ (zs ++ [z]).length (ic (zs ++ [z]))
  rw [List.length_append, ic, List.map_append]
  exact hown2

end Go.Proofs.YtaaioaocjfpajaaGreatDoor.Sh
end

section
/-
  Plain mathematics of a stable sort: rows of things with keys; inserting, rotating and merging in place keep, of each key, the order.
-/
namespace Go.Proofs.YtaaioaocjfpajaaGreatDoor.Stb

/-- Keys: bytes. -/
abbrev κ : Type := List Int
section
variable {α : Type} (key : α → κ) (lt : κ → κ → Bool)

/-- A strict order of all keys. -/
structure Ord : Prop where
  irr : ∀ x, lt x x = false
  trans : ∀ x y z, lt x y = true → lt y z = true → lt x z = true
  tot : ∀ x y, x ≠ y → lt x y = true ∨ lt y x = true

/-- Of each key the same, in the same order. -/
def Stab (l m : List α) : Prop := ∀ k, m.filter (fun x => decide (key x = k)) = l.filter (fun x => decide (key x = k))
/-- None stands behind a greater one. -/
def Srt (l : List α) : Prop := l.Pairwise (fun x y => lt (key y) (key x) = false)
/-- All of the first stand ahead of all of the second. -/
def Lts (l m : List α) : Prop := ∀ x ∈ l, ∀ y ∈ m, lt (key x) (key y) = true
/-- None of the second stands ahead of one of the first. -/
def Les (l m : List α) : Prop := ∀ x ∈ l, ∀ y ∈ m, lt (key y) (key x) = false
end

section
variable {α : Type} {key : α → κ} {lt : κ → κ → Bool}

theorem Ord.asym (h : Ord lt) {x y : κ} (hx : lt x y = true) : lt y x = false := by
  cases hy : lt y x with
  | false => rfl
  | true => have := h.trans _ _ _ hx hy; rw [h.irr] at this; cases this
/-- x ≤ y < z. -/
theorem Ord.le_lt (h : Ord lt) {x y z : κ} (h1 : lt y x = false) (h2 : lt y z = true) : lt x z = true := by
  by_cases e : x = y
  · rw [e]; exact h2
  · rcases h.tot x y e with h3 | h3
    · exact h.trans _ _ _ h3 h2
    · rw [h1] at h3; cases h3
theorem Ord.lt_le (h : Ord lt) {x y z : κ} (h1 : lt x y = true) (h2 : lt z y = false) : lt x z = true := by
  by_cases e : y = z
  · rw [← e]; exact h1
  · rcases h.tot y z e with h3 | h3
    · exact h.trans _ _ _ h1 h3
    · rw [h2] at h3; cases h3
theorem Ord.le_le (h : Ord lt) {x y z : κ} (h1 : lt y x = false) (h2 : lt z y = false) : lt z x = false := by
  cases hz : lt z x with
  | false => rfl
  | true => have := h.lt_le hz h1; rw [h2] at this; cases this

theorem Stab.refl (l : List α) : Stab key l l := fun _ => rfl
theorem Stab.trans {a b c : List α} (h : Stab key a b) (h2 : Stab key b c) : Stab key a c := fun k => (h2 k).trans (h k)
theorem Stab.append {a b c d : List α} (h : Stab key a b) (h2 : Stab key c d) : Stab key (a ++ c) (b ++ d) := fun k => by rw [List.filter_append, List.filter_append, h k, h2 k]
theorem Stab.mem {a b : List α} (h : Stab key a b) (x : α) : x ∈ b ↔ x ∈ a := by
  have h1 := h (key x)
  have e : ∀ l : List α, x ∈ l ↔ x ∈ l.filter (fun y => decide (key y = key x)) := fun l => by rw [List.mem_filter]; simp
  rw [e b, e a, h1]
theorem Stab.length {a b : List α} (h : Stab key a b) : b.length = a.length := by
  induction a generalizing b with
  | nil =>
    cases b with
    | nil => rfl
    | cons x b =>
      have := (h.mem x).1 List.mem_cons_self
      simp at this
  | cons x a ih =>
    have hx : x ∈ b := (h.mem x).2 List.mem_cons_self
    obtain ⟨s, t, e, hns⟩ : ∃ s t, b = s ++ x :: t ∧ ∀ y ∈ s, key y ≠ key x := by
      have hk := h (key x)
      rw [List.filter_cons, if_pos (by simp)] at hk
      have : ∀ (b : List α) (r : List α), b.filter (fun y => decide (key y = key x)) = x :: r → ∃ s t, b = s ++ x :: t ∧ ∀ y ∈ s, key y ≠ key x := by
        intro b
        induction b with
        | nil => intro r hr; simp at hr
        | cons y b ihb =>
          intro r hr
          rw [List.filter_cons] at hr
          by_cases hy : key y = key x
          · rw [if_pos (by simp [hy])] at hr
            simp only [List.cons.injEq] at hr
            exact ⟨[], b, by rw [hr.1]; rfl, fun _ h => by cases h⟩
          · rw [if_neg (by simp [hy])] at hr
            obtain ⟨s, t, e1, e2⟩ := ihb r hr
            refine ⟨y :: s, t, by rw [e1]; rfl, fun z hz => ?_⟩
            rcases List.mem_cons.1 hz with rfl | hz
            · exact hy
            · exact e2 z hz
      exact this b _ hk
    subst e
    have h2 : Stab key a (s ++ t) := fun k => by
      have hk := h k
      rw [List.filter_append, List.filter_cons, List.filter_cons] at hk
      rw [List.filter_append]
      by_cases hxk : key x = k
      · have hs : s.filter (fun y => decide (key y = k)) = [] := List.filter_eq_nil_iff.2 (fun y hy => by simp; rw [← hxk]; exact hns y hy)
        rw [if_pos (by simp [hxk]), if_pos (by simp [hxk]), hs, List.nil_append] at hk
        rw [hs, List.nil_append]
        exact (List.cons.inj hk).2
      · rw [if_neg (by simp [hxk]), if_neg (by simp [hxk])] at hk
        exact hk
    have := ih h2
    simp only [List.length_append, List.length_cons] at this ⊢
    omega
/-- Two that stand side by side, each thing of the second ahead of each of the first, are turned about. -/
theorem Stab.swap {a b : List α} (h : Ord lt) (hl : Lts key lt b a) : Stab key (a ++ b) (b ++ a) := fun k => by
  rw [List.filter_append, List.filter_append]
  by_cases ha : a.filter (fun y => decide (key y = k)) = []
  · rw [ha]; simp
  · have hb : b.filter (fun y => decide (key y = k)) = [] := by
      rw [List.filter_eq_nil_iff]
      intro y hy
      obtain ⟨x, hx1⟩ := List.exists_mem_of_ne_nil _ ha
      obtain ⟨hx, hxk⟩ := List.mem_filter.1 hx1
      simp only [decide_eq_true_eq] at hxk
      intro hyk
      have h1 := hl y hy x hx
      simp only [decide_eq_true_eq] at hyk
      rw [hyk, hxk, h.irr] at h1
      cases h1
    rw [hb]; simp

theorem Srt.append {a b : List α} : Srt key lt (a ++ b) ↔ Srt key lt a ∧ Srt key lt b ∧ Les key lt a b := by
  unfold Srt Les
  rw [List.pairwise_append]
/-! ### A merge in place -/
/-- What a merge of two sorted rows makes. -/
def Mrg (key : α → κ) (lt : κ → κ → Bool) (a b m : List α) : Prop := Stab key (a ++ b) m ∧ Srt key lt m
theorem Mrg.one_last (h : Ord lt) {x : α} {a1 a2 : List α} (hl : ∀ y ∈ a1, lt (key x) (key y) = false) (hg : ∀ y ∈ a2, lt (key x) (key y) = true) (sa : Srt key lt (a1 ++ a2)) : Mrg key lt (a1 ++ a2) [x] (a1 ++ x :: a2) := by
  obtain ⟨s1, s2, s3⟩ := Srt.append.1 sa
  refine ⟨?_, Srt.append.2 ⟨s1, List.pairwise_cons.2 ⟨fun y hy => h.asym (hg y hy), s2⟩, ?_⟩⟩
  · have := (Stab.refl (key := key) a1).append (Stab.swap (key := key) (a := a2) (b := [x]) h (fun y hy z hz => by rw [List.mem_singleton.1 hy]; exact hg z hz))
    simpa [List.append_assoc] using this
  · intro y hy z hz
    rcases List.mem_cons.1 hz with rfl | hz
    · exact hl y hy
    · exact s3 y hy z hz
end
end Go.Proofs.YtaaioaocjfpajaaGreatDoor.Stb
end

section
/-
  Entries in memory: 35 cells each, one behind the other in a block.
-/
namespace Go.Proofs.YtaaioaocjfpajaaGreatDoor.Sg
open Go.RowKit
open Sim (hid Kp No)

/-- An entry: the name's bytes, and the place. -/
abbrev Ent : Type := List Int × Int × Int × Int
def b8 (xs : List Int) : List Value := xs.map (Value.int .u8)
theorem b8_length (xs : List Int) : (b8 xs).length = xs.length := by simp [b8]
theorem b8_one (xs : List Int) : ∀ v ∈ b8 xs, v.oneCell' = true := by intro v hv; obtain ⟨x, _, rfl⟩ := List.mem_map.1 hv; rfl
def entC (e : Ent) : List Value := b8 e.1 ++ [.int .i64 e.2.1, .int .i64 e.2.2.1, .int .i64 e.2.2.2]
def EOk (e : Ent) : Prop := e.1.length = 32 ∧ ∀ x ∈ e.1, 0 ≤ x ∧ x ≤ 255
theorem entC_length {e : Ent} (h : EOk e) : (entC e).length = 35 := by simp [entC, b8_length, h.1]
theorem entC_one (e : Ent) : ∀ v ∈ entC e, v.oneCell' = true := by
  intro v hv
  rcases List.mem_append.1 hv with hv | hv
  · exact b8_one _ _ hv
  · simp at hv
    rcases hv with rfl | rfl | rfl <;> rfl

/-- Block g holds the entries d from o on, to be read. -/
def ERow (w : World) (g o : Nat) (d : List Ent) : Prop := g < w.heap.size ∧ ∀ i e, d[i]? = some e → EOk e ∧ w.rangeAt g (o + i * 35) (entC e)
/-- .. and to be written. -/
def EOwn (w : World) (g o : Nat) (d : List Ent) : Prop := ERow w g o d ∧ ∀ i, i < d.length → w.there g (o + i * 35) 35

theorem ERow.ok {w : World} {g o : Nat} {d : List Ent} (h : ERow w g o d) : ∀ e ∈ d, EOk e := fun e he => by
  obtain ⟨i, hi⟩ := List.mem_iff_getElem?.1 he
  exact (h.2 i e hi).1
theorem ERow.kp {L : Nat → Prop} {w w' : World} {g o : Nat} {d : List Ent} (h : ERow w g o d) (k : Kp L w w') (hg : ¬ L g) : ERow w' g o d :=
  ⟨Nat.lt_of_lt_of_le h.1 k.size, fun i e hi => ⟨(h.2 i e hi).1, fun j v hv => (k.cell (p := ⟨g, _, none⟩) h.1 hg).trans ((h.2 i e hi).2 j v hv)⟩⟩
theorem EOwn.kp {L : Nat → Prop} {w w' : World} {g o : Nat} {d : List Ent} (h : EOwn w g o d) (k : Kp L w w') (hg : ¬ L g) : EOwn w' g o d :=
  ⟨h.1.kp k hg, fun i hi j hj => by
    rw [k.cell (p := ⟨g, _, none⟩) h.1.1 hg, k.frozen (p := ⟨g, _, none⟩) h.1.1 hg]
    exact h.2 i hi j hj⟩
theorem EOwn.kept {w w' : World} {g o : Nat} {d : List Ent} (h : EOwn w g o d) (k : Kp No w w') : EOwn w' g o d := h.kp k (fun x => x)
theorem EOwn.there {w : World} {g o : Nat} {d : List Ent} (h : EOwn w g o d) {i : Nat} (hi : i < d.length) {e : Ent} (he : EOk e) : w.there g (o + i * 35) (entC e).toArray.size := by
  rw [List.size_toArray, entC_length he]
  exact h.2 i hi

theorem setCells_kp (w : World) (g o : Nat) (cs : List Value) : Kp (· = g) w (w.setCells g o cs) := by
  induction cs generalizing w o with
  | nil => exact Kp.refl _ _
  | cons c cs ih =>
    rw [World.setCells]
    exact (Kp.setCell (p := ⟨g, o, none⟩) (Kp.refl (· = g) w) (.inl rfl) c).trans (ih _ _) (fun x hx => .inl hx)
/-- One is written over. -/
theorem EOwn.set {w : World} {g o : Nat} {d : List Ent} (h : EOwn w g o d) {i : Nat} (hi : i < d.length) {e : Ent} (he : EOk e) : EOwn (w.setCells g (o + i * 35) (entC e)) g o (d.set i e) := by
  have hl := entC_length he
  refine ⟨⟨Nat.lt_of_lt_of_le h.1.1 (setCells_kp w g _ _).size, fun j x hx => ?_⟩, fun j hj => World.there_setCells (h.2 j (by simpa using hj)) _ _ _⟩
  by_cases hji : j = i
  · subst hji
    rw [List.getElem?_set_self hi] at hx
    simp only [Option.some.injEq] at hx
    subst hx
    exact ⟨he, World.rangeAt_setCells_same _ _ _ _ (by rw [hl]; exact h.2 j hi)⟩
  · rw [List.getElem?_set_ne (by omega)] at hx
    obtain ⟨h1, h2⟩ := h.1.2 j x hx
    refine ⟨h1, World.rangeAt_setCells_apart h2 _ _ _ (.inr ?_)⟩
    rw [entC_length h1, hl]
    omega
/-- In the midst of a call that writes block g alone: d is what stands there now. -/
def At (w : World) (g o : Nat) (d : List Ent) (wr : World) : Prop := Kp (· = g) w wr ∧ EOwn wr g o d
theorem At.start {w : World} {g o : Nat} {d : List Ent} (h : EOwn w g o d) : At w g o d w := ⟨Kp.refl _ _, h⟩
theorem At.kept {w wr w' : World} {g o : Nat} {d : List Ent} (h : At w g o d wr) (k : Kp No wr w') : At w g o d w' := ⟨h.1.andNone k, h.2.kept k⟩
theorem At.drew {w wr : World} {g o : Nat} {d : List Ent} (h : At w g o d wr) : At w g o d wr.drew := h.kept ((Kp.refl _ _).drew)
theorem At.next {w wr w' : World} {g o : Nat} {d d' : List Ent} (h : At w g o d wr) (k : At wr g o d' w') : At w g o d' w' := ⟨h.1.trans k.1 (fun _ hx => .inl hx), k.2⟩
theorem At.set {w wr : World} {g o : Nat} {d : List Ent} (h : At w g o d wr) {i : Nat} (hi : i < d.length) {e : Ent} (he : EOk e) : At w g o (d.set i e) (wr.setCells g (o + i * 35) (entC e)) :=
  ⟨h.1.trans (setCells_kp wr g _ _) (fun _ hx => .inl hx), h.2.set hi he⟩
theorem At.range {w wr : World} {g o : Nat} {d : List Ent} (h : At w g o d wr) {i : Nat} {e : Ent} (hi : d[i]? = some e) : EOk e ∧ wr.rangeAt g (o + i * 35) (entC e) := h.2.1.2 i e hi
end Go.Proofs.YtaaioaocjfpajaaGreatDoor.Sg
end

section
/-
  Ranges of entries that are swapped, and turned about.
-/
namespace Go.Proofs.YtaaioaocjfpajaaGreatDoor.Sg
open Go.RowKit
open Sim (hid Kp No)

def zEnt : Ent := ([], 0, 0, 0)
def swap2 (d : List Ent) (i j : Nat) : List Ent := (d.set i (d.getD j zEnt)).set j (d.getD i zEnt)
def swapN (d : List Ent) (a b : Nat) : Nat → List Ent
  | 0 => d
  | n + 1 => swap2 (swapN d a b n) (a + n) (b + n)
end Go.Proofs.YtaaioaocjfpajaaGreatDoor.Sg
end

section
/-
  Two ranges that stand side by side are turned about.
-/
namespace Go.Proofs.YtaaioaocjfpajaaGreatDoor.Sg
open Go.RowKit
open Sim (hid Kp No)

theorem swap2_blocks (A B C : List Ent) (x y : Ent) : swap2 (A ++ x :: (B ++ y :: C)) A.length (A.length + 1 + B.length) = A ++ y :: (B ++ x :: C) := by
  have e1 : (A ++ x :: (B ++ y :: C)).getD A.length zEnt = x := by simp [List.getD_eq_getElem?_getD]
  have e2 : (A ++ x :: (B ++ y :: C)).getD (A.length + 1 + B.length) zEnt = y := by
    rw [List.getD_eq_getElem?_getD, List.getElem?_append_right (by omega), show A.length + 1 + B.length - A.length = B.length + 1 by omega]
    simp
  have e3 : (A ++ x :: (B ++ y :: C)).set A.length y = A ++ y :: (B ++ y :: C) := by simp [List.set_append_right]
  rw [swap2, e1, e2, e3, List.set_append_right _ _ (by omega), show A.length + 1 + B.length - A.length = B.length + 1 by omega, List.set_cons_succ, List.set_append_right _ _ (by omega), Nat.sub_self, List.set_cons_zero]
theorem swapN_blocks : ∀ (n : Nat) (L X M Y R : List Ent), X.length = n → Y.length = n → swapN (L ++ (X ++ (M ++ (Y ++ R)))) L.length (L.length + n + M.length) n = L ++ (Y ++ (M ++ (X ++ R)))
  | 0, L, X, M, Y, R, hx, hy => by
    rw [List.length_eq_zero_iff.1 hx, List.length_eq_zero_iff.1 hy]
    rfl
  | n + 1, L, X, M, Y, R, hx, hy => by
    have nx : X ≠ [] := by intro e; rw [e] at hx; simp at hx
    have ny : Y ≠ [] := by intro e; rw [e] at hy; simp at hy
    obtain ⟨X', x, rfl⟩ : ∃ X' x, X = X' ++ [x] := ⟨X.dropLast, X.getLast nx, (List.dropLast_concat_getLast nx).symm⟩
    obtain ⟨Y', y, rfl⟩ : ∃ Y' y, Y = Y' ++ [y] := ⟨Y.dropLast, Y.getLast ny, (List.dropLast_concat_getLast ny).symm⟩
    have hx' : X'.length = n := by simpa using hx
    have hy' : Y'.length = n := by simpa using hy
    have ih := swapN_blocks n L X' (x :: M) Y' (y :: R) hx' hy'
    have e1 : L ++ (X' ++ [x] ++ (M ++ (Y' ++ [y] ++ R))) = L ++ (X' ++ ((x :: M) ++ (Y' ++ y :: R))) := by simp
    have e2 : L.length + (n + 1) + M.length = L.length + n + (x :: M).length := by simp; omega
    rw [swapN, e1, e2, ih]
    have h2 := swap2_blocks (L ++ Y') (M ++ X') R x y
    have e3 : L ++ (Y' ++ ((x :: M) ++ (X' ++ y :: R))) = (L ++ Y') ++ x :: ((M ++ X') ++ y :: R) := by simp
    have e4 : L.length + n = (L ++ Y').length := by simp [hy']
    have e5 : L.length + n + (x :: M).length + n = (L ++ Y').length + 1 + (M ++ X').length := by simp [hx', hy']; omega
    rw [e5, e4, e3, h2]
    simp

/-- How far a turning has come: X and Y are left, and F is what comes out. -/
def RotSt (m i j : Nat) (F D : List Ent) : Prop := ∃ L X Y R : List Ent, X.length = i ∧ Y.length = j ∧ L.length + i = m ∧ D = L ++ (X ++ (Y ++ R)) ∧ F = L ++ (Y ++ (X ++ R))
theorem RotSt.lt {m i j : Nat} {F D : List Ent} (h : RotSt m i j F D) (hj : i < j) : RotSt m i (j - i) F (swapN D (m - i) (m + j - i) i) := by
  obtain ⟨L, X, Y, R, hx, hy, hm, rfl, rfl⟩ := h
  have e := swapN_blocks i L X (Y.take (j - i)) (Y.drop (j - i)) R hx (by rw [List.length_drop]; omega)
  have e1 : L ++ (X ++ (Y ++ R)) = L ++ (X ++ (Y.take (j - i) ++ (Y.drop (j - i) ++ R))) := by rw [← List.append_assoc (Y.take _), List.take_append_drop]
  have e2 : L.length + i + (Y.take (j - i)).length = m + j - i := by rw [List.length_take]; omega
  rw [e2] at e
  refine ⟨L, Y.drop (j - i), Y.take (j - i), X ++ R, by rw [List.length_drop]; omega, by rw [List.length_take]; omega, hm, ?_, ?_⟩
  · rw [e1, show m - i = L.length by omega, e]
  · have : Y.take (j - i) ++ (Y.drop (j - i) ++ (X ++ R)) = Y ++ (X ++ R) := by rw [← List.append_assoc, List.take_append_drop]
    rw [this]
theorem RotSt.len {m i j : Nat} {F D : List Ent} (h : RotSt m i j F D) : i ≤ m ∧ m + j ≤ D.length ∧ D.length = F.length := by
  obtain ⟨L, X, Y, R, hx, hy, hm, rfl, rfl⟩ := h
  simp only [List.length_append]
  omega

end Go.Proofs.YtaaioaocjfpajaaGreatDoor.Sg
end

section
/-
  How the names of two entries stand: compare, walked.
-/
namespace Go.Proofs.YtaaioaocjfpajaaGreatDoor.Sg
open Go.RowKit
open Sim (hid Kp No)

/-- Bytes in their order. -/
def lexB : List Int → List Int → Bool
  | [], [] => false
  | [], _ :: _ => true
  | _ :: _, [] => false
  | x :: xs, y :: ys => if x < y then true else if y < x then false else lexB xs ys
theorem lexB_irr : ∀ x, lexB x x = false
  | [] => rfl
  | x :: xs => by simp [lexB, lexB_irr xs]
theorem lexB_tot : ∀ x y, x ≠ y → lexB x y = true ∨ lexB y x = true
  | [], [], h => absurd rfl h
  | [], _ :: _, _ => .inl rfl
  | _ :: _, [], _ => .inr rfl
  | x :: xs, y :: ys, h => by
    by_cases h1 : x < y
    · exact .inl (by simp [lexB, h1])
    · by_cases h2 : y < x
      · exact .inr (by simp [lexB, h2])
      · have e : x = y := by omega
        subst e
        rcases lexB_tot xs ys (fun e => h (by rw [e])) with h3 | h3
        · exact .inl (by simp [lexB, h3])
        · exact .inr (by simp [lexB, h3])
theorem lexB_trans : ∀ x y z, lexB x y = true → lexB y z = true → lexB x z = true
  | [], [], _, h, _ => by simp [lexB] at h
  | [], _ :: _, [], _, h => by simp [lexB] at h
  | [], _ :: _, _ :: _, _, _ => rfl
  | _ :: _, [], _, h, _ => by simp [lexB] at h
  | _ :: _, _ :: _, [], _, h => by simp [lexB] at h
  | x :: xs, y :: ys, z :: zs, h1, h2 => by
    simp only [lexB] at h1 h2 ⊢
    by_cases a1 : x < y
    · by_cases a2 : y < z
      · rw [if_pos (by omega)]
      · rw [if_neg a2] at h2
        by_cases a3 : z < y
        · rw [if_pos a3] at h2; cases h2
        · rw [if_pos (by omega)]
    · rw [if_neg a1] at h1
      by_cases a2 : y < x
      · rw [if_pos a2] at h1; cases h1
      · rw [if_neg a2] at h1
        have e : x = y := by omega
        subst e
        by_cases a3 : x < z
        · rw [if_pos a3]
        · rw [if_neg a3] at h2 ⊢
          by_cases a4 : z < x
          · rw [if_pos a4] at h2; cases h2
          · rw [if_neg a4] at h2 ⊢
            exact lexB_trans xs ys zs h1 h2
theorem lexOrd : Stb.Ord lexB := ⟨lexB_irr, lexB_trans, lexB_tot⟩

end Go.Proofs.YtaaioaocjfpajaaGreatDoor.Sg
end

section
/-
  A range of entries is sorted by inserting.
-/
namespace Go.Proofs.YtaaioaocjfpajaaGreatDoor.Sg
open Go.RowKit
open Stb (Stab Srt Mrg)
open Sim (hid Kp No)

abbrev ky (e : Ent) : List Int := e.1
theorem swap2_comm (d : List Ent) {i j : Nat} (h : i ≠ j) : swap2 d i j = swap2 d j i := by rw [swap2, swap2, List.set_comm _ _ h]
theorem swap2_back (A C : List Ent) (x y : Ent) : swap2 (A ++ x :: y :: C) (A.length + 1) A.length = A ++ y :: x :: C := by
  rw [swap2_comm _ (by omega)]
  exact swap2_blocks A [] C x y

/-- In the midst of an inserting: y is on its way down. -/
structure InsSt (L R X : List Ent) (a i j b : Nat) (D : List Ent) (S1 S2 Y : List Ent) (y : Ent) : Prop where
  la : L.length = a
  lj : L.length + S1.length = j
  li : L.length + S1.length + S2.length = i
  lb : L.length + S1.length + S2.length + 1 + Y.length = b
  d : D = L ++ (S1 ++ (y :: (S2 ++ (Y ++ R))))
  srt : Srt ky lexB (S1 ++ S2)
  low : ∀ z ∈ S2, lexB y.1 z.1 = true
  st : Stab ky X (S1 ++ S2 ++ y :: Y)
/-- Between two: the first are sorted. -/
structure OutSt (L R X : List Ent) (a i b : Nat) (D : List Ent) (S Y : List Ent) : Prop where
  la : L.length = a
  li : L.length + S.length = i
  lb : L.length + S.length + Y.length = b
  d : D = L ++ (S ++ (Y ++ R))
  srt : Srt ky lexB S
  st : Stab ky X (S ++ Y)
section
variable {L R X D S1 S2 S Y : List Ent} {a i j b : Nat} {y : Ent}
theorem InsSt.done (h : InsSt L R X a i j b D S1 S2 Y y) (hs : ∀ z ∈ S1, lexB y.1 z.1 = false) : OutSt L R X a (i + 1) b D (S1 ++ y :: S2) Y := by
  have m := Mrg.one_last (key := ky) lexOrd hs h.low h.srt
  refine ⟨h.la, by have := h.li; simp; omega, by have := h.lb; simp; omega, by rw [h.d]; simp, m.2, ?_⟩
  refine h.st.trans ?_
  have := m.1.append (Stab.refl (key := ky) Y)
  simpa [List.append_assoc] using this
theorem InsSt.step {s : Ent} (h : InsSt L R X a i j b D (S1 ++ [s]) S2 Y y) (hl : lexB y.1 s.1 = true) : InsSt L R X a i (j - 1) b (swap2 D j (j - 1)) S1 (s :: S2) Y y := by
  have hj := h.lj
  have hi := h.li
  have hb := h.lb
  simp only [List.length_append, List.length_singleton] at hj hi hb
  refine ⟨h.la, by omega, by simp; omega, by simp; omega, ?_, by simpa using h.srt, fun z hz => ?_, by simpa using h.st⟩
  · rw [h.d]
    have e := swap2_back (L ++ S1) (S2 ++ (Y ++ R)) s y
    rw [show (L ++ S1).length = j - 1 by simp; omega, show j - 1 + 1 = j by omega] at e
    have e2 : L ++ ((S1 ++ [s]) ++ y :: (S2 ++ (Y ++ R))) = (L ++ S1) ++ s :: y :: (S2 ++ (Y ++ R)) := by simp
    rw [e2, e]
    simp
  · rcases List.mem_cons.1 hz with rfl | hz
    · exact hl
    · exact h.low z hz
theorem InsSt.get (h : InsSt L R X a i j b D S1 S2 Y y) : D[j]? = some y := by
  rw [h.d, ← h.lj, List.getElem?_append_right (by omega), List.getElem?_append_right (by omega)]
  simp
theorem InsSt.len (h : InsSt L R X a i j b D S1 S2 Y y) : D.length = b + R.length := by
  have hb := h.lb
  rw [h.d]
  simp
  omega
end
end Go.Proofs.YtaaioaocjfpajaaGreatDoor.Sg
end

section
/-
  One entry is merged into the sorted ones behind it.
-/
namespace Go.Proofs.YtaaioaocjfpajaaGreatDoor.Sg
open Go.RowKit
open Stb (Stab Srt Mrg)
open Sim (hid Kp No)

/-- What a search by halves has found so far. -/
structure Half (p : Ent → Bool) (B : List Ent) (i j : Nat) : Prop where
  le : i ≤ j
  len : j ≤ B.length
  lo : ∀ (t : Nat) (z : Ent), t < i → B[t]? = some z → p z = true
  hi : ∀ (t : Nat) (z : Ent), j ≤ t → B[t]? = some z → p z = false
theorem Half.yes {p : Ent → Bool} {B : List Ent} {i j h : Nat} {z : Ent} (H : Half p B i j) (hij : h < j) (_hih : i ≤ h) (hz : B[h]? = some z) (hp : p z = true) (mono : ∀ (t u : Nat) (x y : Ent), t ≤ u → B[t]? = some x → B[u]? = some y → p y = true → p x = true) : Half p B (h + 1) j :=
  ⟨by omega, H.len, fun t x ht hx => mono t h x z (by omega) hx hz hp, H.hi⟩
theorem Half.no {p : Ent → Bool} {B : List Ent} {i j h : Nat} {z : Ent} (H : Half p B i j) (hij : h < j) (hih : i ≤ h) (hz : B[h]? = some z) (hp : p z = false) (mono : ∀ (t u : Nat) (x y : Ent), t ≤ u → B[t]? = some x → B[u]? = some y → p y = true → p x = true) : Half p B i h :=
  ⟨hih, by have := H.len; omega, H.lo, fun t x ht hx => by
    cases hpx : p x with
    | false => rfl
    | true => rw [mono h t z x ht hz hx hpx] at hp; cases hp⟩
theorem Half.end {p : Ent → Bool} {B : List Ent} {i : Nat} (H : Half p B i i) : (∀ z ∈ B.take i, p z = true) ∧ ∀ z ∈ B.drop i, p z = false := by
  refine ⟨fun z hz => ?_, fun z hz => ?_⟩
  · obtain ⟨t, ht⟩ := List.mem_iff_getElem?.1 hz
    have hlt : t < i := by have := (List.getElem?_eq_some_iff.1 ht).1; rw [List.length_take] at this; omega
    rw [List.getElem?_take_of_lt hlt] at ht
    exact H.lo t z hlt ht
  · obtain ⟨t, ht⟩ := List.mem_iff_getElem?.1 hz
    rw [List.getElem?_drop] at ht
    exact H.hi _ z (by omega) ht
/-- x moves up through those that stand ahead of it. -/
def UpSt (L B1 B2 R : List Ent) (x : Ent) (k : Nat) (D : List Ent) : Prop := ∃ S T, B1 = S ++ T ∧ L.length + S.length = k ∧ D = L ++ (S ++ (x :: (T ++ (B2 ++ R))))
theorem UpSt.step {L B1 B2 R D : List Ent} {x : Ent} {k : Nat} (h : UpSt L B1 B2 R x k D) (hk : k < L.length + B1.length) : UpSt L B1 B2 R x (k + 1) (swap2 D k (k + 1)) ∧ (∃ y, D[k + 1]? = some y) ∧ D[k]? = some x := by
  obtain ⟨S, T, rfl, hl, rfl⟩ := h
  cases T with
  | nil => simp at hk; omega
  | cons y T =>
    have e1 : L ++ (S ++ (x :: ((y :: T) ++ (B2 ++ R)))) = (L ++ S) ++ x :: y :: (T ++ (B2 ++ R)) := by simp
    have hlen : (L ++ S).length = k := by simp [hl]
    refine ⟨⟨S ++ [y], T, by simp, by simp; omega, ?_⟩, ⟨y, ?_⟩, ?_⟩
    · have e := swap2_back (L ++ S) (T ++ (B2 ++ R)) x y
      rw [swap2_comm _ (by omega), hlen] at e
      rw [e1, e]
      simp
    · rw [e1, List.getElem?_append_right (by omega), hlen, show k + 1 - k = 1 by omega]
      rfl
    · rw [e1, List.getElem?_append_right (by omega), hlen, Nat.sub_self]
      rfl
theorem UpSt.len {L B1 B2 R D : List Ent} {x : Ent} {k : Nat} (h : UpSt L B1 B2 R x k D) : D.length = L.length + B1.length + 1 + B2.length + R.length := by
  obtain ⟨S, T, rfl, hl, rfl⟩ := h
  simp
  omega

end Go.Proofs.YtaaioaocjfpajaaGreatDoor.Sg
end

section
/-
  One entry is merged into the sorted ones ahead of it.
-/
namespace Go.Proofs.YtaaioaocjfpajaaGreatDoor.Sg
open Go.RowKit
open Stb (Stab Srt Mrg)
open Sim (hid Kp No)
/-- x moves down through those that stand behind it. -/
def DnSt (L A1 A2 R : List Ent) (x : Ent) (k : Nat) (D : List Ent) : Prop := ∃ S T, A2 = S ++ T ∧ L.length + A1.length + S.length = k ∧ D = L ++ (A1 ++ (S ++ (x :: (T ++ R))))
theorem DnSt.step {L A1 A2 R D : List Ent} {x : Ent} {k : Nat} (h : DnSt L A1 A2 R x k D) (hk : L.length + A1.length < k) : DnSt L A1 A2 R x (k - 1) (swap2 D k (k - 1)) ∧ (∃ y, D[k - 1]? = some y) ∧ D[k]? = some x := by
  obtain ⟨S, T, rfl, hl, rfl⟩ := h
  have hne : S ≠ [] := by intro e; rw [e] at hl; simp at hl; omega
  obtain ⟨S', y, rfl⟩ : ∃ S' y, S = S' ++ [y] := ⟨S.dropLast, S.getLast hne, (List.dropLast_concat_getLast hne).symm⟩
  have e1 : L ++ (A1 ++ ((S' ++ [y]) ++ (x :: (T ++ R)))) = (L ++ A1 ++ S') ++ y :: x :: (T ++ R) := by simp
  simp only [List.length_append, List.length_singleton] at hl
  have hlen : (L ++ A1 ++ S').length = k - 1 := by simp; omega
  refine ⟨⟨S', y :: T, by simp, by omega, ?_⟩, ⟨y, ?_⟩, ?_⟩
  · have e := swap2_back (L ++ A1 ++ S') (T ++ R) y x
    rw [hlen, show k - 1 + 1 = k by omega] at e
    rw [e1, e]
    simp
  · rw [e1, List.getElem?_append_right (by omega), hlen, Nat.sub_self]
    rfl
  · rw [e1, List.getElem?_append_right (by omega), hlen, show k - (k - 1) = 1 by omega]
    rfl

end Go.Proofs.YtaaioaocjfpajaaGreatDoor.Sg
end

section
/-
  Two sorted ranges that stand side by side are merged in place.
-/
namespace Go.Proofs.YtaaioaocjfpajaaGreatDoor.Sg
open Go.RowKit
open Stb (Stab Srt Mrg Lts Les)
open Sim (hid Kp No)

/-- A search by halves among numbers. -/
structure HalfN (P : Nat → Bool) (lo hi i j : Nat) : Prop where
  le1 : lo ≤ i
  le : i ≤ j
  le2 : j ≤ hi
  yes : ∀ t, lo ≤ t → t < i → P t = true
  no : ∀ t, j ≤ t → t < hi → P t = false
theorem HalfN.up {P : Nat → Bool} {lo hi i j c : Nat} (H : HalfN P lo hi i j) (h1 : i ≤ c) (h2 : c < j) (hp : P c = true) (mono : ∀ t u, lo ≤ t → t ≤ u → u < hi → P u = true → P t = true) : HalfN P lo hi (c + 1) j :=
  ⟨by have := H.le1; omega, by omega, H.le2, fun t a b => mono t c a (by omega) (by have := H.le2; omega) hp, H.no⟩
theorem srt_le {B : List Ent} (hs : Srt ky lexB B) {t u : Nat} {x y : Ent} (htu : t ≤ u) (hx : B[t]? = some x) (hy : B[u]? = some y) : lexB y.1 x.1 = false := by
  by_cases e : t = u
  · subst e; rw [hx] at hy; cases hy; exact lexB_irr _
  · obtain ⟨hu1, hu2⟩ := List.getElem?_eq_some_iff.1 hy
    obtain ⟨ht1, ht2⟩ := List.getElem?_eq_some_iff.1 hx
    have := List.pairwise_iff_getElem.1 hs t u ht1 hu1 (by omega)
    rw [ht2, hu2] at this
    exact this

/-- What is asked of c: that the one at c stands not behind its fellow. -/
def askP (A B : List Ent) (a m p : Nat) (c : Nat) : Bool := !lexB ((B.getD (p - c - m) zEnt).1) ((A.getD (c - a) zEnt).1)

section
variable {A B : List Ent} {a m b mid lo hi : Nat}
/-- The numbers of a merge. -/
structure Nums (A B : List Ent) (a m b mid lo hi : Nat) : Prop where
  am : a + A.length = m
  mb : m + B.length = b
  mid2 : mid = (a + b) / 2
  A2 : 1 < A.length
  B2 : 1 < B.length
  lohi : (mid < m ∧ lo = mid + m - b ∧ hi = mid) ∨ (m ≤ mid ∧ lo = a ∧ hi = m)
theorem Nums.rng (h : Nums A B a m b mid lo hi) : a ≤ lo ∧ lo ≤ hi ∧ hi ≤ m ∧ hi ≤ mid ∧ a < mid ∧ mid < b := by
  have := h.am; have := h.mb; have := h.mid2; have := h.A2; have := h.B2; have := h.lohi
  omega
theorem Nums.ix (h : Nums A B a m b mid lo hi) {c : Nat} (h1 : lo ≤ c) (h2 : c < hi) : c - a < A.length ∧ m ≤ mid + m - 1 - c ∧ mid + m - 1 - c - m < B.length ∧ a ≤ c ∧ c < m ∧ mid + m - 1 - c < b := by
  have := h.am; have := h.mb; have := h.mid2; have := h.A2; have := h.B2; have := h.lohi
  omega
theorem getD_of {l : List Ent} {i : Nat} (h : i < l.length) : l[i]? = some (l.getD i zEnt) := by rw [List.getD_eq_getElem?_getD, List.getElem?_eq_getElem h]; rfl
theorem Nums.mono (h : Nums A B a m b mid lo hi) (sa : Srt ky lexB A) (sb : Srt ky lexB B) : ∀ t u, lo ≤ t → t ≤ u → u < hi → askP A B a m (mid + m - 1) u = true → askP A B a m (mid + m - 1) t = true := fun t u h1 h2 h3 hp => by
  have i1 := h.ix h1 (Nat.lt_of_le_of_lt h2 h3)
  have i2 := h.ix (Nat.le_trans h1 h2) h3
  have k1 := srt_le sa (t := t - a) (u := u - a) (by omega) (getD_of i1.1) (getD_of i2.1)
  have k2 := srt_le sb (t := mid + m - 1 - u - m) (u := mid + m - 1 - t - m) (by omega) (getD_of i2.2.2.1) (getD_of i1.2.2.1)
  unfold askP at hp ⊢
  have hp' : lexB ((B.getD (mid + m - 1 - u - m) zEnt).1) ((A.getD (u - a) zEnt).1) = false := by simpa using hp
  have := lexOrd.le_le k1 (lexOrd.le_le hp' k2)
  simpa using this
/-- Where the search ends both are cut well. -/
theorem Nums.cut (h : Nums A B a m b mid lo hi) (sa : Srt ky lexB A) (sb : Srt ky lexB B) {s : Nat} (H : HalfN (askP A B a m (mid + m - 1)) lo hi s s) :
    Lts ky lexB (B.take (mid - s)) (A.drop (s - a)) ∧ Les ky lexB (A.take (s - a)) (B.drop (mid - s)) ∧ s - a ≤ A.length ∧ mid - s ≤ B.length ∧ a ≤ s ∧ s ≤ m ∧ s ≤ mid ∧ mid + m - s ≤ b := by
  have r := h.rng
  have am := h.am
  have mb := h.mb
  have hl := h.lohi
  have hm2 := h.mid2
  have hA2 := h.A2
  have hB2 := h.B2
  have l1 := H.le1
  have l2 := H.le2
  refine ⟨fun y hy x hx => ?_, fun x hx y hy => ?_, by omega, by omega, by omega, by omega, by omega, by omega⟩
  · obtain ⟨v, hv⟩ := List.mem_iff_getElem?.1 hy
    obtain ⟨u, hu⟩ := List.mem_iff_getElem?.1 hx
    have hvl : v < mid - s := by have := (List.getElem?_eq_some_iff.1 hv).1; rw [List.length_take] at this; omega
    rw [List.getElem?_take_of_lt hvl] at hv
    rw [List.getElem?_drop] at hu
    have hul := (List.getElem?_eq_some_iff.1 hu).1
    by_cases hs : s < hi
    · have hn := H.no s (Nat.le_refl _) hs
      have ix := h.ix l1 hs
      unfold askP at hn
      have hn' : lexB ((B.getD (mid + m - 1 - s - m) zEnt).1) ((A.getD (s - a) zEnt).1) = true := by simpa using hn
      have k1 := srt_le sb (t := v) (u := mid + m - 1 - s - m) (by omega) hv (getD_of ix.2.2.1)
      have k2 := srt_le sa (t := s - a) (u := s - a + u) (by omega) (getD_of ix.1) hu
      exact lexOrd.le_lt k1 (lexOrd.lt_le hn' k2)
    · omega
  · obtain ⟨u, hu⟩ := List.mem_iff_getElem?.1 hx
    obtain ⟨v, hv⟩ := List.mem_iff_getElem?.1 hy
    have hul : u < s - a := by have := (List.getElem?_eq_some_iff.1 hu).1; rw [List.length_take] at this; omega
    rw [List.getElem?_take_of_lt hul] at hu
    rw [List.getElem?_drop] at hv
    have hvl := (List.getElem?_eq_some_iff.1 hv).1
    by_cases hs : lo < s
    · have hn := H.yes (s - 1) (by omega) (by omega)
      have ix := h.ix (c := s - 1) (by omega) (by omega)
      unfold askP at hn
      have hn' : lexB ((B.getD (mid + m - 1 - (s - 1) - m) zEnt).1) ((A.getD (s - 1 - a) zEnt).1) = false := by simpa using hn
      have k1 := srt_le sa (t := u) (u := s - 1 - a) (by omega) hu (getD_of ix.1)
      have k2 := srt_le sb (t := mid + m - 1 - (s - 1) - m) (u := mid - s + v) (by omega) (getD_of ix.2.2.1) hv
      exact lexOrd.le_le k1 (lexOrd.le_le hn' k2)
    · omega
end

end Go.Proofs.YtaaioaocjfpajaaGreatDoor.Sg
end

section
/-
  A row of entries is sorted, each name's entries in their order: slices.SortStableFunc by compare.
-/
namespace Go.Proofs.YtaaioaocjfpajaaGreatDoor.Sg
open Go.RowKit
open Stb (Stab Srt Mrg)
open Sim (hid Kp No)

/-- Sorted block by block. -/
def Bl (bs : Nat) (D : List Ent) : Prop := ∀ i, Srt ky lexB ((D.drop (i * bs)).take bs)
theorem Bl.nil (bs : Nat) : Bl bs [] := fun i => by simp [Srt]
theorem Bl.one {bs : Nat} {M : List Ent} (h : Srt ky lexB M) (hl : M.length ≤ bs) : Bl bs M := fun i => by
  by_cases h0 : i = 0
  · subst h0
    rw [Nat.zero_mul, List.drop_zero, List.take_of_length_le hl]
    exact h
  · have : bs ≤ i * bs := Nat.le_mul_of_pos_left bs (by omega)
    rw [List.drop_eq_nil_of_le (by omega)]
    simp [Srt]
theorem Bl.all {bs : Nat} {M : List Ent} (h : Bl bs M) (hl : M.length ≤ bs) : Srt ky lexB M := by
  have := h 0
  rwa [Nat.zero_mul, List.drop_zero, List.take_of_length_le hl] at this
theorem Bl.append {bs k : Nat} {P Q : List Ent} (hP : Bl bs P) (hQ : Bl bs Q) (hl : P.length = k * bs) : Bl bs (P ++ Q) := fun i => by
  by_cases hi : i < k
  · have h1 : (i + 1) * bs ≤ k * bs := Nat.mul_le_mul_right bs hi
    rw [Nat.add_mul, Nat.one_mul] at h1
    rw [List.drop_append_of_le_length (by omega), List.take_append_of_le_length (by rw [List.length_drop]; omega)]
    exact hP i
  · have h1 : i * bs = P.length + (i - k) * bs := by
      rw [hl, ← Nat.add_mul]
      congr 1
      omega
    rw [h1, List.drop_length_add_append]
    exact hQ (i - k)
theorem Bl.drop {bs k : Nat} {P Q : List Ent} (h : Bl bs (P ++ Q)) (hl : P.length = k * bs) : Bl bs Q := fun i => by
  have := h (k + i)
  rwa [Nat.add_mul, ← hl, List.drop_length_add_append] at this
theorem Bl.head {bs : Nat} {A Q : List Ent} (h : Bl bs (A ++ Q)) (hl : A.length = bs) : Srt ky lexB A ∧ Bl bs Q := by
  refine ⟨?_, h.drop (k := 1) (by omega)⟩
  have := h 0
  rwa [Nat.zero_mul, List.drop_zero, List.take_left' hl] at this

end Go.Proofs.YtaaioaocjfpajaaGreatDoor.Sg
end

section
/-
  Of entries that follow one another with one name the first stays: slices.CompactFunc by namesake.
-/
namespace Go.Proofs.YtaaioaocjfpajaaGreatDoor.Sg
open Go.RowKit
open Stb (Stab Srt Mrg)
open Sim (hid Kp No)
/-- Those of which the one ahead has another name. -/
def kept : Ent → List Ent → List Ent
  | _, [] => []
  | p, y :: r => if y.1 = p.1 then kept y r else y :: kept y r
theorem EOwn.front {w : World} {g o : Nat} {d : List Ent} (h : EOwn w g o d) (k : Nat) : EOwn w g o (d.take k) := by
  refine ⟨⟨h.1.1, fun i e hi => ?_⟩, fun i hi => h.2 i (by rw [List.length_take] at hi; omega)⟩
  have hik : i < k := by have := (List.getElem?_eq_some_iff.1 hi).1; rw [List.length_take] at this; omega
  rw [List.getElem?_take_of_lt hik] at hi
  exact h.1.2 i e hi
def zE : List Value := entC (List.replicate 32 0, 0, 0, 0)

end Go.Proofs.YtaaioaocjfpajaaGreatDoor.Sg
end

section
/-
  Entries as values that are read, rows of the call's own, and segment.Sort: of each name the first, in the names' order.
-/
namespace Go.Proofs.YtaaioaocjfpajaaGreatDoor.Sg
open Go.RowKit
open Stb (Stab Srt Mrg)
open Sim (hid Kp No)

def ents (d : List Ent) : List Value := d.flatMap entC
theorem ents_cons (e : Ent) (d : List Ent) : ents (e :: d) = entC e ++ ents d := by simp [ents]
theorem ents_length : ∀ (d : List Ent), (∀ e ∈ d, EOk e) → (ents d).length = d.length * 35
  | [], _ => rfl
  | e :: d, h => by
    rw [ents_cons, List.length_append, entC_length (h e (by simp)), ents_length d (fun x hx => h x (by simp [hx])), List.length_cons]
    omega
theorem ents_at : ∀ (d : List Ent), (∀ e ∈ d, EOk e) → ∀ (i j : Nat) (e : Ent), d[i]? = some e → j < 35 → (ents d)[i * 35 + j]? = (entC e)[j]?
  | [], _, i, j, e, hi, _ => by simp at hi
  | x :: d, h, 0, j, e, hi, hj => by
    simp only [List.getElem?_cons_zero, Option.some.injEq] at hi
    subst hi
    rw [ents_cons, Nat.zero_mul, Nat.zero_add, List.getElem?_append_left (by rw [entC_length (h x (by simp))]; exact hj)]
  | x :: d, h, i + 1, j, e, hi, hj => by
    rw [List.getElem?_cons_succ] at hi
    rw [ents_cons, List.getElem?_append_right (by rw [entC_length (h x (by simp))]; omega), entC_length (h x (by simp)), show (i + 1) * 35 + j - 35 = i * 35 + j by omega]
    exact ents_at d (fun y hy => h y (by simp [hy])) i j e hi hj
theorem ents_one (d : List Ent) : ∀ u ∈ ents d, u.oneCell' = true := by
  intro u hu
  obtain ⟨e, _, hue⟩ := List.mem_flatMap.1 hu
  exact entC_one e u hue

/-- Entries that are read: in blocks of P alone. -/
def EV (P : Nat → Prop) (w : World) (v : Value) (d : List Ent) : Prop :=
  ∃ a cap, v = .slice a d.length cap ∧ d.length ≤ cap ∧ cap ≤ maxLen ∧ (a = none → d = [] ∧ cap = 0) ∧ (∀ e ∈ d, EOk e) ∧ (d ≠ [] → ∃ g o, a = some ⟨g, o, none⟩ ∧ P g ∧ ERow w g o d)
theorem EV.nil (P : Nat → Prop) (w : World) : EV P w (.slice none 0 0) [] := ⟨none, 0, rfl, Nat.le_refl _, Nat.zero_le _, fun _ => ⟨rfl, rfl⟩, by simp, by simp⟩
theorem EV.kp {P L : Nat → Prop} {w w' : World} {v : Value} {d : List Ent} (h : EV P w v d) (k : Kp L w w') (hP : ∀ g, P g → ¬ L g) : EV P w' v d := by
  obtain ⟨a, cap, h1, h2, h3, h4, h5, h6⟩ := h
  refine ⟨a, cap, h1, h2, h3, h4, h5, fun hd => ?_⟩
  obtain ⟨g, o, e, hp, hr⟩ := h6 hd
  exact ⟨g, o, e, hp, hr.kp k (hP g hp)⟩
theorem EV.kept {P : Nat → Prop} {w w' : World} {v : Value} {d : List Ent} (h : EV P w v d) (k : Kp No w w') : EV P w' v d := h.kp k (fun _ _ x => x)
theorem EV.mono {P P' : Nat → Prop} {w : World} {v : Value} {d : List Ent} (h : EV P w v d) (hP : ∀ g, P g → P' g) : EV P' w v d := by
  obtain ⟨a, cap, h1, h2, h3, h4, h5, h6⟩ := h
  refine ⟨a, cap, h1, h2, h3, h4, h5, fun hd => ?_⟩
  obtain ⟨g, o, e, hp, hr⟩ := h6 hd
  exact ⟨g, o, e, hP g hp, hr⟩
theorem EV.ok {P : Nat → Prop} {w : World} {v : Value} {d : List Ent} (h : EV P w v d) : ∀ e ∈ d, EOk e := by
  obtain ⟨a, cap, h1, h2, h3, h4, h5, h6⟩ := h
  exact h5
theorem EV.src {P : Nat → Prop} {w : World} {v : Value} {d : List Ent} (h : EV P w v d) : Sim.Src w v d.length 35 (ents d) := by
  obtain ⟨a, cap, rfl, h2, h3, h4, h5, h6⟩ := h
  cases a with
  | none =>
    obtain ⟨rfl, rfl⟩ := h4 rfl
    exact .inl ⟨rfl, rfl, rfl⟩
  | some ad =>
    refine .inr ⟨ad, cap, rfl, ents_length d h5, fun j u hj => ?_, ents_one d⟩
    have hjl := (List.getElem?_eq_some_iff.1 hj).1
    rw [ents_length d h5] at hjl
    have hd : d ≠ [] := by intro e; subst e; simp at hjl
    obtain ⟨g, o, e, _, hr⟩ := h6 hd
    simp only [Option.some.injEq] at e
    subst e
    have hi : j / 35 < d.length := by omega
    obtain ⟨x, hx⟩ : ∃ x, d[j / 35]? = some x := ⟨_, List.getElem?_eq_getElem hi⟩
    have hm : j % 35 < 35 := Nat.mod_lt _ (by omega)
    have hje : j / 35 * 35 + j % 35 = j := by omega
    have hat := ents_at d h5 (j / 35) (j % 35) x hx hm
    rw [hje, hj] at hat
    have := (hr.2 (j / 35) x hx).2 (j % 35) u hat.symm
    rw [Sim.addr_add]
    rw [Nat.add_assoc, hje] at this
    exact this

end Go.Proofs.YtaaioaocjfpajaaGreatDoor.Sg
end

section
/-
  Right of segment: not more than 900, places that can be, names strictly rising.
-/
namespace Go.Proofs.YtaaioaocjfpajaaGreatDoor.Sg
open Go.RowKit
open Stb (Stab Srt Mrg)
open Sim (hid Kp No)

def plC (x : Ent) : List Value := [.int .i64 x.2.1, .int .i64 x.2.2.1, .int .i64 x.2.2.2]
def plB (x : Ent) : Bool := decide (1 ≤ x.2.1) && (decide (x.2.1 ≤ 999999) && (decide (0 ≤ x.2.2.1) && (decide (x.2.2.1 ≤ 12000) && (decide (1 ≤ x.2.2.2) && decide (x.2.2.2 ≤ 12000)))))

theorem thereE (w : World) (A : Array Value) (t : TypeId) (n : Nat) (hn : n ≤ A.size) : (w.alloc (.cells A t)).there w.heap.size 0 n := fun j hj => by
  refine ⟨?_, World.frozen?_alloc_at _ _ _ _ rfl⟩
  rw [Nat.zero_add, World.cell?_alloc_at _ _ _ _ rfl]
  simp
  omega
theorem wpList_store_box {ops : Array Oper} {rest : List Oper} {op : Oper} {a : Act} {w : World} {Q : Exit → Act → World → Prop} (F : World → Prop) (hgd : op.guard = none) (ty : TypeId) (x y : Operand) (ho : op.op = .store ty x y)
    (b o : Nat) (cells : Array Value) (hx : a.eval x = .pointer (some ⟨b, o, none⟩)) (hy : a.eval y = .agg cells)
    (ht : w.there b o cells.size) (hi : (Tryz.prog.info? ty).map (·.size) = some cells.size) (h1 : cells.all (·.oneCell') = true)
    (hF : F (w.setCells b o cells.toList)) (h : ∀ W, F W → wpList Tryz.prog ops Q rest (a.put op.dst undef) W) : wpList Tryz.prog ops Q (op :: rest) a w :=
  wpList_store_mid hgd ty x y ho b o cells hx hy ht hi h1 (h _ hF)

/-- Those ahead of k have places that can be, and rise. -/
def UpTo (d : List Ent) (k : Nat) : Prop := ∀ i e, i < k → d[i]? = some e → plB e = true ∧ ∀ j x, j + 1 = i → d[j]? = some x → lexB x.1 e.1 = true
def RightP (d : List Ent) : Prop := d.length ≤ 900 ∧ UpTo d d.length
theorem UpTo.zero (d : List Ent) : UpTo d 0 := fun i e hi => by omega
theorem UpTo.next {d : List Ent} {k : Nat} {e : Ent} (h : UpTo d k) (he : d[k]? = some e) (hp : plB e = true) (hl : ∀ j x, j + 1 = k → d[j]? = some x → lexB x.1 e.1 = true) : UpTo d (k + 1) := fun i y hi hy => by
  by_cases hik : i < k
  · exact h i y hik hy
  · have : i = k := by omega
    subst this
    rw [he] at hy
    cases hy
    exact ⟨hp, hl⟩

end Go.Proofs.YtaaioaocjfpajaaGreatDoor.Sg
end

section
/-
  slices.BinarySearchFunc by compare: where a name stands in names that rise, or would stand.
-/
namespace Go.Proofs.YtaaioaocjfpajaaGreatDoor.Sg
open Go.RowKit
open Stb (Stab Srt Mrg)
open Sim (hid Kp No)
end Go.Proofs.YtaaioaocjfpajaaGreatDoor.Sg
end

section
/-
  segment.Find: where the object of a name stands.
-/
namespace Go.Proofs.YtaaioaocjfpajaaGreatDoor.Sg
open Go.RowKit
open Stb (Stab Srt Mrg)
open Sim (hid Kp No)

theorem UpTo.lt {d : List Ent} (h : UpTo d d.length) : ∀ (m t u : Nat) (p q : Ent), u = t + 1 + m → d[t]? = some p → d[u]? = some q → lexB p.1 q.1 = true
  | 0, t, u, p, q, hu, hp, hq => (h u q (List.getElem?_eq_some_iff.1 hq).1 hq).2 t p (by omega) hp
  | m + 1, t, u, p, q, hu, hp, hq => by
    have hul := (List.getElem?_eq_some_iff.1 hq).1
    obtain ⟨r, hr⟩ : ∃ r, d[t + 1 + m]? = some r := ⟨_, List.getElem?_eq_getElem (by omega)⟩
    exact lexB_trans _ _ _ (UpTo.lt h m t (t + 1 + m) p r rfl hp hr) ((h u q hul hq).2 (t + 1 + m) r (by omega) hr)
theorem UpTo.mono {d : List Ent} (h : UpTo d d.length) (x : List Int) : ∀ (t u : Nat) (p q : Ent), t ≤ u → d[t]? = some p → d[u]? = some q → lexB q.1 x = true → lexB p.1 x = true := fun t u p q htu hp hq hl => by
  by_cases e : t = u
  · subst e
    rw [hp] at hq
    cases hq
    exact hl
  · exact lexB_trans _ _ _ (h.lt (u - t - 1) t u p q (by omega) hp hq) hl

/-- What Find answers. -/
def FAns (d : List Ent) (h : List Int) (e : Ending) : Prop :=
  ∃ (p : Int × Int × Int) (b : Bool), e = .returned (.tuple #[.agg #[.int .i64 p.1, .int .i64 p.2.1, .int .i64 p.2.2], .bool b]) ∧ (b = true ↔ RightP d ∧ ∃ y ∈ d, y.1 = h) ∧ (b = true → (h, p) ∈ d) ∧ (b = false → p = (0, 0, 0))
theorem FAns.no {d : List Ent} {h : List Int} (hn : ¬ (RightP d ∧ ∃ y ∈ d, y.1 = h)) : FAns d h (.returned (.tuple #[.agg #[.int .i64 0, .int .i64 0, .int .i64 0], .bool false])) :=
  ⟨(0, 0, 0), false, rfl, ⟨fun e => (by cases e), fun e => absurd e hn⟩, fun e => (by cases e), fun _ => rfl⟩

end Go.Proofs.YtaaioaocjfpajaaGreatDoor.Sg
end

section
/-
  slices.Concat of two rows of entries, and segment.Join.
-/
namespace Go.Proofs.YtaaioaocjfpajaaGreatDoor.Sg
open Go.RowKit
open Stb (Stab Srt Mrg)
open Sim (hid Kp No)

end Go.Proofs.YtaaioaocjfpajaaGreatDoor.Sg
end

section
/-
  Of a stable sort the first of each name: strictly rising names, and of each name the first of what was sorted.
-/
namespace Go.Proofs.YtaaioaocjfpajaaGreatDoor.Sg
open Go.RowKit
open Stb (Stab Srt Mrg)
open Sim (hid Kp No)

/-- Names that rise strictly. -/
def Rise (d : List Ent) : Prop := d.Pairwise (fun a b => lexB a.1 b.1 = true)

theorem Rise.get {d : List Ent} (h : Rise d) {y : Ent} (hy : y ∈ d) : d.find? (fun x => decide (x.1 = y.1)) = some y := by
  induction d with
  | nil => cases hy
  | cons x r ih =>
    obtain ⟨h1, h2⟩ := List.pairwise_cons.1 h
    rcases List.mem_cons.1 hy with rfl | hy
    · rw [List.find?_cons_of_pos (by simp)]
    · have hx : x.1 ≠ y.1 := fun e => by
        have := h1 y hy
        rw [e, lexB_irr] at this
        cases this
      rw [List.find?_cons_of_neg (by simpa using hx)]
      exact ih h2 hy
theorem Rise.mem {d : List Ent} (h : Rise d) {y : Ent} {k : List Int} : d.find? (fun x => decide (x.1 = k)) = some y ↔ y ∈ d ∧ y.1 = k := by
  refine ⟨fun e => ⟨List.mem_of_find?_eq_some e, by simpa using List.find?_some e⟩, fun ⟨hy, e⟩ => ?_⟩
  rw [← e]
  exact h.get hy
end Go.Proofs.YtaaioaocjfpajaaGreatDoor.Sg
end

section
/-
  Own of the tenth law: entries of the document's type as the program's.
-/
namespace Go.Proofs.YtaaioaocjfpajaaGreatDoor.Sg
open Go.RowKit
open Stb (Stab Srt Mrg)
open Sim (hid Kp No)
theorem exec_appE {P : Program} {o : Oper} {a : Act} {w w' : World} (s x : Operand) (t : TypeId) (ho : o.op = .call { callee := .builtin .append, args := #[s, x], argTypes := #[t, t] }) (vs vx v : Value) (hs : a.eval s = vs) (hx : a.eval x = vx)
    (hr : (Builtin.append_ #[t, t] o.type #[vs, vx]).run P w = .ok v w') : (execOp a.eval o).run P w = .ok (.value v) w' := by
  unfold execOp
  simp [ho, resolve, invoke, builtin, hs, hx, hr, Result.andThen]
theorem wp_valE {P : Program} {o : Oper} {a : Act} {K : Act → World → Prop} {Q : Exit → Act → World → Prop} {w w' : World} {v : Value} (hr : (execOp a.eval o).run P w = .ok (.value v) w') (h : K (a.put o.dst v) w') : Oper.wp P o a w K Q := by
  unfold Oper.wp
  rw [hr]
  exact h

end Go.Proofs.YtaaioaocjfpajaaGreatDoor.Sg
end

section
/-
  Next.
-/
namespace Go.Proofs.YtaaioaocjfpajaaGreatDoor.Sh
open Go.RowKit Go.Shelf
open Sim (hid Kp No PS Done Blk nm pList OwnN Row Nm)

set_option maxHeartbeats 4000000 in
set_option maxRecDepth 100000 in
theorem next_any {P : Nat → Prop} {N : Nat} (w : World) (h s b : Nat) (n : Int) (p : PS) (hH : ShAt w h s b n) (hS : Sim.Sys P N w s p) (hV : Vars w) (hnl : ∀ n ∈ pList p, n.length ≤ 20000000) (hl : (idsP p).length ≤ 1000) (hw : IntKind.i64.wrap (maxZ (idsP p ++ [n]) + 1) = maxZ (idsP p ++ [n]) + 1) :
    Calls Tryz.prog 24 #[.pointer (some ⟨h, 0, none⟩)] w fun e w' => e = .returned (.int .i64 (maxZ (idsP p ++ [n]) + 1)) ∧ Kp No w w' := by
  have HN := hid (none_any w h s b n hH)
  have HID := hid (fun V (hV' : Kp No w V) => ids_any V h s b n p (hH.kp hV' (fun h => h)) (hS.kept hV') (Vars.kept hV hV') hnl)
  have hlt := hH.lt
  have HC2 : Hid (∀ V, Kp No w V → V.cell? ⟨h, 2, none⟩ = some (.int .i64 n)) := fun V hV => (hV.cell (p := ⟨h, 2, none⟩) hlt (fun h => h)).trans (hH.cell 2)
  have HWR := hid hw
  obtain ⟨Z, hZ⟩ : ∃ Z, idsP p = Z := ⟨_, rfl⟩
  rw [hZ] at HID HWR hl ⊢
  have hl : Z.length ≤ 100000 := by omega
  have hN1 := fun V => run_oneI n V
  clear hZ hH hS hV hnl hw
  go_enter Tryz.func24, Tryz.ntmps24
  go_wp2_with fail
  refine HN.out.mono ?_
  rintro e w0 ⟨rfl, hw0⟩
  subst w0
  clear HN
  go_wp2_with fail
  refine wp_region_held_drew (S := fun V => Kp No w V) (by kernel_rfl) ((Kp.refl _ _).drew) (fun hHeld => ?_)
  refine wpAnyH_take (i := 0) (oi := { dst := some 5, op := Op.move (Operand.tmp 0), type := 29, pos := "shelf.go:55", after := #[], guard := none }) (v := .pointer (some ⟨h, 0, none⟩)) rfl (by kernel_rfl) (by kernel_rfl) (by kernel_rfl) (fun _ _ _ h => h) (Or.inl ⟨by rfl, fun w' hw' => by (clear hw'; go_simp)⟩) hHeld ?_
  simp only [Act.put, List.setIfInBounds_toArray, List.set_cons_zero, List.set_cons_succ]
  refine wpAnyH_take (i := 2) (oi := { dst := some 7, op := Op.move (Operand.tmp 0), type := 29, pos := "shelf.go:55", after := #[], guard := none }) (v := .pointer (some ⟨h, 0, none⟩)) rfl (by kernel_rfl) (by kernel_rfl) (by kernel_rfl) (fun _ _ _ h => h) (Or.inl ⟨by rfl, fun w' hw' => by (clear hw'; go_simp)⟩) hHeld ?_
  simp only [Act.put, List.setIfInBounds_toArray, List.set_cons_zero, List.set_cons_succ]
  refine wpAnyH_take (i := 3) (oi := { dst := some 8, op := Op.nilCheck (Operand.tmp 7), type := 0, pos := "shelf.go:55", after := #[{ on := 2, ground := Ground.data }], guard := none }) (v := .pointer (some ⟨h, 0, none⟩)) rfl (by kernel_rfl) (by kernel_rfl) (by kernel_rfl) (fun _ _ _ h => h) (Or.inl ⟨by rfl, fun w' hw' => by (clear hw'; go_simp)⟩) hHeld ?_
  simp only [Act.put, List.setIfInBounds_toArray, List.set_cons_zero, List.set_cons_succ]
  refine wpAnyH_take (i := 4) (oi := { dst := some 9, op := Op.fieldAddr 87 (Operand.tmp 8) 2, type := 0, pos := "shelf.go:55", after := #[{ on := 3, ground := Ground.data }], guard := none }) (v := .pointer (some ⟨h, 2, none⟩)) rfl (by kernel_rfl) (by kernel_rfl) (by kernel_rfl) (fun _ _ _ h => h) (Or.inl ⟨by rfl, fun w' hw' => by (clear hw'; go_simp)⟩) hHeld ?_
  simp only [Act.put, List.setIfInBounds_toArray, List.set_cons_zero, List.set_cons_succ]
  refine wpAnyH_take (i := 5) (oi := { dst := some 10, op := Op.load 3 (Operand.tmp 9), type := 3, pos := "shelf.go:55", after := #[{ on := 4, ground := Ground.data }], guard := none }) (v := .int .i64 n) rfl (by kernel_rfl) (by kernel_rfl) (by kernel_rfl) (fun _ _ _ h => h) (Or.inl ⟨by rfl, fun w' hw' => by (have q0 := HC2.out w' hw'; clear hw'; go_simp)⟩) hHeld ?_
  simp only [Act.put, List.setIfInBounds_toArray, List.set_cons_zero, List.set_cons_succ]
  refine wpAnyH_ready (rs := [1, 6]) (by kernel_rfl) (by simp) ?_
  refine (AllReadyH.cons (o := { dst := some 6, op := Op.call { callee := Callee.value (Operand.func 15), args := #[Operand.tmp 5], argTypes := #[29] }, type := 23, pos := "shelf.go:55", after := #[{ on := 0, ground := Ground.data }], guard := none }) rfl (fun K hK => ?_) (AllReadyH.cons (o := { dst := some 11, op := Op.buildSlice 23 1 #[(0, Operand.tmp 10)], type := 23, pos := "shelf.go:55", after := #[{ on := 5, ground := Ground.data }], guard := none }) rfl (fun K hK => ?_) AllReadyH.nil))
  · go_simp
    refine (HID.out (w.drew) ((Kp.refl No w).drew)).mono ?_
    rintro e w1 ⟨u, rfl, hu, ho, hk⟩
    obtain ⟨a, c, rfl, _⟩ := hu.form
    have HK1 : Hid (Kp No w w1) := ((Kp.refl No w).drew).andNone hk
    have HKV : Hid (Kp No (w.drew) w1) := hk
    have HU := hid hu
    have HO : Hid (∀ x, (Value.slice a Z.length c).ownBlock = some x → w.heap.size ≤ x) := fun x hx => Nat.le_trans ((Kp.refl No w).drew).size (ho x hx)
    clear hu ho hk HID
    go_wp2_with fail
    refine hK.out _ _ (HK1.out) (fun hh => ?_)
    clear hK K hHeld
    have hHeld := hh
    clear hh
    try simp only [Act.put, List.setIfInBounds_toArray, List.set_cons_zero, List.set_cons_succ]
    refine wpAnyH_ready (rs := [6]) (by kernel_rfl) (by simp) ?_
    refine (AllReadyH.cons (o := { dst := some 11, op := Op.buildSlice 23 1 #[(0, Operand.tmp 10)], type := 23, pos := "shelf.go:55", after := #[{ on := 5, ground := Ground.data }], guard := none }) rfl (fun K hK => ?_) AllReadyH.nil)
    go_simp
    refine hK.out _ _ ((HK1.out).alloc _) (fun hh => ?_)
    clear hK K hHeld
    have hHeld := hh
    clear hh
    try simp only [Act.put, List.setIfInBounds_toArray, List.set_cons_zero, List.set_cons_succ]
    obtain ⟨ad, cap, w2, hap, hrow, hgr⟩ := app_oneI w1 (w1.alloc (.cells #[.int .i64 n] 3)) 23 (.slice a Z.length c) Z n (w1.heap.size) HU.out ((Kp.refl No w1).alloc _) (by rw [World.cell?_alloc_at _ _ _ _ rfl]; rfl) hl
    have HAP := hid hap
    have HROW := hid hrow
    have HK2 : Hid (Kp No w w2) := (HK1.out.andNone ((Kp.refl No w1).alloc _)).grown hgr (fun x hx => .inr (HO.out x hx))
    clear hap hrow hgr
    refine wpAnyH_ready (rs := [7]) (by kernel_rfl) (by simp) ?_
    refine (AllReadyH.cons (o := { dst := some 12, op := Op.call { callee := Callee.builtin Builtin.append, args := #[Operand.tmp 6, Operand.tmp 11], argTypes := #[23, 23] }, type := 23, pos := "shelf.go:55", after := #[{ on := 1, ground := Ground.data }, { on := 6, ground := Ground.data }, { on := 1, ground := Ground.chain }], guard := none }) rfl (fun K hK => ?_) AllReadyH.nil)
    refine Sg.wp_valE (Sg.exec_appE _ _ 23 (by rfl) (.slice a Z.length c) (.slice (some ⟨w1.heap.size, 0, none⟩) 1 1) _ (by rfl) (by rfl) HAP.out) ?_
    refine hK.out _ _ (HK2.out) (fun hh => ?_)
    clear hK K hHeld
    have hHeld := hh
    clear hh
    try simp only [Act.put, List.setIfInBounds_toArray, List.set_cons_zero, List.set_cons_succ]
    refine wpAnyH_ready (rs := [8]) (by kernel_rfl) (by simp) ?_
    refine (AllReadyH.cons (o := { dst := some 13, op := Op.call { callee := Callee.value (Operand.func 48), args := #[Operand.tmp 12], argTypes := #[23] }, type := 3, pos := "shelf.go:55", after := #[{ on := 7, ground := Ground.data }, { on := 7, ground := Ground.chain }], guard := none }) rfl (fun K hK => ?_) AllReadyH.nil)
    go_simp
    refine (max_any w2 _ (Z ++ [n]) HROW.out (by simp) (by simp; omega)).mono ?_
    rintro e w3 ⟨rfl, h3⟩
    subst w3
    go_wp2_with fail
    refine hK.out _ _ (HK2.out) (fun hh => ?_)
    clear hK K hHeld
    have hHeld := hh
    clear hh
    try simp only [Act.put, List.setIfInBounds_toArray, List.set_cons_zero, List.set_cons_succ]
    refine wpAnyH_take (i := 9) (oi := { dst := some 14, op := Op.binOp BinOp.add 3 (Operand.tmp 13) (Operand.const (Value.int IntKind.i64 1)) 3, type := 3, pos := "shelf.go:55", after := #[{ on := 8, ground := Ground.data }], guard := none }) (v := .int .i64 (maxZ (Z ++ [n]) + 1)) rfl (by kernel_rfl) (by kernel_rfl) (by kernel_rfl) (fun _ _ _ h => h) (Or.inl ⟨by rfl, fun w' hw' => by (have q0 := HWR.out; clear hw'; go_simp)⟩) hHeld ?_
    simp only [Act.put, List.setIfInBounds_toArray, List.set_cons_zero, List.set_cons_succ]
    refine wpAnyH_take (i := 10) (oi := { dst := some 2, op := Op.assign (Operand.tmp 14), type := 3, pos := "shelf.go:55", after := #[{ on := 9, ground := Ground.data }, { on := 8, ground := Ground.chain }, { on := 0, ground := Ground.phase }, { on := 1, ground := Ground.phase }, { on := 2, ground := Ground.phase }, { on := 3, ground := Ground.phase }, { on := 4, ground := Ground.phase }, { on := 5, ground := Ground.phase }, { on := 6, ground := Ground.phase }, { on := 7, ground := Ground.phase }, { on := 8, ground := Ground.phase }, { on := 9, ground := Ground.phase }], guard := none }) (v := .int .i64 (maxZ (Z ++ [n]) + 1)) rfl (by kernel_rfl) (by kernel_rfl) (by kernel_rfl) (fun _ _ _ h => h) (Or.inl ⟨by rfl, fun w' hw' => by (clear hw'; go_simp)⟩) hHeld ?_
    simp only [Act.put, List.setIfInBounds_toArray, List.set_cons_zero, List.set_cons_succ]
    refine wpAnyH_done (by kernel_rfl) ?_ _
    clear hHeld
    go_wp2_with fail
    go_ret
    exact ⟨rfl, HK2.out⟩
  · go_simp
    refine hK.out _ _ (((Kp.refl No w).drew).alloc _) (fun hh => ?_)
    clear hK K hHeld
    have hHeld := hh
    clear hh
    try simp only [Act.put, List.setIfInBounds_toArray, List.set_cons_zero, List.set_cons_succ]
    refine wpAnyH_ready (rs := [1]) (by kernel_rfl) (by simp) ?_
    refine (AllReadyH.cons (o := { dst := some 6, op := Op.call { callee := Callee.value (Operand.func 15), args := #[Operand.tmp 5], argTypes := #[29] }, type := 23, pos := "shelf.go:55", after := #[{ on := 0, ground := Ground.data }], guard := none }) rfl (fun K hK => ?_) AllReadyH.nil)
    go_simp
    refine (HID.out (w.drew.alloc (.cells #[.int .i64 n] 3)) (((Kp.refl No w).drew).alloc _)).mono ?_
    rintro e w1 ⟨u, rfl, hu, ho, hk⟩
    obtain ⟨a, c, rfl, _⟩ := hu.form
    have HK1 : Hid (Kp No w w1) := (((Kp.refl No w).drew).alloc _).andNone hk
    have HKV : Hid (Kp No (w.drew.alloc (.cells #[.int .i64 n] 3)) w1) := hk
    have HU := hid hu
    have HO : Hid (∀ x, (Value.slice a Z.length c).ownBlock = some x → w.heap.size ≤ x) := fun x hx => Nat.le_trans (((Kp.refl No w).drew).alloc _).size (ho x hx)
    clear hu ho hk HID
    go_wp2_with fail
    refine hK.out _ _ (HK1.out) (fun hh => ?_)
    clear hK K hHeld
    have hHeld := hh
    clear hh
    try simp only [Act.put, List.setIfInBounds_toArray, List.set_cons_zero, List.set_cons_succ]
    obtain ⟨ad, cap, w2, hap, hrow, hgr⟩ := app_oneI w1 (w1) 23 (.slice a Z.length c) Z n (w.heap.size) HU.out (Kp.refl No w1) ((HKV.out.cell (p := ⟨w.heap.size, 0, none⟩) (by simp) (fun h => h)).trans (by have e : w.drew.heap.size = w.heap.size := rfl; rw [← e, World.cell?_alloc_at _ _ _ _ rfl]; rfl)) hl
    have HAP := hid hap
    have HROW := hid hrow
    have HK2 : Hid (Kp No w w2) := (HK1.out.andNone (Kp.refl No w1)).grown hgr (fun x hx => .inr (HO.out x hx))
    clear hap hrow hgr
    refine wpAnyH_ready (rs := [7]) (by kernel_rfl) (by simp) ?_
    refine (AllReadyH.cons (o := { dst := some 12, op := Op.call { callee := Callee.builtin Builtin.append, args := #[Operand.tmp 6, Operand.tmp 11], argTypes := #[23, 23] }, type := 23, pos := "shelf.go:55", after := #[{ on := 1, ground := Ground.data }, { on := 6, ground := Ground.data }, { on := 1, ground := Ground.chain }], guard := none }) rfl (fun K hK => ?_) AllReadyH.nil)
    refine Sg.wp_valE (Sg.exec_appE _ _ 23 (by rfl) (.slice a Z.length c) (.slice (some ⟨w.heap.size, 0, none⟩) 1 1) _ (by rfl) (by rfl) HAP.out) ?_
    refine hK.out _ _ (HK2.out) (fun hh => ?_)
    clear hK K hHeld
    have hHeld := hh
    clear hh
    try simp only [Act.put, List.setIfInBounds_toArray, List.set_cons_zero, List.set_cons_succ]
    refine wpAnyH_ready (rs := [8]) (by kernel_rfl) (by simp) ?_
    refine (AllReadyH.cons (o := { dst := some 13, op := Op.call { callee := Callee.value (Operand.func 48), args := #[Operand.tmp 12], argTypes := #[23] }, type := 3, pos := "shelf.go:55", after := #[{ on := 7, ground := Ground.data }, { on := 7, ground := Ground.chain }], guard := none }) rfl (fun K hK => ?_) AllReadyH.nil)
    go_simp
    refine (max_any w2 _ (Z ++ [n]) HROW.out (by simp) (by simp; omega)).mono ?_
    rintro e w3 ⟨rfl, h3⟩
    subst w3
    go_wp2_with fail
    refine hK.out _ _ (HK2.out) (fun hh => ?_)
    clear hK K hHeld
    have hHeld := hh
    clear hh
    try simp only [Act.put, List.setIfInBounds_toArray, List.set_cons_zero, List.set_cons_succ]
    refine wpAnyH_take (i := 9) (oi := { dst := some 14, op := Op.binOp BinOp.add 3 (Operand.tmp 13) (Operand.const (Value.int IntKind.i64 1)) 3, type := 3, pos := "shelf.go:55", after := #[{ on := 8, ground := Ground.data }], guard := none }) (v := .int .i64 (maxZ (Z ++ [n]) + 1)) rfl (by kernel_rfl) (by kernel_rfl) (by kernel_rfl) (fun _ _ _ h => h) (Or.inl ⟨by rfl, fun w' hw' => by (have q0 := HWR.out; clear hw'; go_simp)⟩) hHeld ?_
    simp only [Act.put, List.setIfInBounds_toArray, List.set_cons_zero, List.set_cons_succ]
    refine wpAnyH_take (i := 10) (oi := { dst := some 2, op := Op.assign (Operand.tmp 14), type := 3, pos := "shelf.go:55", after := #[{ on := 9, ground := Ground.data }, { on := 8, ground := Ground.chain }, { on := 0, ground := Ground.phase }, { on := 1, ground := Ground.phase }, { on := 2, ground := Ground.phase }, { on := 3, ground := Ground.phase }, { on := 4, ground := Ground.phase }, { on := 5, ground := Ground.phase }, { on := 6, ground := Ground.phase }, { on := 7, ground := Ground.phase }, { on := 8, ground := Ground.phase }, { on := 9, ground := Ground.phase }], guard := none }) (v := .int .i64 (maxZ (Z ++ [n]) + 1)) rfl (by kernel_rfl) (by kernel_rfl) (by kernel_rfl) (fun _ _ _ h => h) (Or.inl ⟨by rfl, fun w' hw' => by (clear hw'; go_simp)⟩) hHeld ?_
    simp only [Act.put, List.setIfInBounds_toArray, List.set_cons_zero, List.set_cons_succ]
    refine wpAnyH_done (by kernel_rfl) ?_ _
    clear hHeld
    go_wp2_with fail
    go_ret
    exact ⟨rfl, HK2.out⟩

end Go.Proofs.YtaaioaocjfpajaaGreatDoor.Sh
end

section
/-
  Records in memory, as a shelf is given them; what is wrong with them.
-/
namespace Go.Proofs.YtaaioaocjfpajaaGreatDoor.Sh
open Go.RowKit Go.Shelf
open Tlv (BySlS)
open Sim (hid Kp No PS Done Blk nm)

/-- Records that are read: in blocks of which S. -/
def RV (S : Nat → Prop) (w : World) (v : Value) (zs : List El) : Prop :=
  ∃ a c, v = .slice a zs.length c ∧ zs.length ≤ c ∧ c ≤ maxLen ∧ (a = none → zs = [] ∧ c = 0) ∧ (∀ z ∈ zs, elOk z ∧ BySlS (fun g => S g ∧ g < w.heap.size) w (elV z) z.1.2.2) ∧
    (zs ≠ [] → ∃ g o, a = some ⟨g, o, none⟩ ∧ S g ∧ g < w.heap.size ∧ ∀ i z, zs[i]? = some z → w.rangeAt g (o + i * 34) (elC z))

theorem RV.kp {S L : Nat → Prop} {w w' : World} {v : Value} {zs : List El} (h : RV S w v zs) (k : Kp L w w') (hS : ∀ g, S g → ¬ L g) : RV S w' v zs := by
  obtain ⟨a, c, rfl, h1, h2, h3, h4, h5⟩ := h
  refine ⟨a, c, rfl, h1, h2, h3, fun z hz => ⟨(h4 z hz).1, (h4 z hz).2.agree (fun g hg => k.block g hg.2 (hS g hg.1)) (fun g hg => ⟨hg.1, Nat.lt_of_lt_of_le hg.2 k.size⟩)⟩, fun hne => ?_⟩
  obtain ⟨g, o, rfl, hg, hl, hr⟩ := h5 hne
  exact ⟨g, o, rfl, hg, Nat.lt_of_lt_of_le hl k.size, fun i z hz j u hu => (k.cell (p := ⟨g, _, none⟩) hl (hS g hg)).trans (hr i z hz j u hu)⟩
theorem RV.kept {S : Nat → Prop} {w w' : World} {v : Value} {zs : List El} (h : RV S w v zs) (k : Kp No w w') : RV S w' v zs := h.kp k (fun _ _ hx => hx)

/-- A part of them. -/
theorem RV.mid {S : Nat → Prop} {w : World} {g o n c : Nat} {zs : List El} (h : RV S w (.slice (some ⟨g, o, none⟩) n c) zs) (i j : Nat) (hij : i ≤ j) (hj : j ≤ zs.length) : RV S w (.slice (some ⟨g, o + i * 34, none⟩) (j - i) (c - i)) ((zs.take j).drop i) := by
  obtain ⟨a, c', e, h1, h2, h3, h4, h5⟩ := h
  simp only [Value.slice.injEq] at e
  obtain ⟨rfl, rfl, rfl⟩ := e
  have hl : ((zs.take j).drop i).length = j - i := by rw [List.length_drop, List.length_take]; omega
  refine ⟨_, c - i, by rw [hl], by rw [hl]; omega, by unfold maxLen at *; omega, by simp, fun z hz => h4 z (List.mem_of_mem_take (List.mem_of_mem_drop hz)), fun hne => ?_⟩
  have hne' : zs ≠ [] := fun e => by rw [e] at hne; simp at hne
  obtain ⟨g', o', e, hg, hlt, hr⟩ := h5 hne'
  simp only [Option.some.injEq, Addr.mk.injEq, and_true] at e
  obtain ⟨rfl, rfl⟩ := e
  refine ⟨g, o + i * 34, rfl, hg, hlt, fun k z hz => ?_⟩
  rw [List.getElem?_drop] at hz
  have hz' : zs[i + k]? = some z := by
    have hk := (List.getElem?_eq_some_iff.1 hz).1
    rw [List.length_take] at hk
    rwa [List.getElem?_take_of_lt (by omega)] at hz
  have := hr (i + k) z hz'
  rw [show o + i * 34 + k * 34 = o + (i + k) * 34 by omega]
  exact this

def okR (z : El) : Bool := rightB z.1.1 z.1.2.2.length
/-- What is wrong with records: BadArg, or nothing. -/
def wrongF (zs : List El) : Nat := if zs.all okR then 0 else 1

theorem box34 (w : World) (A : Array Value) (cx : List Value) (hA : A.size = 34) (hc : cx.length = 34) : ∀ V, Kp No ((w.alloc (.cells A 56)).setCells w.heap.size 0 cx) V → V.rangeAt w.heap.size 0 cx ∧ Kp No w V := fun V hV => by
  have hs : w.heap.size < ((w.alloc (.cells A 56)).setCells w.heap.size 0 cx).heap.size := Nat.lt_of_lt_of_le (by simp) (Sg.setCells_kp _ _ _ _).size
  refine ⟨fun j v hv => (hV.cell (p := ⟨w.heap.size, _, none⟩) hs (fun x => x)).trans ((World.rangeAt_setCells_same _ _ _ _ (Sg.thereE w A _ _ (by omega))) j v hv), ?_⟩
  exact (((Kp.refl No w).alloc _).trans (Sg.setCells_kp _ w.heap.size 0 cx) (fun x hx => .inr (by omega))).trans hV (fun x hx => .inl hx)

theorem size_any (z : El) (w : World) (hz : elOk z) (hb : Tlv.BySl 0 w.heap.size w (elV z) z.1.2.2) (hr : okR z = true) :
    Calls Tryz.prog 44 #[.agg (elC z).toArray] w fun e w' => e = .returned (.int .i64 ((49 + z.1.2.2.length : Nat) : Int)) ∧ Below w.heap.size w w' :=
  size_yes z.1.1 z.1.2.1 z.1.2.2 (elV z) w hb (right_of hr hz.1 hz.2 hb.bytes)

set_option maxHeartbeats 4000000 in
set_option maxRecDepth 100000 in
theorem wrong_any {S : Nat → Prop} (w : World) (v : Value) (zs : List El) (hv : RV S w v zs) (hl : zs.length ≤ 1000000) :
    Calls Tryz.prog 51 #[v] w fun e w' => e = .returned (.int .i64 (wrongF zs : Nat)) ∧ Kp No w w' := by
  have HV := hid hv
  obtain ⟨a, c, rfl, _⟩ := hv
  obtain ⟨n, hn⟩ : ∃ n, zs.length = n := ⟨_, rfl⟩
  have HN := hid hn
  rw [hn] at HV hl ⊢
  obtain ⟨F, hF⟩ : ∃ F, wrongF zs = F := ⟨_, rfl⟩
  have HF := hid hF
  rw [hF]
  have hz35 := zero35
  obtain ⟨Z, hZ⟩ : ∃ Z, zRec = Z := ⟨_, rfl⟩
  have HZL : Hid (Z.length = 34) := by rw [← hZ]; rfl
  rw [hZ] at hz35
  clear hn hF hZ
  go_enter Tryz.func51, Tryz.ntmps51
  go_wp2_with fail
  go_loopw [3, 8] (fun f i wr => ∃ k : Nat, k ≤ n ∧ i = .int .i64 (k : Int) ∧ f = .int .i64 0 ∧ Hid ((zs.take k).all okR = true ∧ Kp No w wr)) (fun _ i _ => n - (intOf i).toNat)
  case atStart => exact ⟨0, Nat.zero_le _, rfl, rfl, by simp, Kp.refl _ _⟩
  case round =>
    obtain ⟨k, hk, rfl, rfl, HS⟩ := hrel
    by_cases hlt : k < n
    · have hltI : (k : Int) < (n : Int) := by omega
      obtain ⟨z, hz⟩ : ∃ z, zs[k]? = some z := ⟨_, List.getElem?_eq_getElem (by rw [HN.out]; exact hlt)⟩
      have hvr := HV.out.kept HS.out.2
      obtain ⟨a', c', e', h1, h2, h3, h4, h5⟩ := id hvr
      simp only [Value.slice.injEq] at e'
      obtain ⟨rfl, en, rfl⟩ := e'
      obtain ⟨g, o, rfl, _, hgl, hrg⟩ := h5 (fun e => by rw [e] at hz; simp at hz)
      have HRG := hid (hrg k z hz)
      obtain ⟨hzo, hzb⟩ := h4 z (List.mem_of_getElem? hz)
      have HZ := hid (And.intro hz (And.intro hzo hzb))
      have hcl := elC_length hzo
      have HRT := hid (fun V => right13_any (elC z) z.1.1 z.2.1 z.1.2.2.length z.2.2 V (recA_0 _ _ _) (recA_33 _ _ _ hzo.1))
      have HSZ := hid (fun V (hV : Kp No wr V) (hr : okR z = true) => size_any z V hzo ((hzb.agree (fun g hg => hV.block g hg.2 (fun h => h)) (fun g hg => (⟨trivial, Nat.lt_of_lt_of_le hg.2 hV.size⟩ : True ∧ g < V.heap.size))).to (fun g hg => hg.2)) hr)
      have HO1 : Hid ((elC z).toArray.all (·.oneCell') = true) := all_oneCell_toArray (elC_one z)
      obtain ⟨cx, hcx⟩ : ∃ cx, elC z = cx := ⟨_, rfl⟩
      rw [hcx] at HRG HRT HSZ HO1 hcl
      have HI : Hid ((Tryz.prog.info? 56).map (·.size) = some cx.length) := by rw [Hid, hcl]; exact Tryz.info35
      have hbnd : n ≤ c := by have := HN.out; omega
      clear en hz hvr h1 h2 h3 h4 h5 hrg hzo hzb hcx
      go_wp2_with (first
        | (refine wpList_load_mid (by rfl) 56 _ (by rfl) g (o + k * 34) (by rfl) cx _ HRG.out Tryz.underlying56 rfl HI.out ?_)
        | (refine Sg.wpList_store_box (fun W => ∀ V, Kp No W V → V.rangeAt wr.heap.size 0 cx ∧ Kp No wr V) (by rfl) 56 _ _ (by rfl) wr.heap.size 0 cx.toArray (by rfl) (by rfl) (Sg.thereE wr _ _ _ (by rw [List.size_toArray, hcl, List.size_toArray, HZL.out]; exact Nat.le_refl _)) HI.out HO1.out (box34 wr _ cx (by rw [List.size_toArray, HZL.out]) hcl) ?_; intro W1 hW1; have HW1 := hid hW1; clear hW1)
        | (refine wpList_load_mid (by rfl) 56 _ (by rfl) wr.heap.size 0 (by rfl) cx _ (HW1.out _ (Kp.refl _ _)).1 Tryz.underlying56 rfl HI.out ?_))
      refine (HRT.out W1).mono ?_
      rintro e w2 ⟨rfl, hB⟩
      have HK2 : Hid (Kp No W1 w2) := Kp.below hB
      clear hB HRT
      by_cases hok : okR z = true
      · have hok' : rightB z.1.1 z.1.2.2.length = true := hok
        have hbz : z.1.2.2.length ≤ 5000 := by
          have := hok'
          unfold rightB at this
          simp at this
          omega
        have HOK := hid hok
        generalize z.1.2.2.length = m at *
        rw [hok']
        clear hok hok'
        have hmI : ¬ ((12000 : Int) < ((49 + m : Nat) : Int)) := by omega
        go_wp2_with (refine wpList_load_mid (by rfl) 56 _ (by rfl) wr.heap.size 0 (by rfl) cx _ (HW1.out _ HK2.out).1 Tryz.underlying56 rfl HI.out ?_)
        refine (HSZ.out w2 (HW1.out _ HK2.out).2 HOK.out).mono ?_
        rintro e w3 ⟨rfl, hB⟩
        have HK3 : Hid (Kp No w2 w3) := Kp.below hB
        clear hB HSZ
        go_wp2_with fail
        trace_state
        refine ⟨⟨k + 1, by omega, by go_num, rfl, ?_⟩, by simp [intOf]; omega⟩
        refine ⟨?_, (HS.out.2.trans (HW1.out _ HK2.out).2 (fun x hx => .inl hx)).trans HK3.out (fun x hx => .inl hx)⟩
        rw [List.take_add_one, HZ.out.1, List.all_append, HS.out.1]
        simpa using HOK.out
      · have hok' : rightB z.1.1 z.1.2.2.length = false := by simpa [okR] using hok
        have HF1 : Hid (F = 1) := by
          rw [Hid, ← HF.out, wrongF, if_neg]
          intro h
          exact hok (List.all_eq_true.1 h z (List.mem_of_getElem? HZ.out.1))
        rw [hok']
        clear hok hok' HSZ
        go_wp2_with fail
        go_ret
        exact ⟨by rw [HF1.out]; rfl, (HS.out.2.trans (HW1.out _ HK2.out).2 (fun x hx => .inl hx))⟩
    · have hltI : ¬ (k : Int) < (n : Int) := by omega
      have hkn : k = n := by omega
      subst hkn
      go_wp2_with fail
      go_ret
      have h := HS.out
      rw [← HN.out, List.take_length] at h
      exact ⟨by rw [← HF.out, wrongF, if_pos h.1]; rfl, h.2⟩

end Go.Proofs.YtaaioaocjfpajaaGreatDoor.Sh
end
