/- Of the proof: the texts TrAlive, TrPlays, TrPlaysB, TrLaid, TrPlaysFacts, one behind the other. -/
import Derived.Test.YtdooiflmjeibdaaGreatDoorAbb
import Derived.Test.YtdooiflmjeibdaaGreatDoorB5
import Derived.Lib.SlBytesConst
import Derived.Laws.IdiomStrings
import Derived.KernelRfl
import Derived.Test.YtdooiflmjeibdaaGreatDoorB7
import Derived.Test.YtdooiflmjeibdaaGreatDoorCards
import Derived.Test.YtdooiflmjeibdaaGreatDoorTie
import GoSem.PinnedTables
import Derived.ProofKit
import Derived.OpenShut
import Derived.Deep.DeepHandedRow
import Derived.Lib.LaidTab
import Derived.MakeChecks
import Derived.Test.YtdooiflmjeibdaaGreatDoorChecked
import Derived.WalkKit
section
/-
  alive: the chapter's example.
-/
namespace Go.Proofs.YtdooiflmjeibdaaGreatDoor.Tr
open Go.RowKit

def itA : It := (⟨#[97]⟩, true, [])
def itB : It := (⟨#[97, 47, 98]⟩, false, [120])
theorem exa1 : mkdirR [] ⟨#[97]⟩ = (0, [itA]) := by kernel_rfl
theorem exa2 : writeR [itA] ⟨#[97, 47, 98]⟩ [120] = (0, [itA, itB]) := by kernel_rfl
theorem exa3 : look [itA, itB] ⟨#[97, 47, 98]⟩ = some itB := by kernel_rfl
theorem exa4 : (underL [itA, itB] ⟨#[97]⟩).length = 2 := by kernel_rfl
theorem conv_const (W : World) : (convert 23 23 (.slice (some ⟨W.heap.size, 0, none⟩) 1 1)).run Tryz.prog (W.alloc (.cells #[.int .u8 120] 5)) = .ok (.slice (some ⟨W.heap.size, 0, none⟩) 1 1) (W.alloc (.cells #[.int .u8 120] 5 (1, 2))) :=
  Lib.run_convert_bytes_const W 23 5 _ 1 1 Tryz.underlying23 Tryz.underlying5
theorem by_const (W : World) : ByP Any (W.alloc (.cells #[.int .u8 120] 5 (1, 2))) (.slice (some ⟨W.heap.size, 0, none⟩) 1 1) [120] := by
  refine ⟨_, 1, rfl, Nat.le_refl _, by decide, by simp, by decide, by simp, fun _ => ⟨W.heap.size, 0, rfl, trivial, by simp, fun i hi => ?_⟩⟩
  have : i = 0 := by simpa using hi
  subst this
  exact World.cell?_alloc_mark W _ 5 (1, 2) 0
theorem short_ab : ∀ y ∈ [itA, itB], ShortI y := by
  intro y hy
  simp only [List.mem_cons, List.not_mem_nil, or_false] at hy
  rcases hy with rfl | rfl <;> exact ⟨by decide, by decide⟩

set_option maxHeartbeats 4000000 in
set_option maxRecDepth 100000 in
theorem alive_any (w : World) : Calls Tryz.prog 7 #[] w fun e w' => e = .returned (.bool true) ∧ Kp No w w' := by
  have hcv := conv_const
  have HM := hid (mkdir_any w (.slice none 0 0) [] ⟨#[97]⟩ (IRow.nil _ _) (by decide) (by simp) (by decide))
  rw [exa1] at HM
  go_enter Tryz.func7, Tryz.ntmps7
  go_wp2_with fail
  refine HM.out.mono ?_
  rintro e w1 ⟨v1, rfl, h1, _, k1⟩
  have O1 := hid h1
  have K1 := hid k1
  obtain ⟨a1, c1, e1⟩ := h1.form
  subst e1
  clear h1 k1 HM
  go_wp2_with fail
  have ka : Kp No w1 (w1.alloc (.cells #[.int .u8 120] 5 (1, 2))) := (Kp.refl _ _).alloc _
  have HW := write_any (w1.alloc (.cells #[.int .u8 120] 5 (1, 2))) (.slice a1 [itA].length c1) _ [itA] ⟨#[97, 47, 98]⟩ [120] (O1.out.kept ka).row (by decide) (fun y hy => short_ab y (by simp at hy; simp [hy])) (by decide) (by_const w1)
  rw [exa2] at HW
  refine HW.mono ?_
  rintro e w2 ⟨v2, rfl, h2, _, k2⟩
  have O2 := hid h2
  have K2 : Hid (Kp No w w2) := (K1.out.andNone ka).andNone k2
  obtain ⟨a2, c2, e2⟩ := h2.form
  subst e2
  clear h2 k2 HW
  have HF := hid (find_yes w2 (.slice a2 [itA, itB].length c2) [itA, itB] ⟨#[97, 47, 98]⟩ itB ⟨by decide, by decide⟩ O2.out.row (by decide) exa3)
  go_wp2_with fail
  refine HF.out.mono ?_
  rintro e w3 ⟨u, rfl, hb, k3⟩
  obtain ⟨au, cu, hu⟩ := hb.form
  subst hu
  have K3 : Hid (Kp No w w3) := K2.out.andNone k3
  have HU := hid (fun (V : World) (k : Kp No w3 V) => under_any V (.slice a2 [itA, itB].length c2) [itA, itB] ⟨#[97]⟩ ((O2.out.kept k3).kept k).row (by decide) short_ab)
  have HCS : Hid (∀ V, Kp No w3 V → (convert 23 9 (.slice au itB.2.2.length cu)).run Tryz.prog V = .ok (.string ⟨#[120]⟩) V) := fun V k => by
    obtain ⟨a', c', e', _, _, _, _, _, h7⟩ := hb.kept k
    cases e'
    obtain ⟨g, o, rfl, _, hg, hc⟩ := h7 (by decide)
    have := run_convert_bytes_back (P := Tryz.prog) V 23 9 5 ⟨g, o, none⟩ cu [120] Tryz.underlying23 Tryz.underlying5 Tryz.underlying9 (fun j hj => by
      have : j = 0 := by simpa using hj
      subst this
      rw [addr_add]
      exact hc 0 (by decide))
    exact this
  have hcs := HCS.out (w3.alloc (.cells #[.string itB.1, .bool itB.2.1, .slice au itB.2.2.length cu] 41)) ((Kp.refl _ _).alloc _)
  clear hb k3 HF HCS
  go_wp2_with (go_at_call 15; refine (HU.out _ ((Kp.refl _ _).alloc _)).mono ?_; rintro e w5 ⟨a5, n5, c5, rfl, ho, _, hk⟩; obtain ⟨a6, c6, e6⟩ := ho.form; rw [exa4] at e6; cases e6; have HK5 := hid ((K3.out.andNone ((Kp.refl No _).alloc _)).andNone hk); clear ho hk)
  go_ret
  exact ⟨rfl, HK5.out⟩

end Go.Proofs.YtdooiflmjeibdaaGreatDoor.Tr
end

section
/-
  TreePlays: its walk.
-/
namespace Go.Proofs.YtdooiflmjeibdaaGreatDoor.Tr
open Go.RowKit

set_option maxHeartbeats 8000000 in
set_option maxRecDepth 100000 in
theorem plays_some (w : World) (g o cap n : Nat) (l : List OpT) (hn : l.length = n) (ho : OpsAt w g o l) (hok : opsB l 30 = true) :
    Calls Tryz.prog 4 #[.slice (some ⟨g, o, none⟩) n cap] w fun e w' => e = .returned (.bool true) ∧ Kp No w w' := by
  have hnl : n ≤ 30 := by
    unfold opsB at hok
    rw [Bool.and_eq_true, decide_eq_true_eq] at hok
    omega
  have HS : Hid (∀ x ∈ l, x.2.2.1.size ≤ 10000 ∧ x.2.2.2.1.size ≤ 10000 ∧ x.2.2.2.2.length ≤ 10000) := fun x hx => by
    unfold opsB at hok
    rw [Bool.and_eq_true] at hok
    have := List.all_eq_true.1 hok.2 x hx
    unfold opI at this
    simp only [Bool.and_eq_true, decide_eq_true_eq] at this
    omega
  have HOP := hid (ops_any w g o cap n l 30 (by decide) hn (by omega) ho)
  rw [hok] at HOP
  have HO := hid ho
  have HN := hid hn
  have HAL := hid alive_any
  clear hn ho hok
  go_enter Tryz.func4, Tryz.ntmps4
  go_wp2_with (go_at_call 6; refine HOP.out.mono ?_; rintro e w0 ⟨rfl, hk⟩; have HK0 := hid hk; clear hk)
  go_loopw [3, 4, 5] (fun v3 v4 z wr => ∃ (i : Nat) (ts : List It), z = .int .i64 i ∧ i ≤ n ∧ Hid (IRow Any wr v3 ts ∧ IRow Any wr v4 ts ∧ rightB ts = true ∧ Kp No w wr)) (fun _ _ z _ => n - (intOf z).toNat)
  case atStart => exact ⟨0, [], rfl, Nat.zero_le _, IRow.nil _ _, IRow.nil _ _, right_nil, HK0.out⟩
  case round =>
    obtain ⟨i, ts, rfl, hi, HT⟩ := hrel
    by_cases hlt : i < n
    · have hltI : (i : Int) < (n : Int) := by omega
      have hi0 : (0 : Int) ≤ (i : Int) := by omega
      obtain ⟨x, hx⟩ : ∃ x, l[i]? = some x := ⟨_, List.getElem?_eq_getElem (by rw [HN.out]; omega)⟩
      obtain ⟨u, c0, c1, c2, c3, c4, hb⟩ := HO.out _ HT.out.2.2.2 i x hx
      have hsx := HS.out x (List.mem_of_getElem? hx)
      have hts := right_short HT.out.2.2.1
      have htl := (right_rises HT.out.2.2.1).2
      obtain ⟨f, xs, hR⟩ : ∃ f xs, chF ts x.1 x.2.1 x.2.2.1 x.2.2.2.1 x.2.2.2.2 = (f, xs) := ⟨_, _, rfl⟩
      have hxs : ∀ y ∈ xs, ShortI y := by
        have := ch_short (k := x.1) (n := x.2.1) (q := x.2.2.2.1) hts hsx.1 hsx.2.2
        rw [hR] at this
        exact this
      have hxl : xs.length ≤ 100000 := by
        have := ch_len (t := ts) (k := x.1) (n := x.2.1) (p := x.2.2.1) (q := x.2.2.2.1) (b := x.2.2.2.2)
        rw [hR] at this
        simp only at this
        omega
      have HDO := hid ((doall_any wr u3 u ts x.1 x.2.1 x.2.2.1 x.2.2.2.1 x.2.2.2.2 HT.out.1 (by omega) hts hsx.1 hsx.2.1 hb).mono fun e w' hh => (show ∃ v', e = .returned (.tuple #[v', .int .i64 f]) ∧ IRow Any w' v' xs ∧ Kp No wr w' ∧ (f = 0 → rightB xs = true) by
        obtain ⟨⟨v', h1, h2, h3⟩, h4⟩ := hh
        rw [hR] at h1 h2 h4
        exact ⟨v', h1, h2, h3, fun h0 => (h4 h0).resolve_right (by rw [HT.out.2.2.1]; simp)⟩))
      have HRE := hid (fun (V : World) (kv : Kp No wr V) => (refall_any V u4 u ts x.1 x.2.1 x.2.2.1 x.2.2.2.1 x.2.2.2.2 (HT.out.2.1.kept kv) (by omega) hts hsx.1 hsx.2.1 (hb.kept kv)).mono fun e w' hh => (show ∃ v', e = .returned (.tuple #[v', .int .i64 f]) ∧ IRow Any w' v' xs ∧ Kp No V w' by
        rw [hR] at hh
        exact hh))
      have HSM := hid (fun (V : World) (x y : Value) (hx : IRow Any V x xs) (hy : IRow Any V y xs) => (show Calls Tryz.prog 10 #[x, y] V fun e w' => e = .returned (.bool true) ∧ Kp No V w' by
        have hh := rsame_any V x y xs xs hx hy hxl hxs
        rw [decide_eq_true rfl] at hh
        exact hh))
      have HRX := hid (fun (V : World) (y : Value) (hy : IRow Any V y xs) (hr : rightB xs = true) => (show Calls Tryz.prog 11 #[y] V fun e w' => e = .returned (.bool true) ∧ Kp No V w' by
        have hh := right_any V y xs hy hxl hxs
        rw [hr] at hh
        exact hh))
      have HRT := hid (fun (V : World) (kv : Kp No wr V) => (show Calls Tryz.prog 11 #[u3] V fun e w' => e = .returned (.bool true) ∧ Kp No V w' by
        have hh := right_any V u3 ts (HT.out.1.kept kv) (by omega) hts
        rw [HT.out.2.2.1] at hh
        exact hh))
      have hff : (f != f) = false := by simp
      obtain ⟨ab, cb, e⟩ := hb.form
      subst e
      have CE := hid (fun (V : World) (kv : Kp No wr V) => (show V.cell? ⟨g, o + i * 5, none⟩ = some (.int .i64 x.1) ∧ V.cell? ⟨g, o + i * 5 + 1, none⟩ = some (.int .i64 x.2.1) ∧ V.cell? ⟨g, o + i * 5 + 2, none⟩ = some (.string x.2.2.1) ∧ V.cell? ⟨g, o + i * 5 + 3, none⟩ = some (.string x.2.2.2.1) ∧ V.cell? ⟨g, o + i * 5 + 4, none⟩ = some (.slice ab x.2.2.2.2.length cb) from
        ⟨(kv.cell (p := ⟨g, o + i * 5, none⟩) (World.block_lt_of_cell? _ _ c0) (fun h => h)).trans c0, (kv.cell (p := ⟨g, o + i * 5 + 1, none⟩) (World.block_lt_of_cell? _ _ c1) (fun h => h)).trans c1, (kv.cell (p := ⟨g, o + i * 5 + 2, none⟩) (World.block_lt_of_cell? _ _ c2) (fun h => h)).trans c2, (kv.cell (p := ⟨g, o + i * 5 + 3, none⟩) (World.block_lt_of_cell? _ _ c3) (fun h => h)).trans c3, (kv.cell (p := ⟨g, o + i * 5 + 4, none⟩) (World.block_lt_of_cell? _ _ c4) (fun h => h)).trans c4⟩))
      clear hx hb hsx hts htl hR hxs hxl
      by_cases h0 : f = 0
      · subst h0
        go_wp2_with (first
          | (go_at_call 11; refine (HRX.out _ _ ((HX1.out.kept hkx).kept hky) HX3.out).mono ?_; rintro e w4 ⟨rfl, hk⟩; have HK4 := hid (HK3.out.andNone hk); have hkz := hk; clear hk)
          | (go_at_call 10; refine (HSM.out _ _ _ (HX1.out.kept hkx) HX2.out).mono ?_; rintro e w3 ⟨rfl, hk⟩; have HK3 := hid (HK2.out.andNone hk); have hky := hk; clear hk)
          | (go_at_call 9; refine (HRE.out _ HK1.out).mono ?_; rintro e w2 ⟨v2, rfl, hrow, hk⟩; have hkx := hk; have HK2 := hid (HK1.out.andNone hk); have HX2 := hid hrow; clear hk hrow d0 d1 d2 d3 d4)
          | (go_at_call 8; refine HDO.out.mono ?_; rintro e w1 ⟨v1, rfl, hrow, hk, hrr⟩; have HK1 := hid hk; have HX1 := hid hrow; have HX3 := hid (hrr (by first | rfl | trivial)); clear hk hrow hrr c0 c1 c2 c3 c4; obtain ⟨d0, d1, d2, d3, d4⟩ := CE.out _ HK1.out))
        go_roundw
        case rel => exact ⟨i + 1, xs, by go_num, by omega, ((HX1.out.kept hkx).kept hky).kept hkz, (HX2.out.kept hky).kept hkz, HX3.out, HT.out.2.2.2.andNone HK4.out⟩
        case measure => simp [intOf] <;> omega
      · have hf0 : (f == 0) = false := by simpa using h0
        go_wp2_with (first
          | (go_at_call 11; refine (HRT.out _ HK3.out).mono ?_; rintro e w4 ⟨rfl, hk⟩; have HK4 := hid (HK3.out.andNone hk); clear hk)
          | (go_at_call 10; refine (HSM.out _ _ _ (HX1.out.kept hkx) HX2.out).mono ?_; rintro e w3 ⟨rfl, hk⟩; have HK3 := hid (HK2.out.andNone hk); clear hk)
          | (go_at_call 9; refine (HRE.out _ HK1.out).mono ?_; rintro e w2 ⟨v2, rfl, hrow, hk⟩; have hkx := hk; have HK2 := hid (HK1.out.andNone hk); have HX2 := hid hrow; clear hk hrow d0 d1 d2 d3 d4)
          | (go_at_call 8; refine HDO.out.mono ?_; rintro e w1 ⟨v1, rfl, hrow, hk, hrr⟩; have HK1 := hid hk; have HX1 := hid hrow; clear hk hrow hrr c0 c1 c2 c3 c4; obtain ⟨d0, d1, d2, d3, d4⟩ := CE.out _ HK1.out))
        go_roundw
        case rel => exact ⟨i + 1, ts, by go_num, by omega, HT.out.1.kept HK4.out, HT.out.2.1.kept HK4.out, HT.out.2.2.1, HT.out.2.2.2.andNone HK4.out⟩
        case measure => simp [intOf] <;> omega
    · have hltI : ¬ (i : Int) < (n : Int) := by omega
      go_wp2_with (go_at_call 7; refine (HAL.out _).mono ?_; rintro e w6 ⟨rfl, hk⟩; have HK6 := hid (HT.out.2.2.2.andNone hk); clear hk)
      go_ret
      exact ⟨rfl, HK6.out⟩

end Go.Proofs.YtdooiflmjeibdaaGreatDoor.Tr
end

section
/-
  TreePlays: at any changes that came in.
-/
namespace Go.Proofs.YtdooiflmjeibdaaGreatDoor.Tr
open Go.RowKit

set_option maxHeartbeats 4000000 in
theorem opsP_big (w : World) (a0 : Option Addr) (len cap k : Nat) (h : k < len) :
    Calls Tryz.prog 6 #[.slice a0 len cap, .int .i64 (k : Int)] w fun e w' => e = .returned (.bool false) ∧ Kp No w w' := by
  have hkI : (k : Int) < (len : Int) := by omega
  clear h
  go_enter Tryz.func6, Tryz.ntmps6
  go_wp2
  go_ret
  exact ⟨rfl, Kp.refl _ _⟩
set_option maxHeartbeats 4000000 in
theorem opsP_nil (w : World) (a0 : Option Addr) (cap k : Nat) :
    Calls Tryz.prog 6 #[.slice a0 0 cap, .int .i64 (k : Int)] w fun e w' => e = .returned (.bool true) ∧ Kp No w w' := by
  have hkI : ¬ (k : Int) < ((0 : Nat) : Int) := by omega
  have hkJ : ¬ (k : Int) < 0 := by omega
  go_enter Tryz.func6, Tryz.ntmps6
  go_wp2_with fail
  go_loopw [5] (fun x wr => x = .int .i64 0 ∧ wr = w) (fun _ _ => 0)
  case atStart => exact ⟨rfl, rfl⟩
  case round =>
    obtain ⟨rfl, rfl⟩ := hrel
    go_wp2
    go_ret
    exact ⟨rfl, Kp.refl _ _⟩
set_option maxHeartbeats 4000000 in
theorem plays_nil (w : World) (a0 : Option Addr) (cap : Nat) :
    Calls Tryz.prog 4 #[.slice a0 0 cap] w fun e w' => e = .returned (.bool true) ∧ Kp No w w' := by
  have HOP := hid (opsP_nil w a0 cap 30)
  have HAL := hid alive_any
  go_enter Tryz.func4, Tryz.ntmps4
  go_wp2_with (go_at_call 6; refine HOP.out.mono ?_; rintro e w0 ⟨rfl, hk⟩; have HK0 := hid hk; clear hk)
  go_loopw [3, 4, 5] (fun _ _ z wr => z = .int .i64 0 ∧ Hid (Kp No w wr)) (fun _ _ _ _ => 0)
  case atStart => exact ⟨rfl, HK0.out⟩
  case round =>
    obtain ⟨rfl, HT⟩ := hrel
    go_wp2_with (go_at_call 7; refine (HAL.out _).mono ?_; rintro e w6 ⟨rfl, hk⟩; have HK6 := hid (HT.out.andNone hk); clear hk)
    go_ret
    exact ⟨rfl, HK6.out⟩
set_option maxHeartbeats 4000000 in
theorem plays_no (w : World) (v : Value) (h : Calls Tryz.prog 6 #[v, .int .i64 30] w fun e w' => e = .returned (.bool false) ∧ Kp No w w') :
    Calls Tryz.prog 4 #[v] w fun e w' => e = .returned (.bool true) ∧ Kp No w w' := by
  have HOP := hid h
  have HAL := hid alive_any
  clear h
  go_enter Tryz.func4, Tryz.ntmps4
  go_wp2_with (first
    | (go_at_call 7; refine (HAL.out _).mono ?_; rintro e w6 ⟨rfl, hk⟩; have HK6 := hid (HK0.out.andNone hk); clear hk)
    | (go_at_call 6; refine HOP.out.mono ?_; rintro e w0 ⟨rfl, hk⟩; have HK0 := hid hk; clear hk))
  go_ret
  exact ⟨rfl, HK6.out⟩

theorem plays_main (w : World) (a0 : Option Addr) (len cap : Nat) (l : List OpT) (hl : l.length = len) (hne : len ≠ 0 → ∃ g o, a0 = some ⟨g, o, none⟩ ∧ OpsAt w g o l) :
    Calls Tryz.prog 4 #[.slice a0 len cap] w fun e w' => e = .returned (.bool true) ∧ Kp No w w' := by
  by_cases h : 30 < len
  · exact plays_no w _ (opsP_big w a0 len cap 30 h)
  · by_cases h0 : len = 0
    · subst h0
      exact plays_nil w a0 cap
    · obtain ⟨g, o, rfl, ho⟩ := hne h0
      cases hok : opsB l 30 with
      | true => exact plays_some w g o cap len l hl ho hok
      | false =>
        refine plays_no w _ ?_
        have := ops_any w g o cap len l 30 (by decide) hl (by omega) ho
        rw [hok] at this
        exact this

end Go.Proofs.YtdooiflmjeibdaaGreatDoor.Tr
end

section
/-
  A world that holds the listed variables: the two tables of unicode/utf8.
-/
namespace Go.Proofs.YtdooiflmjeibdaaGreatDoor
open Go.ChangeShapes Go.WideShapes Go.ChangeAt Go.RowKit

theorem own : ownKnob Tryz.prog.godebug = none := by kernel_rfl
theorem laidOut : laidOutB Tryz.prog = true := by kernel_rfl
abbrev laidFive : List (String × DataW Unit) := Rows.treeChangesRow.laid
def lay (cells : Array Value) : Obj → Obj
  | .cells _ t frozen => .cells cells t frozen
  | o => o
def tabA : Array Value := ([128, 191, 160, 191, 128, 159, 144, 191, 128, 143, 0, 0, 0, 0, 0, 0, 0, 0, 0, 0, 0, 0, 0, 0, 0, 0, 0, 0, 0, 0, 0, 0].map fun n : Nat => Value.int .u8 (n : Int)).toArray
def tabF : Array Value := (Go.Pinned.utf8FirstZ.map fun n : Nat => Value.int .u8 (n : Int)).toArray
theorem laid_met (os : Os) (args : Array Value) : laidMet Tryz.prog laidFive (({ World.holding Tryz.prog os ⟨#[], #[], []⟩ with heap := ((World.holding Tryz.prog os ⟨#[], #[], []⟩).heap.modify 2 (lay tabA)).modify 1 (lay tabF) } : World).forCall (fun _ _ => 0) ⟨#[], args, []⟩).memory :=
  laidMet_of_run' 8 (by kernel_rfl) (by kernel_rfl)
end Go.Proofs.YtdooiflmjeibdaaGreatDoor
end

section
/-
  The closed facts of TreePlays's row, one by one: which functions her road reaches.
-/
namespace Go.Proofs.YtdooiflmjeibdaaGreatDoor.treePlays
open Go.ChangeShapes Go.WideShapes Go.ChangeAt Go.RowKit

theorem f10 : (Rows.treePlaysRow.inPlace == Tryz.prog.inPlace 4) = true := by kernel_rfl
theorem f11 : (Rows.treePlaysRow.unfollowed == Tryz.prog.unfollowed 4) = true := by kernel_rfl
theorem f12 : (Rows.treePlaysRow.recurses == Tryz.prog.recurses 4) = true := by kernel_rfl
theorem f13 : (Rows.treePlaysRow.named == Tryz.prog.varsNamed 4) = true := by kernel_rfl
theorem closed : joinedFacts Tryz.prog 4 Tryz.f4 (OpenSpec.ofChange Rows.treePlaysSpec).bare Rows.treePlaysRow = true := by
  unfold joinedFacts
  rw [f10, f11, f12, f13]
  kernel_rfl
end Go.Proofs.YtdooiflmjeibdaaGreatDoor.treePlays
end
