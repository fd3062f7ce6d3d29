/- Of the proof: the texts IxSafe, FrOpen, SgOpen, SimOpen, PkLaid, IxSafeFacts, one behind the other. -/
import Derived.Test.YthmimipoooemjaaGreatDoorAbb
import Derived.Test.YthmimipoooemjaaGreatDoorB15
import Derived.Test.YthmimipoooemjaaGreatDoorB16
import Derived.Test.YthmimipoooemjaaGreatDoorB17
import Derived.Test.YthmimipoooemjaaGreatDoorB12
import Derived.Test.YthmimipoooemjaaGreatDoorB13
import Derived.Test.YthmimipoooemjaaGreatDoorB6
import Derived.ProofKit
import Derived.OpenShut
import Derived.Deep.Slices
import Derived.Deep.Strs
import Derived.Lib.SmallJoins
import Derived.WideKeyArr2
import Derived.Test.YthmimipoooemjaaGreatDoorB10
import Derived.Test.YthmimipoooemjaaGreatDoorCards
import Derived.Test.YthmimipoooemjaaGreatDoorTie
import Derived.Deep.DeepHandedRow
import Derived.Lib.LaidTab
import Derived.MakeChecks
import Derived.Lib.TrailingZeros
import Derived.Test.YthmimipoooemjaaGreatDoorChecked
import Derived.WalkKit
section
/-
  IndexSafe, walked.
-/
namespace Go.Proofs.YthmimipoooemjaaGreatDoor.Ix
open Go.RowKit Go.Shelf
open Sim (hid Kp No PS Done Blk nm ByP finds pBytes pUp pArm)

theorem form_len {e : Sg.Ent} (he : Sg.EOk e) : (Tlv.formOf 2 (Sg.entT e)).length ≤ 71 := by
  obtain ⟨h1, _, h3⟩ := Sg.ent_bsz he.1 (room := 68) (deep := 1) (by omega) (by omega)
  have h4 := Tlv.bsz_len 2 _ _ _ h1
  have h5 : (Tlv.formOf 2 (Sg.entT e)).length = 3 + (Tlv.bodyOf 2 (Sg.entT e)).length := by simp [Tlv.formOf]; omega
  omega
theorem forms_len : ∀ (d : List Sg.Ent), (∀ e ∈ d, Sg.EOk e) → (((d.map Sg.entT).map (Tlv.formOf 2)).flatten).length ≤ 71 * d.length
  | [], _ => by simp
  | e :: d, h => by
    have h1 := form_len (h e (by simp))
    have h2 := forms_len d (fun x hx => h x (by simp [hx]))
    simp only [List.map_cons, List.flatten_cons, List.length_append, List.length_cons]
    omega
theorem seal_len {d : List Sg.Ent} (h : ∀ e ∈ d, Sg.EOk e) : (nats (Sg.sealE d)).length ≤ 71 * d.length + 7 := by
  have h1 := forms_len d h
  have h2 : Tlv.bodyOf 3 (Sg.entsT d) = ((d.map Sg.entT).map (Tlv.formOf 2)).flatten := Tlv.bodyOf_kids rfl
  have h3 : (Sg.formE d).length = 3 + (Tlv.bodyOf 3 (Sg.entsT d)).length := by rw [Sg.formE]; simp [Tlv.formOf]; omega
  rw [nats_length, Sg.sealE, sealI_length, h3, h2]
  omega

/-- The list that the first save leaves. -/
theorem mid_start {A B : List Nat} {q : PS} {x : Nat} {N : Nat} (w : Went A (Sim.startPS 99000) x 6 q) (hi : Sim.PInv N q) (k : Int) : Mid A B x 0 1 { q with armed := true, left := k.toNat } := by
  have hs := hi.seen_eq
  rw [w.chg6 rfl, seen_one w] at hs
  refine ⟨w.down, w.room, fun _ => hs.symm, w.chg6 rfl, hi.seen_eq, w.fsafe (by omega), by omega, by omega, by omega, by omega, by omega⟩

theorem armed_ok {A : List Nat} {q : PS} {x : Nat} (w : Went A (Sim.startPS 99000) x 6 q) {k : Int} (hk : 0 ≤ k) : pArm k q = (0, { q with armed := true, left := k.toNat }) := by
  rw [pArm, if_neg (by rw [wrongs_zero w.down (by simp)]; simp), if_neg (by omega)]

set_option maxHeartbeats 4000000 in
set_option maxRecDepth 100000 in
/-- Where something is not light: alive. -/
theorem safe_dark (w : World) (a1 a2 a3 : Option Addr) (l1 l2 l3 c1 c2 c3 : Nat) (k z : Int) (hd : (30 < (l1 : Int)) ∨ (¬ 30 < (l1 : Int) ∧ 30 < (l2 : Int)) ∨ (¬ 30 < (l1 : Int) ∧ ¬ 30 < (l2 : Int) ∧ k < 0) ∨ (¬ 30 < (l1 : Int) ∧ ¬ 30 < (l2 : Int) ∧ ¬ k < 0 ∧ 60 < (l3 : Int))) :
    Calls Tryz.prog 6 #[.slice a1 l1 c1, .slice a2 l2 c2, .int .i64 k, .int .i64 z, .slice a3 l3 c3] w fun e w' => e = .returned (.bool true) ∧ Kp No w w' := by
  have HA := hid (alive_any w)
  rcases hd with h1 | ⟨h1, h2⟩ | ⟨h1, h2, h3⟩ | ⟨h1, h2, h3, h4⟩
  all_goals
    go_enter Tryz.func6, Tryz.ntmps6
    go_wp2_with fail
    refine HA.out.mono ?_
    rintro e w1 ⟨rfl, hk⟩
    have HK := hid hk
    clear hk
    go_wp2_with fail
    go_ret
    exact ⟨rfl, HK.out⟩

set_option maxHeartbeats 8000000 in
set_option maxRecDepth 100000 in
theorem safe_light (w : World) (a1 a2 a3 : Option Addr) (c1 c2 c3 L1 L2 L3 : Nat) (l m : List Sg.Ent) (cuts : List Int) (k z : Int) (hk0 : 0 ≤ k) (hkm : k ≤ 9223372036854775807) (e1 : l.length = L1) (e2 : m.length = L2)
    (hl : Sg.EV (fun g => g < w.heap.size) w (.slice a1 L1 c1) l) (hm : Sg.EV (fun g => g < w.heap.size) w (.slice a2 L2 c2) m) (hc : Sim.IntsAt (· < w.heap.size) w (.slice a3 L3 c3) cuts) (h1 : L1 ≤ 30) (h2 : L2 ≤ 30) (h3 : L3 ≤ 60) :
    Calls Tryz.prog 6 #[.slice a1 L1 c1, .slice a2 L2 c2, .int .i64 k, .int .i64 z, .slice a3 L3 c3] w fun e w' => e = .returned (.bool true) ∧ Kp No w w' := by
  have t1 : ¬ 30 < (L1 : Int) := by omega
  have t2 : ¬ 30 < (L2 : Int) := by omega
  have t3 : ¬ 60 < (L3 : Int) := by omega
  have t4 : ¬ k < 0 := by omega
  have HL := hid hl
  have HM := hid hm
  have HC := hid hc
  have HE := hid (And.intro e1 e2)
  have HA := hid alive_any
  clear hl hm hc e1 e2
  go_enter Tryz.func6, Tryz.ntmps6
  go_wp2_with fail
  refine (Sg.rsort_any w _ l _ HL.out (by have := HE.out.1; omega)).mono ?_
  rintro e w1 ⟨r1, A, rfl, hsA, hlA, hrA, hoA, hkA⟩
  have hokA : ∀ e ∈ A, Sg.EOk e := fun e he => HL.out.ok e (by
    have hf := hsA.1.get he
    rw [hsA.2] at hf
    exact List.mem_of_find?_eq_some hf)
  have HVA : Hid (Sg.EV (fun g => w.heap.size ≤ g ∧ g < w1.heap.size) w1 r1 A) := Sg.ev_of_rowT hrA hokA (fun x hx => ⟨hoA x hx, Sim.Row.lt hrA x hx⟩)
  have HK1 := hid hkA
  have HOA : Hid ((∀ e ∈ A, Sg.EOk e) ∧ A.length ≤ 30) := ⟨hokA, by have := HE.out.1; omega⟩
  clear hsA hlA hrA hoA hkA hokA
  obtain ⟨ra, rc, hr, _⟩ := id HVA.out
  obtain ⟨nA, hnA⟩ : ∃ n, A.length = n := ⟨_, rfl⟩
  rw [hnA] at hr
  subst hr
  clear hnA
  go_wp2_with fail
  refine (Sg.rsort_any w1 _ m _ (HM.out.kept HK1.out) (by have := HE.out.2; omega)).mono ?_
  rintro e w2 ⟨r2, B, rfl, hsB, hlB, hrB, hoB, hkB⟩
  have hokB : ∀ e ∈ B, Sg.EOk e := fun e he => HM.out.ok e (by
    have hf := hsB.1.get he
    rw [hsB.2] at hf
    exact List.mem_of_find?_eq_some hf)
  have HVB : Hid (Sg.EV (fun g => w.heap.size ≤ g ∧ g < w2.heap.size) w2 r2 B) := Sg.ev_of_rowT hrB hokB (fun x hx => ⟨Nat.le_trans HK1.out.size (hoB x hx), Sim.Row.lt hrB x hx⟩)
  have HVA2 : Hid (Sg.EV (fun g => w.heap.size ≤ g ∧ g < w2.heap.size) w2 (.slice ra nA rc) A) := (HVA.out.kept hkB).mono (fun g hg => ⟨hg.1, Nat.lt_of_lt_of_le hg.2 hkB.size⟩)
  have HK2 := hid (HK1.out.andNone hkB)
  have HOB : Hid ((∀ e ∈ B, Sg.EOk e) ∧ B.length ≤ 30) := ⟨hokB, by have := HE.out.2; omega⟩
  clear hsB hlB hrB hoB hkB hokB HVA HK1 HL HM HE
  obtain ⟨rb, rd, hr, _⟩ := id HVB.out
  obtain ⟨nB, hnB⟩ : ∃ n, B.length = n := ⟨_, rfl⟩
  rw [hnB] at hr
  subst hr
  clear hnB
  go_wp2_with fail
  refine (Sg.rright_any w2 _ A _ HVA2.out (by have := HOA.out.2; omega)).mono ?_
  rintro e w3 ⟨⟨ba, rfl, hba⟩, hk3⟩
  have HK3 := hid (HK2.out.andNone hk3)
  have HVA3 := hid (HVA2.out.kept hk3)
  have HVB3 := hid (HVB.out.kept hk3)
  have hs3 := hk3.size
  have HBA := hid hba
  clear hk3 hba HVA2 HVB HK2
  cases ba with
  | false =>
    go_wp2_with fail
    refine (HA.out w3).mono ?_
    rintro e w4 ⟨rfl, hk4⟩
    have HK4 := hid (HK3.out.andNone hk4)
    clear hk4
    go_wp2_with fail
    go_ret
    exact ⟨rfl, HK4.out⟩
  | true =>
    have HRA : Hid (Sg.RightP A) := HBA.out.1 rfl
    clear HBA
    go_wp2_with fail
    refine (Sg.rright_any w3 _ B _ HVB3.out (by have := HOB.out.2; omega)).mono ?_
    rintro e w4 ⟨⟨bb, rfl, hbb⟩, hk4⟩
    have HK4 := hid (HK3.out.andNone hk4)
    have HVA4 := hid (HVA3.out.kept hk4)
    have HVB4 := hid (HVB3.out.kept hk4)
    have hs4 := hk4.size
    have HBB := hid hbb
    clear hk4 hbb HVA3 HVB3 HK3
    cases bb with
    | false =>
      go_wp2_with fail
      refine (HA.out w4).mono ?_
      rintro e w5 ⟨rfl, hk5⟩
      have HK5 := hid (HK4.out.andNone hk5)
      clear hk5
      go_wp2_with fail
      go_ret
      exact ⟨rfl, HK5.out⟩
    | true =>
      have HRB : Hid (Sg.RightP B) := HBB.out.1 rfl
      clear HBB
      go_wp2_with fail
      refine (Sim.new_yes 99000 (by omega) w4).mono ?_
      rintro e w5 ⟨rfl, hS5, hk5⟩
      have HS5 : Hid (Sim.Sys (· = w4.heap.size) 0 w5 w4.heap.size (Sim.startPS 99000)) := hS5
      have HC5 : Hid (Kp (fun y => w4.heap.size ≤ y) w4 w5) := hk5.ofNo
      have hs5 : w4.heap.size < w5.heap.size := hS5.lt _ rfl
      have hw4 := HK4.out.size
      clear hS5 hk5
      go_wp2_with fail
      refine (Crc.new_any w5).mono ?_
      rintro e w6 ⟨rfl, hb6, hz6, ht6⟩
      have HS6 := hid (HS5.out.kept (Kp.below hb6))
      have HT6 : Hid (TabX w6 w5.heap.size) := ⟨0, 0, .inl rfl, ht6⟩
      have HC6 := hid (HC5.out.andNone (Kp.below hb6))
      have hs6 : w5.heap.size < w6.heap.size := by omega
      clear hb6 hz6 ht6 HS5 HC5
      have HUP : Hid (∀ V, Kp (fun y => w4.heap.size ≤ y) w4 V → Sg.EV (fun g => w.heap.size ≤ g ∧ g < w2.heap.size) V (.slice ra nA rc) A ∧ Sg.EV (fun g => w.heap.size ≤ g ∧ g < w2.heap.size) V (.slice rb nB rd) B ∧ Sim.IntsAt (· < w.heap.size) V (.slice a3 L3 c3) cuts ∧ Kp No w V) := fun V hV =>
        ⟨HVA4.out.kp hV (fun g hg hL => by omega), HVB4.out.kp hV (fun g hg hL => by omega), (HC.out.kp HK4.out (fun _ hx => hx.elim)).kp hV (fun x hx hq => by omega), HK4.out.trans hV (fun y hy => .inr (by omega))⟩
      clear HVA4 HVB4 HC HK4
      go_wp2_with fail
      refine (Sg.own_any w6 _ A _ (HUP.out w6 HC6.out).1 (by have := HOA.out.2; omega)).mono ?_
      rintro e w7 ⟨r7, rfl, hr7, ho7, hk7⟩
      have HV7 : Hid (Sg.EV (fun g => w6.heap.size ≤ g) w7 r7 A) := Sg.ev_of_row hr7 HOA.out.1 ho7
      have HS7 := hid (HS6.out.kept hk7)
      have HT7 := hid (HT6.out.kp hk7 (fun h => h))
      have HC7 := hid (HC6.out.andNone hk7)
      have hs7 := hk7.size
      clear hr7 ho7 hk7 HS6 HT6 HC6
      obtain ⟨a7, c7, hr, _⟩ := id HV7.out
      obtain ⟨n7, hn7⟩ : ∃ n, A.length = n := ⟨_, rfl⟩
      rw [hn7] at hr
      subst hr
      clear hn7
      go_wp2_with fail
      have HSA : Hid ((nats (Sg.sealE A)).length ≤ 2137) := by have h1 := seal_len HOA.out.1; have h2 := HOA.out.2; rw [Hid]; omega
      have HSB : Hid ((nats (Sg.sealE B)).length ≤ 2137) := by have h1 := seal_len HOB.out.1; have h2 := HOB.out.2; rw [Hid]; omega
      refine (save_any w7 w4.heap.size w5.heap.size (Sim.startPS 99000) _ A HS7.out (by omega) HT7.out (by omega) HV7.out HRA.out (by have := HSA.out; omega) (nats_lt HOA.out.1 HRA.out.1)).mono ?_
      rintro e w8 ⟨r8, hsv8, rfl, ht8, P8, hS8, hk8, hP8⟩
      obtain ⟨hr8, x8, _, hwent⟩ := save_ok ⟨rfl, rfl, rfl⟩ (by rw [start_used]; show 0 + (nats (Sg.sealE A)).length ≤ 99000; have := HSA.out; omega) hsv8
      have HMID : Hid (Mid (nats (Sg.sealE A)) (nats (Sg.sealE B)) x8 0 1 { r8.2 with armed := true, left := k.toNat }) := mid_start hwent hS8.inv k
      have HC8 : Hid (Kp (fun y => w4.heap.size ≤ y) w4 w8) := HC7.out.trans hk8 (fun y hy => .inl (by rcases hy with e | e <;> omega))
      have HP8 : Hid (∀ y, P8 y → w4.heap.size ≤ y ∧ y ≠ w5.heap.size) := fun y hy => by
        rcases hP8 y hy with e | e
        · exact ⟨by omega, by omega⟩
        · exact ⟨by omega, by omega⟩
      have HARM := hid (Sim.arm_any w8 w4.heap.size r8.2 k hkm hS8 (by omega))
      rw [armed_ok hwent hk0] at HARM
      have HT8 := hid ht8
      have hs8 := hk8.size
      rw [hr8]
      clear hsv8 ht8 hS8 hk8 hP8 hr8 hwent HS7 HT7 HC7 HV7
      obtain ⟨p1, hp1⟩ : ∃ p1 : PS, { r8.2 with armed := true, left := k.toNat } = p1 := ⟨_, rfl⟩
      rw [hp1] at HMID HARM
      clear hp1
      go_wp2_with fail
      refine HARM.out.mono ?_
      rintro e w9 ⟨rfl, P9, hS9, hk9, hP9⟩
      have HC9 : Hid (Kp (fun y => w4.heap.size ≤ y) w4 w9) := HC8.out.trans hk9 (fun y hy => .inl (HP8.out y hy).1)
      have HT9 := hid (HT8.out.kp hk9 (fun e => (HP8.out _ e).2 rfl))
      have HP9 : Hid (∀ y, P9 y → w4.heap.size ≤ y ∧ y ≠ w5.heap.size) := fun y hy => by
        rcases hP9 y hy with e | e
        · exact HP8.out y e
        · exact ⟨by omega, by omega⟩
      have HS9 := hid hS9
      have hs9 := hk9.size
      clear hS9 hk9 hP9 HC8 HT8 HP8 HARM
      go_wp2_with fail
      refine (Sg.own_any w9 _ B _ (HUP.out w9 HC9.out).2.1 (by have := HOB.out.2; omega)).mono ?_
      rintro e w10 ⟨r10, rfl, hr10, ho10, hk10⟩
      have HV10 : Hid (Sg.EV (fun g => w9.heap.size ≤ g) w10 r10 B) := Sg.ev_of_row hr10 HOB.out.1 ho10
      have HS10 := hid (HS9.out.kept hk10)
      have HT10 := hid (HT9.out.kp hk10 (fun h => h))
      have HC10 := hid (HC9.out.andNone hk10)
      have hs10 := hk10.size
      clear hr10 ho10 hk10 HS9 HT9 HC9
      obtain ⟨a10, c10, hr, _⟩ := id HV10.out
      obtain ⟨n10, hn10⟩ : ∃ n, B.length = n := ⟨_, rfl⟩
      rw [hn10] at hr
      subst hr
      clear hn10
      go_wp2_with fail
      refine (save_any w10 w4.heap.size w5.heap.size p1 _ B HS10.out (by omega) HT10.out (fun e => (HP9.out _ e).2 rfl) HV10.out HRB.out (by have := HSB.out; omega) (nats_lt HOB.out.1 HRB.out.1)).mono ?_
      rintro e w11 ⟨r11, hsv11, rfl, ht11, P11, hS11, hk11, hP11⟩
      have HAG := hid (save_again HMID.out (by have := HSA.out; have := HSB.out; omega) hsv11)
      have HC11 : Hid (Kp (fun y => w4.heap.size ≤ y) w4 w11) := HC10.out.trans hk11 (fun y hy => .inl (by
        rcases hy with e | e
        · exact (HP9.out y e).1
        · omega))
      have HP11 : Hid (∀ y, P11 y → w4.heap.size ≤ y ∧ y ≠ w5.heap.size) := fun y hy => by
        rcases hP11 y hy with e | e
        · exact HP9.out y e
        · exact ⟨by omega, by omega⟩
      have HUPC := hid (Sim.up_any w11 w4.heap.size r11.2 z _ cuts hS11 (HUP.out w11 HC11.out).2.2.1 (fun x hx e => by have := (HP11.out x e).1; omega))
      have HT11 := hid ht11
      have hs11 := hk11.size
      clear hsv11 ht11 hS11 hk11 hP11 HMID HP9 HC10 HS10 HT10 HV10
      have HLD : Hid (∃ D, (D = A ∨ D = B) ∧ (r11.1 = 0 ∧ D = B ∨ r11.1 = 12) ∧ (∀ e ∈ D, Sg.EOk e) ∧ Sg.RightP D ∧ D.length ≤ 30 ∧ finds (pUp z cuts r11.2) nI = 0 ∧ pBytes nI (pUp z cuts r11.2) = nats (Sg.sealE D)) := by
        rcases HAG.out with ⟨h0, hL⟩ | ⟨h0, hL⟩
        · obtain ⟨hf, hb⟩ := lead_up hL z cuts
          exact ⟨B, .inr rfl, .inl ⟨h0, rfl⟩, HOB.out.1, HRB.out, HOB.out.2, hf, by rcases hb with h | h <;> exact h⟩
        · obtain ⟨hf, hb⟩ := lead_up hL z cuts
          rcases hb with h | h
          · exact ⟨A, .inl rfl, .inr h0, HOA.out.1, HRA.out, HOA.out.2, hf, h⟩
          · exact ⟨B, .inr rfl, .inr h0, HOB.out.1, HRB.out, HOB.out.2, hf, h⟩
      clear HAG HSA HSB
      obtain ⟨p12, hp12⟩ : ∃ q, pUp z cuts r11.2 = q := ⟨_, rfl⟩
      obtain ⟨F, hF⟩ : ∃ F, r11.1 = F := ⟨_, rfl⟩
      rw [hp12] at HUPC
      rw [hp12, hF] at HLD
      rw [hF]
      clear hp12 hF
      go_wp2_with fail
      refine HUPC.out.mono ?_
      rintro e w12 ⟨rfl, P12, hS12, hk12, hP12⟩
      have HC12 : Hid (Kp (fun y => w4.heap.size ≤ y) w4 w12) := HC11.out.trans hk12 (fun y hy => .inl (HP11.out y hy).1)
      have HT12 := hid (HT11.out.kp hk12 (fun e => (HP11.out _ e).2 rfl))
      obtain ⟨D, hDAB, hDF, hDo, hDr, hDl, hDf, hDb⟩ := HLD.out
      have HLB := hid (load_back w12 w4.heap.size w5.heap.size p12 D hS12 HT12.out hDf hDo hDr hDb)
      have HD := hid (And.intro hDAB (And.intro hDo hDl))
      have hs12 := hk12.size
      have HDF := hid hDF
      clear hS12 hk12 hP12 HLD hDAB hDF hDo hDr hDl hDf hDb HUPC HC11 HT11 HP11
      go_wp2_with fail
      refine HLB.out.mono ?_
      rintro e w13 ⟨v13, rfl, hv13, hk13, _⟩
      have HC13 : Hid (Kp (fun y => w4.heap.size ≤ y) w4 w13) := HC12.out.trans hk13 (fun y hy => .inl (by omega))
      have HBK := hid (Sg.back_any w13 v13 D _ hv13 (by have := HD.out.2.2; omega))
      obtain ⟨a13, c13, hr, _⟩ := id hv13
      obtain ⟨n13, hn13⟩ : ∃ n, D.length = n := ⟨_, rfl⟩
      rw [hn13] at hr
      subst hr
      clear hn13 hv13 hk13 HLB HC12 HT12
      go_wp2_with fail
      refine HBK.out.mono ?_
      rintro e w14 ⟨r14, rfl, hr14, ho14, hk14⟩
      have HC14 := hid (HC13.out.andNone hk14)
      have HV14 : Hid (Sg.EV (fun _ => True) w14 r14 D) := Sg.ev_of_rowT hr14 HD.out.2.1 (fun _ _ => trivial)
      clear hr14 ho14 hk14 HC13 HBK
      obtain ⟨a14, c14, hr, _⟩ := id HV14.out
      obtain ⟨n14, hn14⟩ : ∃ n, D.length = n := ⟨_, rfl⟩
      rw [hn14] at hr
      subst hr
      clear hn14
      have HSMA := hid (Sg.same_any w14 _ _ D A _ _ HV14.out (HUP.out w14 HC14.out).1 (by have := HD.out.2.2; omega))
      have HSMB := hid (fun V (hV : Kp No w14 V) => Sg.same_any V _ _ D B _ _ (HV14.out.kept hV) (HUP.out V (HC14.out.andNone hV)).2.1 (by have := HD.out.2.2; omega))
      have HKF := hid (fun V (hV : Kp No w14 V) => (HUP.out V (HC14.out.andNone hV)).2.2.2)
      rcases HDF.out with ⟨rfl, hDB⟩ | rfl
      · have e1 : decide (D = B) = true := by simp [hDB]
        rw [e1] at HSMB
        clear HSMA HUP HC14 HV14 hDB e1 HDF HD
        go_wp2_with fail
        refine (HSMB.out w14 (Kp.refl _ _)).mono ?_
        rintro e w15 ⟨rfl, hk15⟩
        have HK15 := hid hk15
        clear hk15
        go_wp2_with fail
        refine (HA.out w15).mono ?_
        rintro e w16 ⟨rfl, hk16⟩
        have HK16 := hid (HKF.out w16 (HK15.out.andNone hk16))
        clear hk16
        go_wp2_with fail
        go_ret
        exact ⟨rfl, HK16.out⟩
      · have HDAB := hid HD.out.1
        clear HUP HC14 HV14 HDF HD
        cases hq : decide (D = A) with
        | true =>
          rw [hq] at HSMA
          clear hq HSMB
          go_wp2_with fail
          refine HSMA.out.mono ?_
          rintro e w15 ⟨rfl, hk15⟩
          have HK15 := hid hk15
          clear hk15
          go_wp2_with fail
          refine (HA.out w15).mono ?_
          rintro e w16 ⟨rfl, hk16⟩
          have HK16 := hid (HKF.out w16 (HK15.out.andNone hk16))
          clear hk16
          go_wp2_with fail
          go_ret
          exact ⟨rfl, HK16.out⟩
        | false =>
          have e2 : decide (D = B) = true := by
            rcases HDAB.out with h | h
            · simp [h] at hq
            · simp [h]
          rw [hq] at HSMA
          rw [e2] at HSMB
          clear hq e2
          go_wp2_with fail
          refine HSMA.out.mono ?_
          rintro e w15 ⟨rfl, hk15⟩
          have HK15 := hid hk15
          clear hk15
          go_wp2_with fail
          refine (HSMB.out w15 HK15.out).mono ?_
          rintro e w16 ⟨rfl, hk16⟩
          have HK16 := hid (HK15.out.andNone hk16)
          clear hk16
          go_wp2_with fail
          refine (HA.out w16).mono ?_
          rintro e w17 ⟨rfl, hk17⟩
          have HK17 := hid (HKF.out w17 (HK16.out.andNone hk17))
          clear hk17
          go_wp2_with fail
          go_ret
          exact ⟨rfl, HK17.out⟩

end Go.Proofs.YthmimipoooemjaaGreatDoor.Ix
end

section
/-
  Records that came in, opened.
-/
namespace Go.Proofs.YthmimipoooemjaaGreatDoor
open Go.RowKit Go.ChangeShapes Go.WideShapes

theorem mapM_each {α β : Type} {f : α → Option β} : ∀ (L : List α) (ys : List β), L.mapM f = some ys → ∀ i ∈ L, ∃ y, f i = some y
  | [], _, _, i, hi => by simp at hi
  | a :: L, ys, h, i, hi => by
    rw [List.mapM_cons] at h
    simp only [bind, Option.bind_eq_some_iff, pure, Option.some.injEq] at h
    obtain ⟨y, hy, zs, hzs, _⟩ := h
    rcases List.mem_cons.1 hi with rfl | hi
    · exact ⟨y, hy⟩
    · exact mapM_each L zs hzs i hi

section
variable {H : Type} {enc : TypeId × Value → H} {P : Program} {W : World} {base : Nat} {sp : Nat → Bool} {held : Bool} {t e : TypeId} {n : Nat} {q : IntKind}
/-- The cells of an array of integers that came in. -/
theorem arr_ints (hu : P.underlying t = some (.array n e)) (he : P.underlying e = some (.int q)) (h1 : P.cellsOf e = 1) {fuel : Nat} {cs : List Value} {x : DataW H × List MemPlace} (hl : cs.length = n)
    (h : DataW.trod enc P W base sp held fuel t cs = some x) : ∃ zs : List Int, cs = zs.map (fun z => Value.int q z) ∧ zs.length = n ∧ ∀ z ∈ zs, (Lit.int q z).wf = true := by
  cases fuel with
  | zero => simp [DataW.trod] at h
  | succ m =>
    rw [DataW.trod_step] at h
    unfold DataW.trodStep at h
    simp only [hu] at h
    split at h
    · simp only [Option.map_eq_some_iff] at h
      obtain ⟨ys, hy, _⟩ := h
      have hE : ∀ i, i < n → ∃ z, cs[i]? = some (.int q z) ∧ (Lit.int q z).wf = true := fun i hi => by
        obtain ⟨y, hy⟩ := mapM_each _ ys hy i (List.mem_range.2 hi)
        obtain ⟨a, ea, _, wa⟩ := DataW.trod_int he hy
        rw [h1, Nat.mul_one] at ea
        refine ⟨a, ?_, wa⟩
        have h := congrArg (fun l : List Value => l[0]?) ea
        simpa [List.getElem?_take, List.getElem?_drop] using h
      refine ⟨cs.map intOf, ?_, by simpa using hl, ?_⟩
      · apply List.ext_getElem?
        intro i
        by_cases hi : i < n
        · obtain ⟨z, hz, _⟩ := hE i hi
          simp [hz, intOf]
        · have : cs[i]? = none := List.getElem?_eq_none (by omega)
          simp [this]
      · intro z hz
        obtain ⟨x, hx, rfl⟩ := List.mem_map.1 hz
        obtain ⟨i, hi, rfl⟩ := List.getElem_of_mem hx
        obtain ⟨z, hz, hw⟩ := hE i (by omega)
        rw [List.getElem?_eq_getElem hi] at hz
        simp only [Option.some.injEq] at hz
        rw [hz]
        exact hw
    · simp at h
end
theorem spot_none {w : World} {x : Addr} {v : Value} (c0 : w.cell? (x.add 0) = some v) : x.spot = none := by
  have e : x.add 0 = x := rfl
  rw [e] at c0
  unfold World.cell? at c0
  split at c0
  · split at c0
    · cases c0
    · rename_i hs; simpa using hs
  · cases c0

theorem addr_plus (g o i : Nat) : (⟨g, o, none⟩ : Addr).add i = ⟨g, o + i, none⟩ := by unfold Addr.add; split <;> simp_all

theorem u8_wf {y : Int} (h : (Lit.int .u8 y).wf = true) : 0 ≤ y ∧ y ≤ 255 := by
  have hmin : IntKind.u8.min = 0 := rfl
  have hmax : IntKind.u8.max = 255 := rfl
  simp only [Lit.wf, Bool.and_eq_true, decide_eq_true_eq] at h
  omega

theorem i64_wf {y : Int} (h : (Lit.int .i64 y).wf = true) : -9223372036854775808 ≤ y ∧ y ≤ 9223372036854775807 := by
  have hmin : IntKind.i64.min = -9223372036854775808 := rfl
  have hmax : IntKind.i64.max = 9223372036854775807 := rfl
  simp only [Lit.wf, Bool.and_eq_true, decide_eq_true_eq] at h
  omega
end Go.Proofs.YthmimipoooemjaaGreatDoor
end

section
/-
  A list of the document's entries that came in, opened.
-/
namespace Go.Proofs.YthmimipoooemjaaGreatDoor.Sg
open Go.RowKit Go.ChangeShapes Go.WideShapes

theorem mapM_get {α β : Type} {f : α → Option β} : ∀ (L : List α) (ys : List β), L.mapM f = some ys → ∀ i : Nat, ys[i]? = (L[i]?).bind f
  | [], ys, h, i => by
    simp only [List.mapM_nil, pure, Option.some.injEq] at h
    subst h
    simp
  | a :: L, ys, h, i => by
    rw [List.mapM_cons] at h
    simp only [bind, Option.bind_eq_some_iff, pure, Option.some.injEq] at h
    obtain ⟨y, hy, zs, hzs, rfl⟩ := h
    cases i with
    | zero => simp [hy]
    | succ i => simpa using mapM_get L zs hzs i

theorem cells_get {w : World} {base n : Nat} {a : Addr} {cs : List Value} (h : w.cells? base a n = some cs) (i : Nat) (hi : i < n) : w.cell? (a.add i) = cs[i]? := by
  unfold World.cells? at h
  split at h
  · have := mapM_get _ _ h i
    rw [List.getElem?_range hi] at this
    exact this.symm
  · cases h

theorem trod_struct2 {H : Type} {enc : TypeId × Value → H} {P : Program} {w : World} {base : Nat} {spare : Nat → Bool} {held : Bool} {t : TypeId} {f0 f1 : Field} {fuel : Nat} {cs : List Value} {x : DataW H × List MemPlace} (ht : P.underlying t = some (.struct #[f0, f1])) (h : DataW.trod enc P w base spare held fuel t cs = some x) :
    ∃ y0 y1 n, cs.length = P.cellsOf t ∧ DataW.trod enc P w base spare held n f0.type ((cs.drop f0.offset).take (P.cellsOf f0.type)) = some y0 ∧
      DataW.trod enc P w base spare held n f1.type ((cs.drop f1.offset).take (P.cellsOf f1.type)) = some y1 := by
  obtain ⟨xs, n, _, rfl, hl, hlen, hf⟩ := DataW.trod_struct ht h
  match xs, hlen with
  | [y0, y1], _ => exact ⟨y0, y1, n, hl, by simpa using hf 0 f0 rfl, by simpa using hf 1 f1 rfl⟩

set_option maxRecDepth 100000 in
/-- An entry's cells that came in. -/
theorem ent_cells {H : Type} {enc : TypeId × Value → H} {W : World} {fuel : Nat} {cs : List Value} {x : DataW H × List MemPlace} (h : DataW.trod enc Tryz.prog W 0 (fun _ => true) true fuel 159 cs = some x) :
    ∃ e : Ent, cs = entC e ∧ EOk e := by
  obtain ⟨y0, y1, n, hl, h0, h1⟩ := trod_struct2 Tryz.underlying159 h
  have e75 : Tryz.prog.cellsOf 159 = 35 := by kernel_rfl
  have e46 : Tryz.prog.cellsOf 53 = 32 := by kernel_rfl
  have e73 : Tryz.prog.cellsOf 157 = 3 := by kernel_rfl
  have e3 : Tryz.prog.cellsOf 3 = 1 := by kernel_rfl
  rw [e75] at hl
  simp only [e46, e73] at h0 h1
  obtain ⟨nm, hnm, hnl, hwf⟩ := arr_ints Tryz.underlying53 Tryz.underlying5 (by kernel_rfl) (by simp; omega) h0
  obtain ⟨_, _, _, m, _, _, p0, p1, p2⟩ := Go.Deep.trod_struct3 Tryz.underlying157 h1
  simp only [e3] at p0 p1 p2
  obtain ⟨p, hp, _, _⟩ := DataW.trod_int Tryz.underlying3 p0
  obtain ⟨q, hq, _, _⟩ := DataW.trod_int Tryz.underlying3 p1
  obtain ⟨r, hr, _, _⟩ := DataW.trod_int Tryz.underlying3 p2
  refine ⟨(nm, p, q, r), ?_, hnl, fun y hy => u8_wf (hwf y hy)⟩
  simp only [List.drop_zero] at hnm
  have l3 : (cs.drop 32).length = 3 := by simp; omega
  have e : cs.drop 32 = [.int .i64 p, .int .i64 q, .int .i64 r] := by
    match hc : cs.drop 32, l3 with
    | [a, b, c], _ =>
      rw [hc] at hp hq hr
      simp at hp hq hr
      rw [hp, hq, hr]
  rw [← List.take_append_drop 32 cs, hnm, e]
  rfl

set_option maxRecDepth 100000 in
theorem ents_of {H : Type} {enc : TypeId × Value → H} {W : World} {a0 : Option Addr} {len cap fuel : Nat} {x : DataW H × List MemPlace}
    (h : DataW.trod enc Tryz.prog W 0 (fun _ => true) true fuel 77 [.slice a0 len cap] = some x) :
    ∃ d : List Ent, d.length = len ∧ EV (fun g => g < W.heap.size) W (.slice a0 len cap) d := by
  rcases Go.Deep.open_slice Tryz.underlying77 h with ⟨hcs, _⟩ | ⟨a, l, c, m, n, D, Pl, hcs, _, hl, hm, hmm, _, hr⟩
  · simp only [List.cons.injEq, Value.slice.injEq, and_true] at hcs
    obtain ⟨rfl, rfl, rfl⟩ := hcs
    exact ⟨[], rfl, EV.nil _ _⟩
  · simp only [List.cons.injEq, Value.slice.injEq, and_true] at hcs
    obtain ⟨rfl, rfl, rfl⟩ := hcs
    simp only [if_true] at hmm
    subst hmm
    have e26 : Tryz.prog.cellsOf 159 = 35 := by kernel_rfl
    rw [e26] at hr
    have each : ∀ r, r < len → ∃ t : Ent, EOk t ∧ ∀ i, i < 35 → W.cell? ((a.add (r * 35)).add i) = (entC t)[i]? := by
      intro r hr1
      obtain ⟨cs', h1, h2⟩ := hr r (by omega)
      obtain ⟨e, rfl, he⟩ := ent_cells h2
      exact ⟨e, he, fun i hi => cells_get h1 i hi⟩
    obtain ⟨y, hy⟩ := Go.Deep.choose_lt each
    have hlen : ((List.range len).map y).length = len := by simp
    have hget : ∀ j t, ((List.range len).map y)[j]? = some t → j < len ∧ t = y j := fun j t hj => by
      have hjl : j < len := by
        have := (List.getElem?_eq_some_iff.1 hj).1
        simpa using this
      simp only [List.getElem?_map, List.getElem?_range hjl, Option.map_some, Option.some.injEq] at hj
      exact ⟨hjl, hj.symm⟩
    refine ⟨(List.range len).map y, hlen, some a, _, by rw [hlen], by rw [hlen]; exact hl, hm, by simp, fun e he => ?_, fun hne => ?_⟩
    · obtain ⟨j, hj⟩ := List.mem_iff_getElem?.1 he
      obtain ⟨hjl, rfl⟩ := hget j e hj
      exact (hy j hjl).1
    · have hpos : 0 < len := by
        have := List.length_pos_iff.2 hne
        omega
      have h00 := (hy 0 hpos).2 0 (by omega)
      obtain ⟨v0, hv0⟩ : ∃ v, (entC (y 0))[0]? = some v := ⟨_, List.getElem?_eq_getElem (by rw [entC_length (hy 0 hpos).1]; omega)⟩
      rw [hv0] at h00
      have ha : a.spot = none := by
        rw [Nat.zero_mul] at h00
        have e : (a.add 0) = a := rfl
        rw [e] at h00
        exact spot_none h00
      obtain ⟨b, o, s⟩ := a
      simp only at ha
      subst ha
      have hb : b < W.heap.size := by
        rw [addr_plus, addr_plus] at h00
        exact World.block_lt_of_cell? W _ h00
      refine ⟨b, o, rfl, hb, hb, fun j t hj => ?_⟩
      obtain ⟨hjl, rfl⟩ := hget j t hj
      refine ⟨(hy j hjl).1, fun i v hv => ?_⟩
      have hi : i < 35 := by
        have := (List.getElem?_eq_some_iff.1 hv).1
        rw [entC_length (hy j hjl).1] at this
        exact this
      have h := (hy j hjl).2 i hi
      rw [addr_plus, addr_plus, hv] at h
      exact h
end Go.Proofs.YthmimipoooemjaaGreatDoor.Sg
end

section
/-
  Calls of a script that came in, opened; are they few, and short?
-/
namespace Go.Proofs.YthmimipoooemjaaGreatDoor.Sim
open Go.RowKit Go.ChangeShapes Go.WideShapes
theorem spot_none {w : World} {x : Addr} {v : Value} (c0 : w.cell? (x.add 0) = some v) : x.spot = none := by
  have e : x.add 0 = x := rfl
  rw [e] at c0
  unfold World.cell? at c0
  split at c0
  · split at c0
    · cases c0
    · rename_i hs; simpa using hs
  · cases c0
/-- A slice of numbers, as it came in. -/
def InR (q : IntKind) (W : World) (a : Option Addr) (l c : Nat) : Prop :=
  (a = none ∧ l = 0 ∧ c = 0) ∨ ∃ (y : Addr) (zs : List Int), a = some y ∧ l ≤ c ∧ c ≤ maxLen ∧ zs.length = c ∧ (∀ i, i < zs.length → W.cell? (y.add i) = some (.int q (zs.getD i 0))) ∧ ∀ n ∈ zs, (Lit.int q n).wf = true
/-- Its numbers, and where they lie. -/
theorem InR.nums {q : IntKind} {w : World} {a : Option Addr} {len cap : Nat} (h : InR q w a len cap) : ∃ zs : List Int, zs.length = len ∧ len ≤ cap ∧ cap ≤ maxLen ∧ (a = none → zs = [] ∧ cap = 0) ∧ (∀ z ∈ zs, (Lit.int q z).wf = true) ∧
    (zs ≠ [] → ∃ g o, a = some ⟨g, o, none⟩ ∧ g < w.heap.size ∧ ∀ i, i < zs.length → w.cell? ⟨g, o + i, none⟩ = some (.int q (zs.getD i 0))) := by
  rcases h with ⟨rfl, rfl, rfl⟩ | ⟨x, zs, rfl, h1, h2, h3, h4, h5⟩
  · exact ⟨[], rfl, Nat.le_refl _, Nat.zero_le _, fun _ => ⟨rfl, rfl⟩, by simp, fun h => absurd rfl h⟩
  · have hlen : (zs.take len).length = len := List.length_take_of_le (by omega)
    refine ⟨zs.take len, hlen, h1, h2, by simp, fun z hz => h5 z (List.mem_of_mem_take hz), fun hne => ?_⟩
    have hpos : 0 < len := by have := List.length_pos_iff.2 hne; omega
    have c0 := h4 0 (by omega)
    have hx := spot_none c0
    obtain ⟨b, o, s⟩ := x
    simp only at hx
    subst hx
    refine ⟨b, o, rfl, World.block_lt_of_cell? w _ c0, fun i hi => ?_⟩
    have := h4 i (by omega)
    rw [addr_add] at this
    rw [this]
    rw [hlen] at hi
    simp [hi]
theorem InR.ints {w : World} {a : Option Addr} {len cap : Nat} (h : InR .i64 w a len cap) (hl : len ≤ 1000) : ∃ zs : List Int, zs.length = len ∧ IntsAt (· < w.heap.size) w (.slice a len cap) zs := by
  obtain ⟨zs, h1, h2, h3, h4, h5, h6⟩ := h.nums
  refine ⟨zs, h1, a, cap, by rw [h1], by omega, h3, by omega, fun hne => ?_⟩
  obtain ⟨g, o, e, hg, hc⟩ := h6 hne
  exact ⟨g, o, e, hg, hg, hc⟩

theorem in_of {H : Type} {enc : TypeId × Value → H} {W : World} {q : IntKind} {t e : TypeId} (ht : Tryz.prog.underlying t = some (.slice e)) (he : Tryz.prog.underlying e = some (.int q)) (hc : Tryz.prog.cellsOf e = 1) {fuel : Nat} {cs : List Value} {x : DataW H × List MemPlace}
    (h : DataW.trod enc Tryz.prog W 0 (fun _ => true) true fuel t cs = some x) : ∃ a l c, cs = [.slice a l c] ∧ InR q W a l c := by
  rcases open_ints ht he hc h with ⟨hcs, _⟩ | ⟨y, l, c, zs, hcs, _, hlc, hmx, hz, _, hcell, hwz⟩
  · exact ⟨none, 0, 0, hcs, .inl ⟨rfl, rfl, rfl⟩⟩
  · exact ⟨some y, l, c, hcs, .inr ⟨y, zs, rfl, hlc, hmx, by simpa using hz, hcell, hwz⟩⟩

end Go.Proofs.YthmimipoooemjaaGreatDoor.Sim
end

section
/-
  A world that holds the listed variables: two errors, three tables.
-/
namespace Go.Proofs.YthmimipoooemjaaGreatDoor
open Go.ChangeShapes Go.WideShapes Go.ChangeAt Go.RowKit

theorem own : ownKnob Tryz.prog.godebug = none := by kernel_rfl
theorem laidOut : laidOutB Tryz.prog = true := by kernel_rfl
abbrev laidFive : List (String × DataW Unit) := Rows.indexNilsRow.laid
def lay (cells : Array Value) : Obj → Obj
  | .cells _ t frozen => .cells cells t frozen
  | o => o
def tab32 : Array Value := (Lib.deBruijn32tab.map fun n : Nat => Value.int .u8 (n : Int)).toArray
def tab64 : Array Value := (Lib.deBruijn64tab.map fun n : Nat => Value.int .u8 (n : Int)).toArray
def tab10 : Array Value := ((List.range 20).map fun n : Nat => Value.int .u64 ((10 ^ n : Nat) : Int)).toArray
def synS : ByteArray := { data := #[105, 110, 118, 97, 108, 105, 100, 32, 115, 121, 110, 116, 97, 120] }
def rngS : ByteArray := { data := #[118, 97, 108, 117, 101, 32, 111, 117, 116, 32, 111, 102, 32, 114, 97, 110, 103, 101] }
theorem laid_met (os : Os) (args : Array Value) : laidMet Tryz.prog laidFive (({ World.holding Tryz.prog os ⟨#[.cells #[.string synS] 358, .cells #[.string rngS] 358], #[], []⟩ with heap := (((((World.holding Tryz.prog os ⟨#[.cells #[.string synS] 358, .cells #[.string rngS] 358], #[], []⟩).heap.modify 1 (lay #[.iface 356 (.pointer (some ⟨11, 0, none⟩))])).modify 2 (lay #[.iface 356 (.pointer (some ⟨12, 0, none⟩))])).modify 0 (lay tab10)).modify 4 (lay tab32)).modify 5 (lay tab64) } : World).forCall (fun _ _ => 0) ⟨#[], args, []⟩).memory :=
  laidMet_of_run' 8 (by kernel_rfl) (by kernel_rfl)
end Go.Proofs.YthmimipoooemjaaGreatDoor
end

section
/-
  The closed facts of IndexSafe's row, one by one: which functions her road reaches.
-/
namespace Go.Proofs.YthmimipoooemjaaGreatDoor.indexSafe
open Go.ChangeShapes Go.WideShapes Go.ChangeAt Go.RowKit

theorem f10 : (Rows.indexSafeRow.inPlace == Tryz.prog.inPlace 6) = true := by kernel_rfl
theorem f11 : (Rows.indexSafeRow.unfollowed == Tryz.prog.unfollowed 6) = true := by kernel_rfl
theorem f12 : (Rows.indexSafeRow.recurses == Tryz.prog.recurses 6) = true := by kernel_rfl
theorem f13 : (Rows.indexSafeRow.named == Tryz.prog.varsNamed 6) = true := by kernel_rfl
theorem closed : joinedFacts Tryz.prog 6 Tryz.f6 (OpenSpec.ofChange Rows.indexSafeSpec).bare Rows.indexSafeRow = true := by
  unfold joinedFacts
  rw [f10, f11, f12, f13]
  kernel_rfl
end Go.Proofs.YthmimipoooemjaaGreatDoor.indexSafe
end
