/- Of the proof: the texts FrBackM, PkAlive, PkNamesW, PkLaid, PkVars, one behind the other. -/
import Derived.Test.YtophnjcoaglbnaaGreatDoorB9
import Derived.Test.YtophnjcoaglbnaaGreatDoorB10
import Derived.Test.YtophnjcoaglbnaaGreatDoorB12
import Derived.Test.YtophnjcoaglbnaaGreatDoorB1
import Derived.Test.YtophnjcoaglbnaaGreatDoorB2
import Derived.Test.YtophnjcoaglbnaaGreatDoorCards
import Derived.Test.YtophnjcoaglbnaaGreatDoorTie
import Derived.ProofKit
import Derived.OpenShut
import Derived.Deep.DeepHandedRow
import Derived.Lib.LaidTab
import Derived.MakeChecks
import Derived.Lib.TrailingZeros
import Derived.Stop.LaidErr
section
/-
  Plain mathematics: frames laid one behind the other, and cut off anywhere, are scanned to those that are whole.
-/
namespace Go.Proofs.YtophnjcoaglbnaaGreatDoor

abbrev Rec : Type := Int × List Int × List Int
def frOf (r : Rec) : List Int := frameR r.1 r.2.1 r.2.2
def Rt (r : Rec) : Prop := RightR r.1 r.2.1 r.2.2
theorem frOf_length {r : Rec} (h : Rt r) : (frOf r).length = 49 + r.2.2.length := frameR_length h

/-- Frames, one behind the other. -/
def cat : List Rec → List Int
  | [] => []
  | r :: rs => frOf r ++ cat rs
theorem cat_snoc (r : Rec) : ∀ rs : List Rec, cat (rs ++ [r]) = cat rs ++ frOf r
  | [] => by simp [cat]
  | x :: rs => by rw [List.cons_append, cat, cat, cat_snoc r rs, List.append_assoc]
theorem cat_length : ∀ {rs : List Rec}, (∀ r ∈ rs, Rt r) → (cat rs).length ≤ rs.length * 5049
  | [], _ => by simp [cat]
  | r :: rs, h => by
    have h1 := cat_length (fun x hx => h x (List.mem_cons_of_mem _ hx))
    have h2 := frOf_length (h r List.mem_cons_self)
    have h3 := (h r List.mem_cons_self).2.2.1
    rw [cat, List.length_append, List.length_cons]
    omega
theorem cat_bd : ∀ {rs : List Rec}, (∀ r ∈ rs, Rt r) → ∀ x ∈ cat rs, 0 ≤ x ∧ x ≤ 255
  | [], _, x, hx => by simp [cat] at hx
  | r :: rs, h, x, hx => by
    rw [cat] at hx
    rcases List.mem_append.1 hx with hx | hx
    · exact frameR_bd (h r List.mem_cons_self) x hx
    · exact cat_bd (fun y hy => h y (List.mem_cons_of_mem _ hy)) x hx

/-- What is found of them, from a place on. -/
def itemsOf : Nat → List Rec → List Item
  | _, [] => []
  | p, r :: rs => (p, (0, r, (frOf r).length)) :: itemsOf (p + (frOf r).length) rs
theorem itemsOf_length : ∀ (p : Nat) (rs : List Rec), (itemsOf p rs).length = rs.length
  | _, [] => rfl
  | p, r :: rs => by rw [itemsOf, List.length_cons, List.length_cons, itemsOf_length]
theorem itemsOf_get : ∀ (p : Nat) (rs : List Rec) (j : Nat) (r : Rec), rs[j]? = some r → (itemsOf p rs)[j]? = some (p + (cat (rs.take j)).length, (0, r, (frOf r).length))
  | _, [], j, r, h => by simp at h
  | p, x :: rs, 0, r, h => by
    simp only [List.getElem?_cons_zero, Option.some.injEq] at h
    subst h
    simp [itemsOf, cat]
  | p, x :: rs, j + 1, r, h => by
    have h1 : rs[j]? = some r := by simpa using h
    have := itemsOf_get (p + (frOf x).length) rs j r h1
    simp only [itemsOf, List.getElem?_cons_succ, List.take_succ_cons, cat, List.length_append]
    rw [this]
    simp only [Option.some.injEq, Prod.mk.injEq, and_true]
    omega

/-- How many are whole in the first c bytes. -/
def cnt : List Rec → Nat → Nat
  | [], _ => 0
  | r :: rs, c => if (frOf r).length ≤ c then cnt rs (c - (frOf r).length) + 1 else 0
theorem cnt_le : ∀ (rs : List Rec) (c : Nat), cnt rs c ≤ rs.length
  | [], _ => Nat.le_refl _
  | r :: rs, c => by
    rw [cnt]
    split
    · have := cnt_le rs (c - (frOf r).length)
      rw [List.length_cons]
      omega
    · omega
theorem cnt_all : ∀ (rs : List Rec) (c : Nat), (cat rs).length ≤ c → cnt rs c = rs.length
  | [], _, _ => rfl
  | r :: rs, c, h => by
    rw [cat, List.length_append] at h
    rw [cnt, if_pos (by omega), cnt_all rs _ (by omega), List.length_cons]
/-- The frames that end at or ahead of c are the first ones. -/
theorem cnt_iff : ∀ (rs : List Rec) (c j : Nat), j < rs.length → ((cat (rs.take (j + 1))).length ≤ c ↔ j < cnt rs c)
  | [], _, j, h => by simp at h
  | r :: rs, c, 0, h => by
    rw [cnt, List.take_succ_cons, List.take_zero, cat, cat, List.append_nil]
    split <;> omega
  | r :: rs, c, j + 1, h => by
    rw [cnt, List.take_succ_cons, cat, List.length_append]
    have := cnt_iff rs (c - (frOf r).length) j (by simpa using h)
    split
    · omega
    · omega
theorem cnt_end : ∀ (rs : List Rec) (c : Nat), (cat (rs.take (cnt rs c))).length ≤ c
  | [], _ => by simp [cnt, cat]
  | r :: rs, c => by
    rw [cnt]
    split
    · have := cnt_end rs (c - (frOf r).length)
      rw [List.take_succ_cons, cat, List.length_append]
      omega
    · simp [cat]

theorem scan_cat : ∀ (rs : List Rec) (pre : List Int) (c : Nat), (∀ r ∈ rs, Rt r) → c ≤ (cat rs).length →
    scanR (tl (pre ++ (cat rs).take c) pre.length) pre.length = (itemsOf pre.length (rs.take (cnt rs c)), pre.length + (cat (rs.take (cnt rs c))).length, if (cat (rs.take (cnt rs c))).length = c then 0 else 16)
  | [], pre, c, _, hc => by
    have h0 : c = 0 := by simpa [cat] using hc
    subst h0
    rw [tl_end (by simp [cat])]
    simp [scanR, cnt, itemsOf, cat]
  | r :: rs, pre, c, hr, hc => by
    have hR := hr r List.mem_cons_self
    have hl := frOf_length hR
    have hrs : ∀ x ∈ rs, Rt x := fun x hx => hr x (List.mem_cons_of_mem _ hx)
    rw [cat, List.length_append] at hc
    by_cases h1 : (frOf r).length ≤ c
    · have e : (cat (r :: rs)).take c = frOf r ++ (cat rs).take (c - (frOf r).length) := by rw [cat, List.take_append, List.take_of_length_le h1]
      have hd : (pre ++ (cat (r :: rs)).take c).drop pre.length = frOf r ++ (cat rs).take (c - (frOf r).length) := by rw [e, List.drop_left' rfl]
      have ht : takeF ((pre ++ (cat (r :: rs)).take c).drop pre.length) = (0, r, (frOf r).length) := by rw [hd, hl]; exact take_frame hR _
      have hlt : pre.length < (pre ++ (cat (r :: rs)).take c).length := by rw [e, List.length_append, List.length_append]; omega
      rw [tl_good hlt (by rw [ht]), ht]
      have ih := scan_cat rs (pre ++ frOf r) (c - (frOf r).length) hrs (by omega)
      have e2 : (pre ++ (cat (r :: rs)).take c) = (pre ++ frOf r) ++ (cat rs).take (c - (frOf r).length) := by rw [e, List.append_assoc]
      have e3 : pre.length + (frOf r).length = (pre ++ frOf r).length := by rw [List.length_append]
      rw [scanR, if_pos rfl, e2, show (pre.length, ((0 : Int), r, (frOf r).length)).fst + (pre.length, ((0 : Int), r, (frOf r).length)).snd.snd.snd = (pre ++ frOf r).length from e3,
        ih, cnt, if_pos h1, List.take_succ_cons, itemsOf, cat, List.length_append, List.length_append]
      simp only [Prod.mk.injEq, true_and]
      refine ⟨by omega, ?_⟩
      by_cases h2 : (cat (rs.take (cnt rs (c - (frOf r).length)))).length = c - (frOf r).length
      · rw [if_pos h2, if_pos (by omega)]
      · rw [if_neg h2, if_neg (by omega)]
    · have e : (cat (r :: rs)).take c = (frOf r).take c := by rw [cat, List.take_append_of_le_length (by omega)]
      have hc0 : cnt (r :: rs) c = 0 := by rw [cnt, if_neg h1]
      rw [hc0, e]
      by_cases h0 : c = 0
      · subst h0
        rw [tl_end (by simp)]
        simp [scanR, itemsOf, cat]
      · have hd : (pre ++ (frOf r).take c).drop pre.length = (frOf r).take c := by rw [List.drop_left' rfl]
        have ht : takeF ((pre ++ (frOf r).take c).drop pre.length) = noRec 16 := by rw [hd]; exact take_cut hR (by omega)
        have hlt : pre.length < (pre ++ (frOf r).take c).length := by rw [List.length_append, List.length_take]; omega
        rw [tl_bad hlt (by rw [ht]; simp [noRec]), ht, scanR, if_neg (by simp [noRec])]
        simp only [List.take_zero, itemsOf, cat, List.length_nil, Nat.add_zero]
        rw [if_neg (by omega)]
        rfl

/-- What Scan finds in the first c bytes. -/
theorem scanF_cat {rs : List Rec} {c : Nat} (hr : ∀ r ∈ rs, Rt r) (hc : c ≤ (cat rs).length) :
    scanF ((cat rs).take c) = (itemsOf 0 (rs.take (cnt rs c)), (cat (rs.take (cnt rs c))).length, if (cat (rs.take (cnt rs c))).length = c then 0 else 16) := by
  have h := scan_cat rs [] c hr hc
  simpa [scanF] using h

theorem scanR_mem : ∀ (L : List Item) (p : Nat), ∀ x ∈ (scanR L p).1, x ∈ L
  | [], p, x, h => by simp [scanR] at h
  | y :: L, p, x, h => by
    rw [scanR] at h
    split at h
    · rcases List.mem_cons.1 h with rfl | h
      · exact List.mem_cons_self
      · exact List.mem_cons_of_mem _ (scanR_mem L _ x h)
    · simp at h
/-- What stands at the place of the record j. -/
theorem at_cat {rs : List Rec} {c j : Nat} {r : Rec} (hr : ∀ r ∈ rs, Rt r) (hc : c ≤ (cat rs).length) (hj : j < cnt rs c) (hg : rs[j]? = some r) :
    (cat (rs.take j)).length < ((cat rs).take c).length ∧ takeF (((cat rs).take c).drop (cat (rs.take j)).length) = (0, r, (frOf r).length) := by
  have h1 : (rs.take (cnt rs c))[j]? = some r := by rw [List.getElem?_take_of_lt hj]; exact hg
  have h2 := itemsOf_get 0 _ j r h1
  have h3 : (0 + (cat ((rs.take (cnt rs c)).take j)).length, ((0 : Int), r, (frOf r).length)) ∈ (scanF ((cat rs).take c)).1 := by
    rw [scanF_cat hr hc]
    exact List.mem_of_getElem? h2
  obtain ⟨m1, m2⟩ := tl_mem _ _ 0 (Nat.le_refl _) _ (scanR_mem _ _ _ h3)
  rw [List.take_take, Nat.min_eq_left (by omega)] at m1 m2
  simp only [Nat.zero_add] at m1 m2
  exact ⟨m1, m2.symm⟩

end Go.Proofs.YtophnjcoaglbnaaGreatDoor
end

section
/-
  What must come at any rate: the chapter's example, and a pack.
-/
namespace Go.Proofs.YtophnjcoaglbnaaGreatDoor
open Go.RowKit Go.Shelf
open Tlv (BySlS)
open Sim (hid Kp No PS Done Blk nm finds pBytes pFsync pRename pSyncDir pCreate pAppend)

theorem builtR (k : Int) (a : Option Addr) (l c : Nat) : Tryz.prog.built 49 [(0, .int .i64 k), (2, .slice a l c)] = some (recA k (List.replicate 32 0) (.slice a l c)).toArray := by kernel_rfl

theorem nT_ok : Sim.nameB (nm (nameT 7)) = true := by rw [nameT_7]; decide
theorem nP_ok : Sim.nameB (nm (nameP 7)) = true := by rw [nameP_7]; decide
def recX : Rec := (1, List.replicate 32 0, [120])
theorem recX_ok : Rt recX := rightX
theorem frX : putX 1 (List.replicate 32 0) [120] = frOf recX := rfl
theorem frX_len : (frOf recX).length = 50 := frOf_length recX_ok
theorem scanX : scanF (frOf recX) = ([(0, (0, recX, 50))], 50, 0) := by
  have h := scanF_cat (rs := [recX]) (c := (cat [recX]).length) (by intro r hr; rw [List.mem_singleton.1 hr]; exact recX_ok) (Nat.le_refl _)
  have e1 : cat [recX] = frOf recX := by simp [cat]
  rw [cnt_all _ _ (Nat.le_refl _), List.take_length, List.take_length, e1, if_pos rfl] at h
  rw [h, frX_len]
  simp [itemsOf, frX_len]

theorem add_x (x : Nat) : addF 7 0 0 (frOf recX) true (Sim.q1 (nm (nameT 7)) 1000 x) = (0, 0, Sim.q2 (nm (nameT 7)) 1000 x (nats (frOf recX)), 50, 1) := by
  have h := Sim.q1_append (b := x) (r := 1000) (ys := nats (frOf recX)) nT_ok (by rw [nats_length, frX_len]; omega)
  rw [addF, if_neg (by simp), if_neg (by rw [frX_len]; omega), h]
  simp [frX_len]
theorem seal_x (x : Nat) (ys : List Nat) : sealF 7 (Sim.q2 (nm (nameT 7)) 1000 x ys) = (0, Sim.q5 (nm (nameT 7)) (nm (nameP 7)) 1000 x ys) := by
  rw [sealF, Sim.q2_fsync nT_ok, if_neg (by simp), Sim.q3_rename nT_ok nP_ok, if_neg (by simp), Sim.q4_sync]

set_option maxHeartbeats 4000000 in
set_option maxRecDepth 100000 in
theorem alive_any (w : World) :
    Calls Tryz.prog 9 #[] w fun e w' => e = .returned (.bool true) ∧ Below w.heap.size w w' := by
  have kc := fun (w : World) (C : Array Value) (n c : Nat) => Lib.run_convert_bytes_const (P := Tryz.prog) w 45 5 C n c Tryz.underlying45 Tryz.underlying5
  go_enter Tryz.func9, Tryz.ntmps9
  go_wp2_with fail
  refine (Sim.new_yes 1000 (by omega) w).mono ?_
  rintro e w1 ⟨rfl, hS1, hK1⟩
  have HS1 := hid hS1
  have HB1 : Hid (Below w.heap.size w w1) := hK1.toBelow'
  have HL1 : Hid (w.heap.size < w1.heap.size) := hS1.lt _ rfl
  clear hS1 hK1
  go_wp2_with fail
  refine (Crc.new_any w1).mono ?_
  rintro e w2 ⟨rfl, hb2, hs2, ht2⟩
  have HS2 : Hid (Sim.Sys (· = w.heap.size) 0 w2 w.heap.size (Sim.startPS 1000)) := HS1.out.kept (Kp.below hb2)
  have HT2 : Hid (TabX w2 w1.heap.size) := ⟨0, 0, .inl rfl, ht2⟩
  have HB2 : Hid (Below w.heap.size w w2) := HB1.out.trans (hb2.mono HB1.out.size)
  have HL2 : Hid (w1.heap.size < w2.heap.size) := by rw [Hid]; omega
  clear hb2 hs2 ht2 HS1 HB1
  go_wp2_with fail
  refine (begin_any w2 w.heap.size w1.heap.size (Sim.startPS 1000) 7 (by omega) (by omega) HS2.out (by omega)).mono ?_
  rintro e w3 hbg
  have hbg' : ∃ x g P', e = .returned (.tuple #[.pointer (some ⟨g, 0, none⟩), .int .i64 0]) ∧ WrAt w3 g w.heap.size w1.heap.size 7 0 0 false ∧ Sim.Sys P' 1 w3 w.heap.size (Sim.q1 (nm (nameT 7)) 1000 x) ∧ Kp (· = w.heap.size) w2 w3 ∧ (∀ y, P' y → y = w.heap.size ∨ w2.heap.size ≤ y) ∧ ¬ P' g ∧ w2.heap.size ≤ g := by
    rcases hbg with ⟨h, _⟩ | ⟨_, x, _, h⟩
    · rw [Sim.start_finds nP_ok] at h
      omega
    · rw [Sim.start_create nT_ok] at h
      rcases h with ⟨h, _⟩ | ⟨_, g, P', h1, h2, h3, h4, h5, h6, h7⟩
      · exact absurd rfl h
      · exact ⟨x, g, P', h1, h2, h3, h4, h5, h6, h7⟩
  obtain ⟨x, g, P', rfl, hW3, hS3, hK3, hP3, hng, hg3⟩ := hbg'
  have HW3 := hid hW3
  have HS3 := hid hS3
  have HL3 : Hid (w2.heap.size ≤ w3.heap.size) := hK3.size
  have HB3 : Hid (Below w.heap.size w w3) := Kp.under HB2.out hK3 (fun y hy => by rw [hy]; exact Nat.le_refl _) HB2.out.size
  have HT3 : Hid (TabX w3 w1.heap.size) := HT2.out.kp hK3 (by have := HL1.out; omega)
  have HNP : Hid (¬ P' g ∧ ¬ P' w1.heap.size ∧ g ≠ w1.heap.size ∧ g < w3.heap.size) := ⟨hng, fun h => by
    have := HL1.out
    have := HL2.out
    rcases hP3 _ h with e | e <;> omega, by have := HL2.out; omega, hW3.lt⟩
  have HGE : Hid (w.heap.size ≤ g) := by
    have := HL1.out
    have := HL2.out
    rw [Hid]
    omega
  have HPL : Hid (∀ y, P' y → w.heap.size ≤ y) := fun y hy => by
    have := HL1.out
    have := HL2.out
    rcases hP3 y hy with e | e <;> omega
  clear hbg hW3 hS3 hK3 hP3 hng hg3 HS2 HT2
  obtain ⟨W3, hW3⟩ : ∃ W3, w3.alloc (Obj.cells #[Value.int IntKind.u8 120] 5 (1, 2)) = W3 := ⟨_, rfl⟩
  have hb3 : Below w3.heap.size w3 W3 := by rw [← hW3]; exact (Below.refl _ _).alloc (Nat.le_refl _) _
  have hx3 : Tlv.BySl 0 W3.heap.size W3 (.slice (some ⟨w3.heap.size, 0, none⟩) 1 1) [120] := by
    rw [← hW3]
    exact (ofCrc (Crc.bySl_lit w1.heap.size w3 (by have := HL2.out; have := HL3.out; omega) [120] (by decide) (by decide) (1, 2))).to (fun g hg => hg.2)
  have HBU := hid (builtR 1 (some ⟨w3.heap.size, 0, none⟩) 1 1)
  have HOWN := hid (fun V => own11_any 1 (List.replicate 32 0) (some ⟨w3.heap.size, 0, none⟩) 1 1 V (by simp))
  have HADD := hid (fun V (hV : Below W3.heap.size W3 V) => addW_any (P := P') (N := 1) V g w.heap.size w1.heap.size 7 0 0 (Sim.q1 (nm (nameT 7)) 1000 x) 1 (List.replicate 32 0) [120] (.slice (some ⟨w3.heap.size, 0, none⟩) 1 1) (by omega) (by omega)
    ((HW3.out.kp (L := No) (Kp.below hb3) (fun h => h)).kp (L := No) (Kp.below hV) (fun h => h)) ((HS3.out.kept (Kp.below hb3)).kept (Kp.below hV)) (by omega) ((HT3.out.below hb3).below hV) HNP.out.2.1 HNP.out.1 HNP.out.2.2.1
    (hx3.agree (Tlv.Agree.below hV) (Nat.le_refl _) hV.size) (by simp) zeros32 (by rw [frX, frX_len]; omega) (by omega) (by omega))
  have HLW3 : Hid (w3.heap.size ≤ W3.heap.size) := hb3.size
  have HBW3 : Hid (Below w.heap.size w W3) := HB3.out.trans (hb3.mono HB3.out.size)
  obtain ⟨C2, hC2⟩ : ∃ C2, recA 1 (List.replicate 32 0) (.slice (some ⟨w3.heap.size, 0, none⟩) 1 1) = C2 := ⟨_, rfl⟩
  have hrB : rightB 1 [(120 : Int)].length = true := by decide
  rw [hC2] at HBU
  rw [show recA 1 (List.replicate 32 0) (.slice (some ⟨w3.heap.size, 0, none⟩) 1 1) = C2 from hC2] at HOWN HADD
  simp only [frX, hrB, add_x] at HADD
  clear hC2 hb3 hx3 hrB
  go_wp2_with (refine wpList_build2 (by rfl) 49 _ _ _ _ (by rfl) _ _ (by rfl) (by rfl) _ HBU.out ?_)
  clear kc hW3
  refine (HOWN.out W3).mono ?_
  rintro e w4 ⟨rfl, hb4⟩
  have HA4 := hid (HADD.out w4 hb4)
  have HB4 : Hid (Below w.heap.size w w4) := HBW3.out.trans (hb4.mono HBW3.out.size)
  have HL4 : Hid (W3.heap.size ≤ w4.heap.size) := hb4.size
  clear hb4 HADD HOWN HBU
  go_wp2_with fail
  refine HA4.out.mono ?_
  rintro e w5 ⟨rfl, hW5, hT5, P5, hS5, hK5, hP5⟩
  dsimp only at hW5 hS5 ⊢
  have HB5 : Hid (Below w.heap.size w w5) := Kp.under HB4.out hK5 (fun y hy => by
    have h1 := HL1.out
    have h2 := HL2.out
    rcases hy with e | e | e
    · exact HPL.out y e
    · omega
    · have h3 := HW3.out.lt
      rw [e]
      by_cases hgw : g < w.heap.size
      · exact absurd hgw (by have := HGE.out; omega)
      · omega) HB4.out.size
  have HN5 : Hid (¬ P5 g ∧ ¬ P5 w1.heap.size) := by
    have h1 := HNP.out
    have h2 := HLW3.out
    have h3 := HL4.out
    have h4 := HL2.out
    have h5 := HL3.out
    exact ⟨fun e => by rcases hP5 _ e with e | e
                       · exact h1.1 e
                       · omega, fun e => by rcases hP5 _ e with e | e
                                            · exact h1.2.1 e
                                            · omega⟩
  have HP5 : Hid (∀ y, P5 y → w.heap.size ≤ y) := fun y hy => by
    rcases hP5 y hy with e | e
    · exact HPL.out y e
    · have := HB4.out.size; omega
  have HSEAL := hid (sealW_any (P := P5) (N := 2) w5 g w.heap.size w1.heap.size 7 50 1 _ (by omega) (by omega) hW5 hS5 (by omega) hT5 HN5.out.2 HN5.out.1 HNP.out.2.2.1 (by omega))
  rw [seal_x] at HSEAL
  clear hW5 hT5 hS5 hK5 hP5 HA4
  go_wp2_with fail
  refine HSEAL.out.mono ?_
  rintro e w6 ⟨rfl, hW6, hT6, P6, hS6, hK6, hP6⟩
  have HB6 : Hid (Below w.heap.size w w6) := Kp.under HB5.out hK6 (fun y hy => by
    rcases hy with e | e
    · exact HP5.out y e
    · rw [e]; have := HGE.out; omega) HB5.out.size
  have e1 : pBytes (nm (nameP 7)) (Sim.q5 (nm (nameT 7)) (nm (nameP 7)) 1000 x (nats (frOf recX))) = nats (frOf recX) := Sim.q5_bytes nP_ok
  have HLOAD := hid (load_any w6 w.heap.size w1.heap.size _ 7 (by omega) (by omega) hS6 hT6 (by rw [e1]; exact nats_lt _ (frameR_bd recX_ok)) (by rw [e1, nats_length, frX_len]; omega))
  rw [Sim.q5_finds nP_ok, e1, ints_nats (frOf recX) (frameR_bd recX_ok), scanX] at HLOAD
  clear hW6 hT6 hS6 hK6 hP6 e1 HSEAL
  go_wp2_with fail
  refine HLOAD.out.mono ?_
  rintro e w7 ⟨hl, hk7, ht7⟩
  have hl' : ∃ a c, e = .returned (.tuple #[.slice a 1 c, .int .i64 0]) ∧ PRow 62 w6.heap.size w1.heap.size w7 (.slice a 1 c) [(0, (0, recX, 50))] := by
    rcases hl with ⟨h, _⟩ | ⟨_, h, _⟩ | ⟨_, _, _, a, c, h1, h2⟩
    · exact absurd rfl h
    · rcases h with h | h
      · exact absurd rfl h
      · exact absurd h (by simp)
    · exact ⟨a, c, h1, h2⟩
  obtain ⟨al, cl, rfl, hp⟩ := hl'
  obtain ⟨gg, cgg, a', c', hsl, hgb, hgl, hnm, hrg, hbg⟩ := hp.get 0 _ rfl
  simp only [Value.slice.injEq, List.length_singleton, true_and] at hsl
  obtain ⟨rfl, rfl⟩ := hsl
  have HB7 : Hid (Below w.heap.size w w7) := Crc.Kept.toBelow HB6.out hk7 (by have := HL1.out; omega)
  have cg : w7.cell? ⟨gg, 35, none⟩ = some (.slice a' 1 c') := by
    have h := hrg 35 (.slice a' 1 c') rfl
    simpa using h
  have HBG := hid hbg
  clear hl hk7 ht7 hp hrg hbg hnm hgb HLOAD
  go_wp2_with fail
  refine (id_07 w7).mono ?_
  rintro e w8 ⟨rfl, hb8⟩
  have HB8 : Hid (Below w.heap.size w w8) := HB7.out.trans (hb8.mono HB7.out.size)
  have cg8 : w8.cell? ⟨gg, 35, none⟩ = some (.slice a' 1 c') := (hb8.cell (p := ⟨gg, 35, none⟩) hgl).trans cg
  have hcv := Tlv.conv_bytes ((BySlS.below HBG.out hb8 (fun g hg => hg.2.2.1)).to (B := w8.heap.size) (fun g hg => Nat.lt_of_lt_of_le hg.2.2.1 hb8.size))
  have hcv' : (convert 45 9 (.slice a' 1 c')).run Tryz.prog w8 = .ok (.string ⟨#[120]⟩) w8 := by
    have hse : strOfNums [120] = ⟨#[120]⟩ := by decide +kernel
    rw [← hse]
    exact hcv
  have HNA := hid (fun V => pname_small 7 (by omega) (by omega) V)
  rw [nameP_7] at HNA
  clear hb8 cg hcv
  go_wp2_with (go_at_call 12; refine (HNA.out _).mono ?_; rintro e w9 ⟨rfl, h⟩; subst w9)
  go_ret
  exact ⟨rfl, HB8.out⟩
end Go.Proofs.YtophnjcoaglbnaaGreatDoor
end

section
/-
  PackNames, walked.
-/
namespace Go.Proofs.YtophnjcoaglbnaaGreatDoor
open Go.RowKit Go.Shelf
open Sim (hid)

set_option maxHeartbeats 4000000 in
set_option maxRecDepth 100000 in
theorem names_dark (z : Int) (s : ByteArray) (h : (100 : Int) < s.size) (_hm : (s.size : Int) ≤ 9223372036854775807) (w : World) : Calls Tryz.prog 3 #[.int .i64 z, .string s] w fun e w' => e = .returned (.bool true) ∧ Below w.heap.size w w' := by
  go_enter Tryz.func3, Tryz.ntmps3
  go_wp2_with fail
  refine (alive_any w).mono ?_
  rintro e w1 ⟨rfl, hb⟩
  have HB := hid hb
  clear hb
  go_wp2
  go_ret
  exact ⟨rfl, HB.out⟩

set_option maxHeartbeats 4000000 in
set_option maxRecDepth 100000 in
theorem names_main (z : Int) (s : ByteArray) (h : ¬ (100 : Int) < s.size) (w : World) (hv : Vars w) : Calls Tryz.prog 3 #[.int .i64 z, .string s] w fun e w' => e = .returned (.bool true) ∧ Below w.heap.size w w' := by
  have hs : s.size ≤ 1000000 := by omega
  have HI : Hid (∀ W, Vars W → ∀ t : ByteArray, t.size ≤ 1000000 → Calls Tryz.prog 10 #[.string t] W fun e w' => e = .returned (.tuple #[.int .i64 (idOf packB t).1, .bool (idOf packB t).2]) ∧ Below W.heap.size W w') := fun W hW t ht => ID_any t ht W hW
  have HRI : Hid (∀ W, Calls Tryz.prog 11 #[.string s] W fun e w' => e = .returned (.tuple #[.int .i64 (idOf packB s).1, .bool (idOf packB s).2]) ∧ Below W.heap.size W w') := fun W => rid_any s hs W
  have HN : Hid (∀ W, Vars W → Calls Tryz.prog 12 #[.int .i64 z] W fun e w' => e = .returned (.string (nameZ packB z)) ∧ Below W.heap.size W w') := fun W hW => pname_any z W hW.tab
  have HT : Hid (∀ W, Vars W → Calls Tryz.prog 14 #[.int .i64 z] W fun e w' => e = .returned (.string (nameZ tmpB z)) ∧ Below W.heap.size W w') := fun W hW => ptemp_any z W hW.tab
  have HRN : Hid (∀ W, Calls Tryz.prog 13 #[.int .i64 z] W fun e w' => e = .returned (.string (nameZ packB z)) ∧ Below W.heap.size W w') := fun W => rname_any z W
  have HRT : Hid (∀ W, Calls Tryz.prog 15 #[.int .i64 z] W fun e w' => e = .returned (.string (nameZ tmpB z)) ∧ Below W.heap.size W w') := fun W => rtemp_any z W
  have HR : Hid (∀ W, Calls Tryz.prog 16 #[.int .i64 z] W fun e w' => e = .returned (.bool (idB z)) ∧ w' = W) := fun W => rright_any z W
  have hlen : (nameZ packB z).size ≤ 1000000 := by
    cases hi : idB z with
    | false => rw [nameZ, hi, if_neg (by simp)]; decide
    | true =>
      obtain ⟨u, rfl⟩ : ∃ u : Nat, z = u := ⟨z.toNat, by have : 1 ≤ z ∧ z ≤ 999999 := (by simpa [idB] using hi); omega⟩
      have hu : 1 ≤ u ∧ u ≤ 999999 := by simp [idB] at hi; omega
      rw [← Sim.len_data, name_data hu.1 hu.2, List.length_append]
      have := dec_six hu.2
      have h5 : packB.data.toList.length = 5 := rfl
      omega
  have hC : idOf packB (nameZ packB z) = if idB z then (z, true) else (0, false) := by
    cases hi : idB z with
    | false =>
      rw [nameZ, hi, if_neg (by simp), if_neg (by simp)]
      exact noId_of (noId_len (.inl (by decide)))
    | true =>
      obtain ⟨u, rfl⟩ : ∃ u : Nat, z = u := ⟨z.toNat, by have : 1 ≤ z ∧ z ≤ 999999 := (by simpa [idB] using hi); omega⟩
      have hu : 1 ≤ u ∧ u ≤ 999999 := by simp [idB] at hi; omega
      rw [if_pos rfl]
      exact idOf_name hu.1 hu.2
  obtain ⟨c1, c2, hc, hc2, hc1⟩ : ∃ c1 c2, idOf packB (nameZ packB z) = (c1, c2) ∧ idB z = c2 ∧ (c2 = true → c1 = z) := by
    rw [hC]
    cases hi : idB z with
    | false => exact ⟨0, false, rfl, rfl, fun h => by cases h⟩
    | true => exact ⟨z, true, rfl, rfl, fun _ => rfl⟩
  have HC2 : Hid (∀ W, Vars W → Calls Tryz.prog 10 #[.string (nameZ packB z)] W fun e w' => e = .returned (.tuple #[.int .i64 c1, .bool c2]) ∧ Below W.heap.size W w') := fun W hW => by
    have := HI.out W hW (nameZ packB z) hlen
    rw [hc] at this
    exact this
  rw [hc2] at HR
  have HC1 := hid hc1
  have HS := hid (fun (W : World) (hW : Vars W) => HI.out W hW s hs)
  have HV := hid hv
  clear HI hC hlen hs hv hc hc2 hc1
  generalize nameZ packB z = np at *
  generalize nameZ tmpB z = nt at *
  generalize idOf packB s = x at *
  obtain ⟨x1, x2⟩ := x
  have b1 : (np.toList == np.toList) = true := by simp
  have b2 : (nt.toList == nt.toList) = true := by simp
  have b3 : (x1 == x1) = true := by simp
  have b4 : (x2 == x2) = true := by simp
  go_enter Tryz.func3, Tryz.ntmps3
  go_wp2_with fail
  refine (HS.out w HV.out).mono ?_
  rintro e w1 ⟨rfl, hb⟩
  have HV1 := hid (HV.out.below hb)
  have HB1 := hid hb
  clear hb HV
  go_wp2_with fail
  refine (HRI.out w1).mono ?_
  rintro e w2 ⟨rfl, hb⟩
  have HV2 := hid (HV1.out.below hb)
  have HB2 := hid (HB1.out.trans (hb.mono HB1.out.size))
  clear hb HV1 HB1
  go_wp2_with fail
  refine (HN.out w2 HV2.out).mono ?_
  rintro e w3 ⟨rfl, hb⟩
  have HV3 := hid (HV2.out.below hb)
  have HB3 := hid (HB2.out.trans (hb.mono HB2.out.size))
  clear hb HV2 HB2
  go_wp2_with fail
  refine (HC2.out w3 HV3.out).mono ?_
  rintro e w4 ⟨rfl, hb⟩
  have HV4 := hid (HV3.out.below hb)
  have HB4 := hid (HB3.out.trans (hb.mono HB3.out.size))
  clear hb HV3 HB3
  go_wp2_with fail
  refine (HN.out w4 HV4.out).mono ?_
  rintro e w5 ⟨rfl, hb⟩
  have HV5 := hid (HV4.out.below hb)
  have HB5 := hid (HB4.out.trans (hb.mono HB4.out.size))
  clear hb HV4 HB4
  go_wp2_with fail
  refine (HRN.out w5).mono ?_
  rintro e w6 ⟨rfl, hb⟩
  have HV6 := hid (HV5.out.below hb)
  have HB6 := hid (HB5.out.trans (hb.mono HB5.out.size))
  clear hb HV5 HB5
  go_wp2_with fail
  refine (HT.out w6 HV6.out).mono ?_
  rintro e w7 ⟨rfl, hb⟩
  have HV7 := hid (HV6.out.below hb)
  have HB7 := hid (HB6.out.trans (hb.mono HB6.out.size))
  clear hb HV6 HB6
  go_wp2_with fail
  refine (HRT.out w7).mono ?_
  rintro e w8 ⟨rfl, hb⟩
  have HB8 := hid (HB7.out.trans (hb.mono HB7.out.size))
  clear hb HV7 HB7
  cases c2 with
  | true =>
    have e1 := HC1.out rfl
    subst e1
    have b5 : (c1 == c1) = true := by simp
    go_wp2_with fail
    refine (HR.out w8).mono ?_
    rintro e w9 ⟨rfl, hw⟩
    subst w9
    go_wp2_with fail
    refine (alive_any w8).mono ?_
    rintro e w9 ⟨rfl, hb⟩
    have HB9 := hid (HB8.out.trans (hb.mono HB8.out.size))
    clear hb
    go_wp2
    go_ret
    exact ⟨rfl, HB9.out⟩
  | false =>
    go_wp2_with fail
    refine (HR.out w8).mono ?_
    rintro e w9 ⟨rfl, hw⟩
    subst w9
    go_wp2_with fail
    refine (alive_any w8).mono ?_
    rintro e w9 ⟨rfl, hb⟩
    have HB9 := hid (HB8.out.trans (hb.mono HB8.out.size))
    clear hb
    go_wp2
    go_ret
    exact ⟨rfl, HB9.out⟩

end Go.Proofs.YtophnjcoaglbnaaGreatDoor
end

section
/-
  A world that holds the listed variables: two errors, three tables.
-/
namespace Go.Proofs.YtophnjcoaglbnaaGreatDoor
open Go.ChangeShapes Go.WideShapes Go.ChangeAt Go.RowKit

theorem own : ownKnob Tryz.prog.godebug = none := by kernel_rfl
theorem laidOut : laidOutB Tryz.prog = true := by kernel_rfl
abbrev laidFive : List (String × DataW Unit) := Rows.packNamesRow.laid
def lay (cells : Array Value) : Obj → Obj
  | .cells _ t frozen => .cells cells t frozen
  | o => o
def tab32 : Array Value := (Lib.deBruijn32tab.map fun n : Nat => Value.int .u8 (n : Int)).toArray
def tab64 : Array Value := (Lib.deBruijn64tab.map fun n : Nat => Value.int .u8 (n : Int)).toArray
def tab10 : Array Value := ((List.range 20).map fun n : Nat => Value.int .u64 ((10 ^ n : Nat) : Int)).toArray
def synS : ByteArray := { data := #[105, 110, 118, 97, 108, 105, 100, 32, 115, 121, 110, 116, 97, 120] }
def rngS : ByteArray := { data := #[118, 97, 108, 117, 101, 32, 111, 117, 116, 32, 111, 102, 32, 114, 97, 110, 103, 101] }
theorem low10 : (World.holding Tryz.prog default ⟨#[], #[], []⟩).heap.size = 10 := by kernel_rfl
theorem laid_met (os : Os) (args : Array Value) : laidMet Tryz.prog laidFive (({ World.holding Tryz.prog os ⟨#[.cells #[.string synS] 286, .cells #[.string rngS] 286], #[], []⟩ with heap := (((((World.holding Tryz.prog os ⟨#[.cells #[.string synS] 286, .cells #[.string rngS] 286], #[], []⟩).heap.modify 0 (lay #[.iface 284 (.pointer (some ⟨10, 0, none⟩))])).modify 1 (lay #[.iface 284 (.pointer (some ⟨11, 0, none⟩))])).modify 2 (lay tab10)).modify 3 (lay tab32)).modify 4 (lay tab64) } : World).forCall (fun _ _ => 0) ⟨#[], args, []⟩).memory :=
  laidMet_of_run' 8 (by kernel_rfl) (by kernel_rfl)
end Go.Proofs.YtophnjcoaglbnaaGreatDoor
end

section
/-
  The listed variables, as the walks want them.
-/
namespace Go.Proofs.YtophnjcoaglbnaaGreatDoor
open Go.ChangeShapes Go.WideShapes Go.ChangeAt Go.RowKit

theorem star : "*" ++ "errors.errorString" = "*errors.errorString" := by decide
theorem errRow (u : TypeId) (h : Tryz.prog.typeName? 3 u = some "*errors.errorString") : u = 284 :=
  typeName_ptr_named (nm := "errors.errorString") (by rw [star]; kernel_rfl) (by kernel_rfl) (by decide) u (by rw [star]; exact h)
theorem gSyn : Tryz.prog.globalNamed "strconv.ErrSyntax" = some 0 := by kernel_rfl
theorem gRng : Tryz.prog.globalNamed "strconv.ErrRange" = some 1 := by kernel_rfl
theorem gPow : Tryz.prog.globalNamed "internal/strconv.uint64pow10" = some 2 := by kernel_rfl
theorem tSyn : (Tryz.prog.globals[0]?).map (·.type) = some 159 := by kernel_rfl
theorem tRng : (Tryz.prog.globals[1]?).map (·.type) = some 159 := by kernel_rfl
theorem tPow : (Tryz.prog.globals[2]?).map (·.type) = some 289 := by kernel_rfl
theorem cErr : Tryz.prog.cellsOf 286 = 1 := by kernel_rfl
theorem cStr : Tryz.prog.cellsOf 9 = 1 := by kernel_rfl
theorem cU64 : Tryz.prog.cellsOf 168 = 1 := by kernel_rfl
theorem cPow : Tryz.prog.cellsOf 289 = 20 := by kernel_rfl
theorem powIs : (Rows.laid_internal_strconv_uint64pow10 : DataW Unit) = Lib.tabData .u64 Lib.pow10Tab := rfl

theorem vars_of_laid {W : World} (h : laidMetH Tryz.prog laidFive W) : Vars W := by
  rw [MakeChecks.laidMetH_plain _ _ _ (by kernel_rfl)] at h
  have h0 : laidMet Tryz.prog (("math/bits.deBruijn32tab", Rows.laid_math_bits_deBruijn32tab) :: ("math/bits.deBruijn64tab", Rows.laid_math_bits_deBruijn64tab) :: ("internal/strconv.uint64pow10", Rows.laid_internal_strconv_uint64pow10) :: ("strconv.ErrRange", Rows.laid_strconv_ErrRange) :: ("strconv.ErrSyntax", Rows.laid_strconv_ErrSyntax) :: []) W := h
  have h2 := h0.tail.tail
  have h3 := h2.tail
  have h4 := h3.tail
  rw [powIs] at h2
  have t := Lib.tabIs_of_head gPow tPow Tryz.underlying289 Tryz.underlying168 cU64 cPow h2
  obtain ⟨a1, s1, v1, _⟩ := laid_sentinel h3 gRng tRng Tryz.underlying159 errRow Tryz.underlying284 Tryz.underlying286 rfl rfl Tryz.underlying9 cErr cStr
  obtain ⟨a2, s2, v2, _⟩ := laid_sentinel h4 gSyn tSyn Tryz.underlying159 errRow Tryz.underlying284 Tryz.underlying286 rfl rfl Tryz.underlying9 cErr cStr
  exact ⟨t, ⟨_, _, v2⟩, ⟨_, _, v1⟩⟩

end Go.Proofs.YtophnjcoaglbnaaGreatDoor
end
