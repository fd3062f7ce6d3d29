/- Of the proof: the texts FrBackM, PkAlive, PkNils, PkLaid, FrOpen, one behind the other. -/
import Derived.Test.YtbgjcemknkplbaaGreatDoorB9
import Derived.Test.YtbgjcemknkplbaaGreatDoorB11
import Derived.Test.YtbgjcemknkplbaaGreatDoorB13
import Derived.Test.YtbgjcemknkplbaaGreatDoorCards
import Derived.Test.YtbgjcemknkplbaaGreatDoorTie
import Derived.ProofKit
import Derived.OpenShut
import Derived.Deep.DeepHandedRow
import Derived.Lib.LaidTab
import Derived.MakeChecks
import Derived.Lib.TrailingZeros
import Derived.Test.YtbgjcemknkplbaaGreatDoorB6
import Derived.Deep.Slices
import Derived.Deep.Strs
import Derived.Lib.SmallJoins
import Derived.WideKeyArr2
section
/-
  Plain mathematics: frames laid one behind the other, and cut off anywhere, are scanned to those that are whole.
-/
namespace Go.Proofs.YtbgjcemknkplbaaGreatDoor

abbrev Rec : Type := Int × List Int × List Int
def frOf (r : Rec) : List Int := frameR r.1 r.2.1 r.2.2
def Rt (r : Rec) : Prop := RightR r.1 r.2.1 r.2.2
theorem frOf_length {r : Rec} (h : Rt r) : (frOf r).length = 49 + r.2.2.length := frameR_length h

/-- Frames, one behind the other. -/
def cat : List Rec → List Int
  | [] => []
  | r :: rs => frOf r ++ cat rs
theorem cat_snoc (r : Rec) : ∀ rs : List Rec, cat (rs ++ [r]) = cat rs ++ frOf r
  | [] => by simp [cat]
  | x :: rs => by rw [List.cons_append, cat, cat, cat_snoc r rs, List.append_assoc]
theorem cat_length : ∀ {rs : List Rec}, (∀ r ∈ rs, Rt r) → (cat rs).length ≤ rs.length * 5049
  | [], _ => by simp [cat]
  | r :: rs, h => by
    have h1 := cat_length (fun x hx => h x (List.mem_cons_of_mem _ hx))
    have h2 := frOf_length (h r List.mem_cons_self)
    have h3 := (h r List.mem_cons_self).2.2.1
    rw [cat, List.length_append, List.length_cons]
    omega
theorem cat_bd : ∀ {rs : List Rec}, (∀ r ∈ rs, Rt r) → ∀ x ∈ cat rs, 0 ≤ x ∧ x ≤ 255
  | [], _, x, hx => by simp [cat] at hx
  | r :: rs, h, x, hx => by
    rw [cat] at hx
    rcases List.mem_append.1 hx with hx | hx
    · exact frameR_bd (h r List.mem_cons_self) x hx
    · exact cat_bd (fun y hy => h y (List.mem_cons_of_mem _ hy)) x hx

/-- What is found of them, from a place on. -/
def itemsOf : Nat → List Rec → List Item
  | _, [] => []
  | p, r :: rs => (p, (0, r, (frOf r).length)) :: itemsOf (p + (frOf r).length) rs
theorem itemsOf_length : ∀ (p : Nat) (rs : List Rec), (itemsOf p rs).length = rs.length
  | _, [] => rfl
  | p, r :: rs => by rw [itemsOf, List.length_cons, List.length_cons, itemsOf_length]
theorem itemsOf_get : ∀ (p : Nat) (rs : List Rec) (j : Nat) (r : Rec), rs[j]? = some r → (itemsOf p rs)[j]? = some (p + (cat (rs.take j)).length, (0, r, (frOf r).length))
  | _, [], j, r, h => by simp at h
  | p, x :: rs, 0, r, h => by
    simp only [List.getElem?_cons_zero, Option.some.injEq] at h
    subst h
    simp [itemsOf, cat]
  | p, x :: rs, j + 1, r, h => by
    have h1 : rs[j]? = some r := by simpa using h
    have := itemsOf_get (p + (frOf x).length) rs j r h1
    simp only [itemsOf, List.getElem?_cons_succ, List.take_succ_cons, cat, List.length_append]
    rw [this]
    simp only [Option.some.injEq, Prod.mk.injEq, and_true]
    omega

/-- How many are whole in the first c bytes. -/
def cnt : List Rec → Nat → Nat
  | [], _ => 0
  | r :: rs, c => if (frOf r).length ≤ c then cnt rs (c - (frOf r).length) + 1 else 0
theorem cnt_le : ∀ (rs : List Rec) (c : Nat), cnt rs c ≤ rs.length
  | [], _ => Nat.le_refl _
  | r :: rs, c => by
    rw [cnt]
    split
    · have := cnt_le rs (c - (frOf r).length)
      rw [List.length_cons]
      omega
    · omega
theorem cnt_all : ∀ (rs : List Rec) (c : Nat), (cat rs).length ≤ c → cnt rs c = rs.length
  | [], _, _ => rfl
  | r :: rs, c, h => by
    rw [cat, List.length_append] at h
    rw [cnt, if_pos (by omega), cnt_all rs _ (by omega), List.length_cons]
/-- The frames that end at or ahead of c are the first ones. -/
theorem cnt_iff : ∀ (rs : List Rec) (c j : Nat), j < rs.length → ((cat (rs.take (j + 1))).length ≤ c ↔ j < cnt rs c)
  | [], _, j, h => by simp at h
  | r :: rs, c, 0, h => by
    rw [cnt, List.take_succ_cons, List.take_zero, cat, cat, List.append_nil]
    split <;> omega
  | r :: rs, c, j + 1, h => by
    rw [cnt, List.take_succ_cons, cat, List.length_append]
    have := cnt_iff rs (c - (frOf r).length) j (by simpa using h)
    split
    · omega
    · omega
theorem cnt_end : ∀ (rs : List Rec) (c : Nat), (cat (rs.take (cnt rs c))).length ≤ c
  | [], _ => by simp [cnt, cat]
  | r :: rs, c => by
    rw [cnt]
    split
    · have := cnt_end rs (c - (frOf r).length)
      rw [List.take_succ_cons, cat, List.length_append]
      omega
    · simp [cat]

theorem scan_cat : ∀ (rs : List Rec) (pre : List Int) (c : Nat), (∀ r ∈ rs, Rt r) → c ≤ (cat rs).length →
    scanR (tl (pre ++ (cat rs).take c) pre.length) pre.length = (itemsOf pre.length (rs.take (cnt rs c)), pre.length + (cat (rs.take (cnt rs c))).length, if (cat (rs.take (cnt rs c))).length = c then 0 else 16)
  | [], pre, c, _, hc => by
    have h0 : c = 0 := by simpa [cat] using hc
    subst h0
    rw [tl_end (by simp [cat])]
    simp [scanR, cnt, itemsOf, cat]
  | r :: rs, pre, c, hr, hc => by
    have hR := hr r List.mem_cons_self
    have hl := frOf_length hR
    have hrs : ∀ x ∈ rs, Rt x := fun x hx => hr x (List.mem_cons_of_mem _ hx)
    rw [cat, List.length_append] at hc
    by_cases h1 : (frOf r).length ≤ c
    · have e : (cat (r :: rs)).take c = frOf r ++ (cat rs).take (c - (frOf r).length) := by rw [cat, List.take_append, List.take_of_length_le h1]
      have hd : (pre ++ (cat (r :: rs)).take c).drop pre.length = frOf r ++ (cat rs).take (c - (frOf r).length) := by rw [e, List.drop_left' rfl]
      have ht : takeF ((pre ++ (cat (r :: rs)).take c).drop pre.length) = (0, r, (frOf r).length) := by rw [hd, hl]; exact take_frame hR _
      have hlt : pre.length < (pre ++ (cat (r :: rs)).take c).length := by rw [e, List.length_append, List.length_append]; omega
      rw [tl_good hlt (by rw [ht]), ht]
      have ih := scan_cat rs (pre ++ frOf r) (c - (frOf r).length) hrs (by omega)
      have e2 : (pre ++ (cat (r :: rs)).take c) = (pre ++ frOf r) ++ (cat rs).take (c - (frOf r).length) := by rw [e, List.append_assoc]
      have e3 : pre.length + (frOf r).length = (pre ++ frOf r).length := by rw [List.length_append]
      rw [scanR, if_pos rfl, e2, show (pre.length, ((0 : Int), r, (frOf r).length)).fst + (pre.length, ((0 : Int), r, (frOf r).length)).snd.snd.snd = (pre ++ frOf r).length from e3,
        ih, cnt, if_pos h1, List.take_succ_cons, itemsOf, cat, List.length_append, List.length_append]
      simp only [Prod.mk.injEq, true_and]
      refine ⟨by omega, ?_⟩
      by_cases h2 : (cat (rs.take (cnt rs (c - (frOf r).length)))).length = c - (frOf r).length
      · rw [if_pos h2, if_pos (by omega)]
      · rw [if_neg h2, if_neg (by omega)]
    · have e : (cat (r :: rs)).take c = (frOf r).take c := by rw [cat, List.take_append_of_le_length (by omega)]
      have hc0 : cnt (r :: rs) c = 0 := by rw [cnt, if_neg h1]
      rw [hc0, e]
      by_cases h0 : c = 0
      · subst h0
        rw [tl_end (by simp)]
        simp [scanR, itemsOf, cat]
      · have hd : (pre ++ (frOf r).take c).drop pre.length = (frOf r).take c := by rw [List.drop_left' rfl]
        have ht : takeF ((pre ++ (frOf r).take c).drop pre.length) = noRec 16 := by rw [hd]; exact take_cut hR (by omega)
        have hlt : pre.length < (pre ++ (frOf r).take c).length := by rw [List.length_append, List.length_take]; omega
        rw [tl_bad hlt (by rw [ht]; simp [noRec]), ht, scanR, if_neg (by simp [noRec])]
        simp only [List.take_zero, itemsOf, cat, List.length_nil, Nat.add_zero]
        rw [if_neg (by omega)]
        rfl

/-- What Scan finds in the first c bytes. -/
theorem scanF_cat {rs : List Rec} {c : Nat} (hr : ∀ r ∈ rs, Rt r) (hc : c ≤ (cat rs).length) :
    scanF ((cat rs).take c) = (itemsOf 0 (rs.take (cnt rs c)), (cat (rs.take (cnt rs c))).length, if (cat (rs.take (cnt rs c))).length = c then 0 else 16) := by
  have h := scan_cat rs [] c hr hc
  simpa [scanF] using h

theorem scanR_mem : ∀ (L : List Item) (p : Nat), ∀ x ∈ (scanR L p).1, x ∈ L
  | [], p, x, h => by simp [scanR] at h
  | y :: L, p, x, h => by
    rw [scanR] at h
    split at h
    · rcases List.mem_cons.1 h with rfl | h
      · exact List.mem_cons_self
      · exact List.mem_cons_of_mem _ (scanR_mem L _ x h)
    · simp at h
/-- What stands at the place of the record j. -/
theorem at_cat {rs : List Rec} {c j : Nat} {r : Rec} (hr : ∀ r ∈ rs, Rt r) (hc : c ≤ (cat rs).length) (hj : j < cnt rs c) (hg : rs[j]? = some r) :
    (cat (rs.take j)).length < ((cat rs).take c).length ∧ takeF (((cat rs).take c).drop (cat (rs.take j)).length) = (0, r, (frOf r).length) := by
  have h1 : (rs.take (cnt rs c))[j]? = some r := by rw [List.getElem?_take_of_lt hj]; exact hg
  have h2 := itemsOf_get 0 _ j r h1
  have h3 : (0 + (cat ((rs.take (cnt rs c)).take j)).length, ((0 : Int), r, (frOf r).length)) ∈ (scanF ((cat rs).take c)).1 := by
    rw [scanF_cat hr hc]
    exact List.mem_of_getElem? h2
  obtain ⟨m1, m2⟩ := tl_mem _ _ 0 (Nat.le_refl _) _ (scanR_mem _ _ _ h3)
  rw [List.take_take, Nat.min_eq_left (by omega)] at m1 m2
  simp only [Nat.zero_add] at m1 m2
  exact ⟨m1, m2.symm⟩

end Go.Proofs.YtbgjcemknkplbaaGreatDoor
end

section
/-
  What must come at any rate: the chapter's example, and a pack.
-/
namespace Go.Proofs.YtbgjcemknkplbaaGreatDoor
open Go.RowKit Go.Shelf
open Tlv (BySlS)
open Sim (hid Kp No PS Done Blk nm finds pBytes pFsync pRename pSyncDir pCreate pAppend)

theorem builtR (k : Int) (a : Option Addr) (l c : Nat) : Tryz.prog.built 40 [(0, .int .i64 k), (2, .slice a l c)] = some (recA k (List.replicate 32 0) (.slice a l c)).toArray := by kernel_rfl

theorem nT_ok : Sim.nameB (nm (nameT 7)) = true := by rw [nameT_7]; decide
theorem nP_ok : Sim.nameB (nm (nameP 7)) = true := by rw [nameP_7]; decide
def recX : Rec := (1, List.replicate 32 0, [120])
theorem recX_ok : Rt recX := rightX
theorem frX : putX 1 (List.replicate 32 0) [120] = frOf recX := rfl
theorem frX_len : (frOf recX).length = 50 := frOf_length recX_ok
theorem scanX : scanF (frOf recX) = ([(0, (0, recX, 50))], 50, 0) := by
  have h := scanF_cat (rs := [recX]) (c := (cat [recX]).length) (by intro r hr; rw [List.mem_singleton.1 hr]; exact recX_ok) (Nat.le_refl _)
  have e1 : cat [recX] = frOf recX := by simp [cat]
  rw [cnt_all _ _ (Nat.le_refl _), List.take_length, List.take_length, e1, if_pos rfl] at h
  rw [h, frX_len]
  simp [itemsOf, frX_len]

theorem add_x (x : Nat) : addF 7 0 0 (frOf recX) true (Sim.q1 (nm (nameT 7)) 1000 x) = (0, 0, Sim.q2 (nm (nameT 7)) 1000 x (nats (frOf recX)), 50, 1) := by
  have h := Sim.q1_append (b := x) (r := 1000) (ys := nats (frOf recX)) nT_ok (by rw [nats_length, frX_len]; omega)
  rw [addF, if_neg (by simp), if_neg (by rw [frX_len]; omega), h]
  simp [frX_len]
theorem seal_x (x : Nat) (ys : List Nat) : sealF 7 (Sim.q2 (nm (nameT 7)) 1000 x ys) = (0, Sim.q5 (nm (nameT 7)) (nm (nameP 7)) 1000 x ys) := by
  rw [sealF, Sim.q2_fsync nT_ok, if_neg (by simp), Sim.q3_rename nT_ok nP_ok, if_neg (by simp), Sim.q4_sync]

set_option maxHeartbeats 4000000 in
set_option maxRecDepth 100000 in
theorem alive_any (w : World) :
    Calls Tryz.prog 9 #[] w fun e w' => e = .returned (.bool true) ∧ Below w.heap.size w w' := by
  have kc := fun (w : World) (C : Array Value) (n c : Nat) => Lib.run_convert_bytes_const (P := Tryz.prog) w 38 5 C n c Tryz.underlying38 Tryz.underlying5
  go_enter Tryz.func9, Tryz.ntmps9
  go_wp2_with fail
  refine (Sim.new_yes 1000 (by omega) w).mono ?_
  rintro e w1 ⟨rfl, hS1, hK1⟩
  have HS1 := hid hS1
  have HB1 : Hid (Below w.heap.size w w1) := hK1.toBelow'
  have HL1 : Hid (w.heap.size < w1.heap.size) := hS1.lt _ rfl
  clear hS1 hK1
  go_wp2_with fail
  refine (Crc.new_any w1).mono ?_
  rintro e w2 ⟨rfl, hb2, hs2, ht2⟩
  have HS2 : Hid (Sim.Sys (· = w.heap.size) 0 w2 w.heap.size (Sim.startPS 1000)) := HS1.out.kept (Kp.below hb2)
  have HT2 : Hid (TabX w2 w1.heap.size) := ⟨0, 0, .inl rfl, ht2⟩
  have HB2 : Hid (Below w.heap.size w w2) := HB1.out.trans (hb2.mono HB1.out.size)
  have HL2 : Hid (w1.heap.size < w2.heap.size) := by rw [Hid]; omega
  clear hb2 hs2 ht2 HS1 HB1
  go_wp2_with fail
  refine (begin_any w2 w.heap.size w1.heap.size (Sim.startPS 1000) 7 (by omega) (by omega) HS2.out (by omega)).mono ?_
  rintro e w3 hbg
  have hbg' : ∃ x g P', e = .returned (.tuple #[.pointer (some ⟨g, 0, none⟩), .int .i64 0]) ∧ WrAt w3 g w.heap.size w1.heap.size 7 0 0 false ∧ Sim.Sys P' 1 w3 w.heap.size (Sim.q1 (nm (nameT 7)) 1000 x) ∧ Kp (· = w.heap.size) w2 w3 ∧ (∀ y, P' y → y = w.heap.size ∨ w2.heap.size ≤ y) ∧ ¬ P' g ∧ w2.heap.size ≤ g := by
    rcases hbg with ⟨h, _⟩ | ⟨_, x, _, h⟩
    · rw [Sim.start_finds nP_ok] at h
      omega
    · rw [Sim.start_create nT_ok] at h
      rcases h with ⟨h, _⟩ | ⟨_, g, P', h1, h2, h3, h4, h5, h6, h7⟩
      · exact absurd rfl h
      · exact ⟨x, g, P', h1, h2, h3, h4, h5, h6, h7⟩
  obtain ⟨x, g, P', rfl, hW3, hS3, hK3, hP3, hng, hg3⟩ := hbg'
  have HW3 := hid hW3
  have HS3 := hid hS3
  have HL3 : Hid (w2.heap.size ≤ w3.heap.size) := hK3.size
  have HB3 : Hid (Below w.heap.size w w3) := Kp.under HB2.out hK3 (fun y hy => by rw [hy]; exact Nat.le_refl _) HB2.out.size
  have HT3 : Hid (TabX w3 w1.heap.size) := HT2.out.kp hK3 (by have := HL1.out; omega)
  have HNP : Hid (¬ P' g ∧ ¬ P' w1.heap.size ∧ g ≠ w1.heap.size ∧ g < w3.heap.size) := ⟨hng, fun h => by
    have := HL1.out
    have := HL2.out
    rcases hP3 _ h with e | e <;> omega, by have := HL2.out; omega, hW3.lt⟩
  have HGE : Hid (w.heap.size ≤ g) := by
    have := HL1.out
    have := HL2.out
    rw [Hid]
    omega
  have HPL : Hid (∀ y, P' y → w.heap.size ≤ y) := fun y hy => by
    have := HL1.out
    have := HL2.out
    rcases hP3 y hy with e | e <;> omega
  clear hbg hW3 hS3 hK3 hP3 hng hg3 HS2 HT2
  obtain ⟨W3, hW3⟩ : ∃ W3, w3.alloc (Obj.cells #[Value.int IntKind.u8 120] 5 (1, 2)) = W3 := ⟨_, rfl⟩
  have hb3 : Below w3.heap.size w3 W3 := by rw [← hW3]; exact (Below.refl _ _).alloc (Nat.le_refl _) _
  have hx3 : Tlv.BySl 0 W3.heap.size W3 (.slice (some ⟨w3.heap.size, 0, none⟩) 1 1) [120] := by
    rw [← hW3]
    exact (ofCrc (Crc.bySl_lit w1.heap.size w3 (by have := HL2.out; have := HL3.out; omega) [120] (by decide) (by decide) (1, 2))).to (fun g hg => hg.2)
  have HBU := hid (builtR 1 (some ⟨w3.heap.size, 0, none⟩) 1 1)
  have HOWN := hid (fun V => own11_any 1 (List.replicate 32 0) (some ⟨w3.heap.size, 0, none⟩) 1 1 V (by simp))
  have HADD := hid (fun V (hV : Below W3.heap.size W3 V) => addW_any (P := P') (N := 1) V g w.heap.size w1.heap.size 7 0 0 (Sim.q1 (nm (nameT 7)) 1000 x) 1 (List.replicate 32 0) [120] (.slice (some ⟨w3.heap.size, 0, none⟩) 1 1) (by omega) (by omega)
    ((HW3.out.kp (L := No) (Kp.below hb3) (fun h => h)).kp (L := No) (Kp.below hV) (fun h => h)) ((HS3.out.kept (Kp.below hb3)).kept (Kp.below hV)) (by omega) ((HT3.out.below hb3).below hV) HNP.out.2.1 HNP.out.1 HNP.out.2.2.1
    (hx3.agree (Tlv.Agree.below hV) (Nat.le_refl _) hV.size) (by simp) zeros32 (by rw [frX, frX_len]; omega) (by omega) (by omega))
  have HLW3 : Hid (w3.heap.size ≤ W3.heap.size) := hb3.size
  have HBW3 : Hid (Below w.heap.size w W3) := HB3.out.trans (hb3.mono HB3.out.size)
  obtain ⟨C2, hC2⟩ : ∃ C2, recA 1 (List.replicate 32 0) (.slice (some ⟨w3.heap.size, 0, none⟩) 1 1) = C2 := ⟨_, rfl⟩
  have hrB : rightB 1 [(120 : Int)].length = true := by decide
  rw [hC2] at HBU
  rw [show recA 1 (List.replicate 32 0) (.slice (some ⟨w3.heap.size, 0, none⟩) 1 1) = C2 from hC2] at HOWN HADD
  simp only [frX, hrB, add_x] at HADD
  clear hC2 hb3 hx3 hrB
  go_wp2_with (refine wpList_build2 (by rfl) 40 _ _ _ _ (by rfl) _ _ (by rfl) (by rfl) _ HBU.out ?_)
  clear kc hW3
  refine (HOWN.out W3).mono ?_
  rintro e w4 ⟨rfl, hb4⟩
  have HA4 := hid (HADD.out w4 hb4)
  have HB4 : Hid (Below w.heap.size w w4) := HBW3.out.trans (hb4.mono HBW3.out.size)
  have HL4 : Hid (W3.heap.size ≤ w4.heap.size) := hb4.size
  clear hb4 HADD HOWN HBU
  go_wp2_with fail
  refine HA4.out.mono ?_
  rintro e w5 ⟨rfl, hW5, hT5, P5, hS5, hK5, hP5⟩
  dsimp only at hW5 hS5 ⊢
  have HB5 : Hid (Below w.heap.size w w5) := Kp.under HB4.out hK5 (fun y hy => by
    have h1 := HL1.out
    have h2 := HL2.out
    rcases hy with e | e | e
    · exact HPL.out y e
    · omega
    · have h3 := HW3.out.lt
      rw [e]
      by_cases hgw : g < w.heap.size
      · exact absurd hgw (by have := HGE.out; omega)
      · omega) HB4.out.size
  have HN5 : Hid (¬ P5 g ∧ ¬ P5 w1.heap.size) := by
    have h1 := HNP.out
    have h2 := HLW3.out
    have h3 := HL4.out
    have h4 := HL2.out
    have h5 := HL3.out
    exact ⟨fun e => by rcases hP5 _ e with e | e
                       · exact h1.1 e
                       · omega, fun e => by rcases hP5 _ e with e | e
                                            · exact h1.2.1 e
                                            · omega⟩
  have HP5 : Hid (∀ y, P5 y → w.heap.size ≤ y) := fun y hy => by
    rcases hP5 y hy with e | e
    · exact HPL.out y e
    · have := HB4.out.size; omega
  have HSEAL := hid (sealW_any (P := P5) (N := 2) w5 g w.heap.size w1.heap.size 7 50 1 _ (by omega) (by omega) hW5 hS5 (by omega) hT5 HN5.out.2 HN5.out.1 HNP.out.2.2.1 (by omega))
  rw [seal_x] at HSEAL
  clear hW5 hT5 hS5 hK5 hP5 HA4
  go_wp2_with fail
  refine HSEAL.out.mono ?_
  rintro e w6 ⟨rfl, hW6, hT6, P6, hS6, hK6, hP6⟩
  have HB6 : Hid (Below w.heap.size w w6) := Kp.under HB5.out hK6 (fun y hy => by
    rcases hy with e | e
    · exact HP5.out y e
    · rw [e]; have := HGE.out; omega) HB5.out.size
  have e1 : pBytes (nm (nameP 7)) (Sim.q5 (nm (nameT 7)) (nm (nameP 7)) 1000 x (nats (frOf recX))) = nats (frOf recX) := Sim.q5_bytes nP_ok
  have HLOAD := hid (load_any w6 w.heap.size w1.heap.size _ 7 (by omega) (by omega) hS6 hT6 (by rw [e1]; exact nats_lt _ (frameR_bd recX_ok)) (by rw [e1, nats_length, frX_len]; omega))
  rw [Sim.q5_finds nP_ok, e1, ints_nats (frOf recX) (frameR_bd recX_ok), scanX] at HLOAD
  clear hW6 hT6 hS6 hK6 hP6 e1 HSEAL
  go_wp2_with fail
  refine HLOAD.out.mono ?_
  rintro e w7 ⟨hl, hk7, ht7⟩
  have hl' : ∃ a c, e = .returned (.tuple #[.slice a 1 c, .int .i64 0]) ∧ PRow 97 w6.heap.size w1.heap.size w7 (.slice a 1 c) [(0, (0, recX, 50))] := by
    rcases hl with ⟨h, _⟩ | ⟨_, h, _⟩ | ⟨_, _, _, a, c, h1, h2⟩
    · exact absurd rfl h
    · rcases h with h | h
      · exact absurd rfl h
      · exact absurd h (by simp)
    · exact ⟨a, c, h1, h2⟩
  obtain ⟨al, cl, rfl, hp⟩ := hl'
  obtain ⟨gg, cgg, a', c', hsl, hgb, hgl, hnm, hrg, hbg⟩ := hp.get 0 _ rfl
  simp only [Value.slice.injEq, List.length_singleton, true_and] at hsl
  obtain ⟨rfl, rfl⟩ := hsl
  have HB7 : Hid (Below w.heap.size w w7) := Crc.Kept.toBelow HB6.out hk7 (by have := HL1.out; omega)
  have cg : w7.cell? ⟨gg, 35, none⟩ = some (.slice a' 1 c') := by
    have h := hrg 35 (.slice a' 1 c') rfl
    simpa using h
  have HBG := hid hbg
  clear hl hk7 ht7 hp hrg hbg hnm hgb HLOAD
  go_wp2_with fail
  refine (id_07 w7).mono ?_
  rintro e w8 ⟨rfl, hb8⟩
  have HB8 : Hid (Below w.heap.size w w8) := HB7.out.trans (hb8.mono HB7.out.size)
  have cg8 : w8.cell? ⟨gg, 35, none⟩ = some (.slice a' 1 c') := (hb8.cell (p := ⟨gg, 35, none⟩) hgl).trans cg
  have hcv := Tlv.conv_bytes ((BySlS.below HBG.out hb8 (fun g hg => hg.2.2.1)).to (B := w8.heap.size) (fun g hg => Nat.lt_of_lt_of_le hg.2.2.1 hb8.size))
  have hcv' : (convert 38 9 (.slice a' 1 c')).run Tryz.prog w8 = .ok (.string ⟨#[120]⟩) w8 := by
    have hse : strOfNums [120] = ⟨#[120]⟩ := by decide +kernel
    rw [← hse]
    exact hcv
  have HNA := hid (fun V => pname_small 7 (by omega) (by omega) V)
  rw [nameP_7] at HNA
  clear hb8 cg hcv
  go_wp2_with (go_at_call 46; refine (HNA.out _).mono ?_; rintro e w9 ⟨rfl, h⟩; subst w9)
  go_ret
  exact ⟨rfl, HB8.out⟩
end Go.Proofs.YtbgjcemknkplbaaGreatDoor
end

section
/-
  PackNils, walked.
-/
namespace Go.Proofs.YtbgjcemknkplbaaGreatDoor
open Go.RowKit Go.Shelf
open Tlv (BySlS)
open Sim (hid Kp No)

theorem box52 (w : World) {Z C : List Value} (hZ : Z.length = 34) (hC : C.length = 34) :
    World.there (w.alloc (.cells Z.toArray 52)) w.heap.size 0 C.toArray.size ∧ Below w.heap.size w ((w.alloc (.cells Z.toArray 52)).setCells w.heap.size 0 C) := by
  have h := there_new w Z 52
  rw [hZ] at h
  have e : C.toArray.size = 34 := hC
  exact ⟨by rw [e]; exact h, ((Below.refl _ _).alloc (Nat.le_refl _) _).trans (setCells_below (Nat.le_refl _) _ _ _)⟩

set_option maxHeartbeats 1000000 in
set_option maxRecDepth 100000 in
theorem nils_main (k : Int) (nmr : List Int) (a : Option Addr) (l c : Nat) (z : Int) (w : World) (hn : nmr.length = 32) (hl : l ≤ 9223372036854775807) :
    Calls Tryz.prog 7 #[.agg (recA k nmr (.slice a l c)).toArray, .int .i64 z] w fun e w' => e = .returned (.bool true) ∧ Below w.heap.size w w' := by
  have HCL := hid (recA_length k nmr (.slice a l c) hn)
  have H33 := hid (recA_33 k nmr (.slice a l c) hn)
  have HOWN := hid (fun V => own11_any k nmr a l c V hn)
  obtain ⟨C, hC⟩ : ∃ C, recA k nmr (.slice a l c) = C := ⟨_, rfl⟩
  rw [hC] at HCL H33 HOWN
  rw [hC]
  clear hC
  have HI : Hid ((Tryz.prog.info? 40).map (·.size) = some C.length) := by rw [Hid, HCL.out]; exact Tryz.info26
  have HRN := hid (range_new w C 40)
  have hb0 : Below w.heap.size w (w.alloc (.cells C.toArray 40)) := (Below.refl _ _).alloc (Nat.le_refl _) _
  have c33 : (w.alloc (.cells C.toArray 40)).cell? ⟨w.heap.size, 33, none⟩ = some (.slice a l c) := by
    have h := HRN.out 33 _ H33.out
    simpa using h
  have hs0 : (w.alloc (.cells C.toArray 40)).heap.size = w.heap.size + 1 := by simp
  by_cases hbig : 5100 < l
  · have hbig' : (5100 : Int) < (l : Int) := by omega
    go_enter Tryz.func7, Tryz.ntmps7
    generalize hWW : w.alloc (.cells C.toArray 40) = W at *
    have HB0 := hid hb0
    clear hb0 hs0
    go_wp2_with fail
    refine (alive_any W).mono ?_
    rintro e w1 ⟨rfl, hb⟩
    have HB := hid (HB0.out.trans (hb.mono HB0.out.size))
    clear hb
    go_wp2_with fail
    go_ret
    exact ⟨rfl, HB.out⟩
  · have hbig' : ¬ (5100 : Int) < (l : Int) := by omega
    have hz0 := zero35
    obtain ⟨Z, hZ⟩ : ∃ Z, zRec = Z := ⟨_, rfl⟩
    have HZ := hid hZ
    have HZL : Hid (Z.length = 34) := by rw [← hZ]; exact zRec_length
    have HZO : Hid (Z.toArray.all (·.oneCell') = true) := by rw [← hZ]; exact all_oneCell_toArray zRec_one
    have HZI : Hid ((Tryz.prog.info? 52).map (·.size) = some Z.toArray.size) := by rw [Hid, show Z.toArray.size = 34 from HZL.out]; exact Tryz.info35
    rw [hZ] at hz0
    clear hZ
    go_enter Tryz.func7, Tryz.ntmps7
    generalize hWW : w.alloc (.cells C.toArray 40) = W at *
    have HB0 := hid hb0
    have HS0 := hid hs0
    clear hb0 hs0
    go_wp2_with fail
    refine (Sim.new_yes 10 (by omega) W).mono ?_
    rintro e w1 ⟨rfl, _, hk1⟩
    have HB1 : Hid (Below W.heap.size W w1) := hk1.toBelow'
    clear hk1
    go_wp2_with fail
    refine (Crc.new_any w1).mono ?_
    rintro e w2 ⟨rfl, hb2, _, _⟩
    have HB2 : Hid (Below W.heap.size W w2) := HB1.out.trans (hb2.mono HB1.out.size)
    clear hb2 HB1
    have HR2 := hid (rangeAt_below HRN.out HB2.out (by have := HS0.out; omega))
    go_wp2_with fail
    refine (begin_nil (.pointer (some ⟨w1.heap.size, 0, none⟩)) 1 w2).mono ?_
    rintro e w3 ⟨rfl, h⟩
    subst w3
    go_wp2_with fail
    refine (begin_nilT ⟨W.heap.size, 0, none⟩ 1 w2).mono ?_
    rintro e w3 ⟨rfl, h⟩
    subst w3
    go_wp2_with (refine wpList_load_mid (by rfl) 40 _ (by rfl) w.heap.size 0 (by rfl) C _ HR2.out Tryz.underlying40 rfl HI.out ?_)
    refine (HOWN.out w2).mono ?_
    rintro e w3 ⟨rfl, hb3⟩
    have HB3 : Hid (Below W.heap.size W w3) := HB2.out.trans (hb3.mono HB2.out.size)
    clear hb3 HB2 HR2
    go_wp2_with fail
    refine (addW_nil C w3).mono ?_
    rintro e w4 ⟨rfl, hb4⟩
    have HB4 : Hid (Below W.heap.size W w4) := HB3.out.trans (hb4.mono HB3.out.size)
    clear hb4 HB3
    go_wp2_with fail
    refine (Crc.new_any w4).mono ?_
    rintro e w5 ⟨rfl, hb5, _, _⟩
    have HB5 : Hid (Below W.heap.size W w5) := HB4.out.trans (hb5.mono HB4.out.size)
    clear hb5 HB4
    go_wp2_with fail
    refine (load_nil ⟨w4.heap.size, 0, none⟩ 1 w5).mono ?_
    rintro e w6 ⟨rfl, h⟩
    subst w6
    go_wp2_with fail
    refine (get_nilT ⟨W.heap.size, 0, none⟩ 1 0 w5).mono ?_
    rintro e w6 ⟨rfl, hb6⟩
    rw [HZ.out]
    have HB6 : Hid (Below W.heap.size W w6) := HB5.out.trans (hb6.mono HB5.out.size)
    clear hb6 HB5
    have HS6 := hid (box52 w6 HZL.out HZL.out)
    have HB7 : Hid (Below W.heap.size W ((w6.alloc (.cells Z.toArray 52)).setCells w6.heap.size 0 Z)) := HB6.out.trans (HS6.out.2.mono HB6.out.size)
    go_wp2_with (refine wpList_store_mid (by rfl) 52 _ _ (by rfl) w6.heap.size 0 Z.toArray (by rfl) (by rfl) HS6.out.1 HZI.out HZO.out ?_)
    obtain ⟨W7, hW7⟩ : ∃ W7, (w6.alloc (.cells Z.toArray 52)).setCells w6.heap.size 0 Z = W7 := ⟨_, rfl⟩
    rw [hW7] at HB7 ⊢
    clear hW7 HS6
    refine (clean_nil W7).mono ?_
    rintro e w8 ⟨rfl, h⟩
    subst w8
    go_wp2_with fail
    refine (sizeW_nil W7).mono ?_
    rintro e w8 ⟨rfl, h⟩
    subst w8
    go_wp2_with fail
    refine (countW_nil W7).mono ?_
    rintro e w8 ⟨rfl, h⟩
    subst w8
    go_wp2_with fail
    refine (sealW_nil W7).mono ?_
    rintro e w8 ⟨rfl, h⟩
    subst w8
    go_wp2_with fail
    refine (abortW_nil W7).mono ?_
    rintro e w8 ⟨rfl, h⟩
    subst w8
    go_wp2_with fail
    refine (drop_nil 1 W7).mono ?_
    rintro e w8 ⟨rfl, h⟩
    subst w8
    go_wp2_with fail
    refine (ids_nil W7).mono ?_
    rintro e w8 ⟨rfl, hb8⟩
    have HB8 : Hid (Below W.heap.size W w8) := HB7.out.trans (hb8.mono HB7.out.size)
    clear hb8
    go_wp2_with fail
    refine (temps_nil w8).mono ?_
    rintro e w9 ⟨rfl, hb9⟩
    have HB9 : Hid (Below W.heap.size W w9) := HB8.out.trans (hb9.mono HB8.out.size)
    clear hb9
    go_wp2_with fail
    refine (alive_any w9).mono ?_
    rintro e w10 ⟨rfl, hb10⟩
    have HB10 : Hid (Below w.heap.size w w10) := HB0.out.trans ((HB9.out.trans (hb10.mono HB9.out.size)).mono HB0.out.size)
    clear hb10
    go_wp2_with fail
    go_ret
    exact ⟨rfl, HB10.out⟩
end Go.Proofs.YtbgjcemknkplbaaGreatDoor
end

section
/-
  A world that holds the listed variables: two errors, three tables.
-/
namespace Go.Proofs.YtbgjcemknkplbaaGreatDoor
open Go.ChangeShapes Go.WideShapes Go.ChangeAt Go.RowKit

theorem own : ownKnob Tryz.prog.godebug = none := by kernel_rfl
theorem laidOut : laidOutB Tryz.prog = true := by kernel_rfl
abbrev laidFive : List (String × DataW Unit) := Rows.packNilsRow.laid
def lay (cells : Array Value) : Obj → Obj
  | .cells _ t frozen => .cells cells t frozen
  | o => o
def tab32 : Array Value := (Lib.deBruijn32tab.map fun n : Nat => Value.int .u8 (n : Int)).toArray
def tab64 : Array Value := (Lib.deBruijn64tab.map fun n : Nat => Value.int .u8 (n : Int)).toArray
def tab10 : Array Value := ((List.range 20).map fun n : Nat => Value.int .u64 ((10 ^ n : Nat) : Int)).toArray
def synS : ByteArray := { data := #[105, 110, 118, 97, 108, 105, 100, 32, 115, 121, 110, 116, 97, 120] }
def rngS : ByteArray := { data := #[118, 97, 108, 117, 101, 32, 111, 117, 116, 32, 111, 102, 32, 114, 97, 110, 103, 101] }
theorem low10 : (World.holding Tryz.prog default ⟨#[], #[], []⟩).heap.size = 10 := by kernel_rfl
theorem laid_met (os : Os) (args : Array Value) : laidMet Tryz.prog laidFive (({ World.holding Tryz.prog os ⟨#[.cells #[.string synS] 324, .cells #[.string rngS] 324], #[], []⟩ with heap := (((((World.holding Tryz.prog os ⟨#[.cells #[.string synS] 324, .cells #[.string rngS] 324], #[], []⟩).heap.modify 0 (lay #[.iface 322 (.pointer (some ⟨10, 0, none⟩))])).modify 1 (lay #[.iface 322 (.pointer (some ⟨11, 0, none⟩))])).modify 2 (lay tab10)).modify 3 (lay tab32)).modify 4 (lay tab64) } : World).forCall (fun _ _ => 0) ⟨#[], args, []⟩).memory :=
  laidMet_of_run' 8 (by kernel_rfl) (by kernel_rfl)
end Go.Proofs.YtbgjcemknkplbaaGreatDoor
end

section
/-
  Records that came in, opened.
-/
namespace Go.Proofs.YtbgjcemknkplbaaGreatDoor
open Go.RowKit Go.ChangeShapes Go.WideShapes

theorem mapM_each {α β : Type} {f : α → Option β} : ∀ (L : List α) (ys : List β), L.mapM f = some ys → ∀ i ∈ L, ∃ y, f i = some y
  | [], _, _, i, hi => by simp at hi
  | a :: L, ys, h, i, hi => by
    rw [List.mapM_cons] at h
    simp only [bind, Option.bind_eq_some_iff, pure, Option.some.injEq] at h
    obtain ⟨y, hy, zs, hzs, _⟩ := h
    rcases List.mem_cons.1 hi with rfl | hi
    · exact ⟨y, hy⟩
    · exact mapM_each L zs hzs i hi

section
variable {H : Type} {enc : TypeId × Value → H} {P : Program} {W : World} {base : Nat} {sp : Nat → Bool} {held : Bool} {t e : TypeId} {n : Nat} {q : IntKind}
/-- The cells of an array of integers that came in. -/
theorem arr_ints (hu : P.underlying t = some (.array n e)) (he : P.underlying e = some (.int q)) (h1 : P.cellsOf e = 1) {fuel : Nat} {cs : List Value} {x : DataW H × List MemPlace} (hl : cs.length = n)
    (h : DataW.trod enc P W base sp held fuel t cs = some x) : ∃ zs : List Int, cs = zs.map (fun z => Value.int q z) ∧ zs.length = n ∧ ∀ z ∈ zs, (Lit.int q z).wf = true := by
  cases fuel with
  | zero => simp [DataW.trod] at h
  | succ m =>
    rw [DataW.trod_step] at h
    unfold DataW.trodStep at h
    simp only [hu] at h
    split at h
    · simp only [Option.map_eq_some_iff] at h
      obtain ⟨ys, hy, _⟩ := h
      have hE : ∀ i, i < n → ∃ z, cs[i]? = some (.int q z) ∧ (Lit.int q z).wf = true := fun i hi => by
        obtain ⟨y, hy⟩ := mapM_each _ ys hy i (List.mem_range.2 hi)
        obtain ⟨a, ea, _, wa⟩ := DataW.trod_int he hy
        rw [h1, Nat.mul_one] at ea
        refine ⟨a, ?_, wa⟩
        have h := congrArg (fun l : List Value => l[0]?) ea
        simpa [List.getElem?_take, List.getElem?_drop] using h
      refine ⟨cs.map intOf, ?_, by simpa using hl, ?_⟩
      · apply List.ext_getElem?
        intro i
        by_cases hi : i < n
        · obtain ⟨z, hz, _⟩ := hE i hi
          simp [hz, intOf]
        · have : cs[i]? = none := List.getElem?_eq_none (by omega)
          simp [this]
      · intro z hz
        obtain ⟨x, hx, rfl⟩ := List.mem_map.1 hz
        obtain ⟨i, hi, rfl⟩ := List.getElem_of_mem hx
        obtain ⟨z, hz, hw⟩ := hE i (by omega)
        rw [List.getElem?_eq_getElem hi] at hz
        simp only [Option.some.injEq] at hz
        rw [hz]
        exact hw
    · simp at h
end

/-- A slice of bytes, as it came in. -/
def InRow (W : World) (a : Option Addr) (l c : Nat) : Prop :=
  (a = none ∧ l = 0 ∧ c = 0) ∨ ∃ (y : Addr) (zs : List Int), a = some y ∧ l ≤ c ∧ c ≤ maxLen ∧ zs.length = c ∧ (∀ i, i < zs.length → W.cell? (y.add i) = some (.int .u8 (zs.getD i 0))) ∧ ∀ n ∈ zs, (Lit.int .u8 n).wf = true

theorem InRow.le {W : World} {a : Option Addr} {l c : Nat} (h : InRow W a l c) : l ≤ 9223372036854775807 := by
  rcases h with ⟨_, rfl, _⟩ | ⟨_, _, _, h1, h2, _⟩
  · omega
  · unfold maxLen at h2; omega

theorem spot_none {w : World} {x : Addr} {v : Value} (c0 : w.cell? (x.add 0) = some v) : x.spot = none := by
  have e : x.add 0 = x := rfl
  rw [e] at c0
  unfold World.cell? at c0
  split at c0
  · split at c0
    · cases c0
    · rename_i hs; simpa using hs
  · cases c0

theorem addr_plus (g o i : Nat) : (⟨g, o, none⟩ : Addr).add i = ⟨g, o + i, none⟩ := by unfold Addr.add; split <;> simp_all

theorem u8_wf {y : Int} (h : (Lit.int .u8 y).wf = true) : 0 ≤ y ∧ y ≤ 255 := by
  have hmin : IntKind.u8.min = 0 := rfl
  have hmax : IntKind.u8.max = 255 := rfl
  simp only [Lit.wf, Bool.and_eq_true, decide_eq_true_eq] at h
  omega

theorem i64_wf {y : Int} (h : (Lit.int .i64 y).wf = true) : -9223372036854775808 ≤ y ∧ y ≤ 9223372036854775807 := by
  have hmin : IntKind.i64.min = -9223372036854775808 := rfl
  have hmax : IntKind.i64.max = 9223372036854775807 := rfl
  simp only [Lit.wf, Bool.and_eq_true, decide_eq_true_eq] at h
  omega
theorem u32_wf {y : Int} (h : (Lit.int .u32 y).wf = true) : 0 ≤ y ∧ y ≤ 4294967295 := by
  have hmin : IntKind.u32.min = 0 := rfl
  have hmax : IntKind.u32.max = 4294967295 := rfl
  simp only [Lit.wf, Bool.and_eq_true, decide_eq_true_eq] at h
  omega

theorem InRow.bytes {w : World} {a : Option Addr} {len cap : Nat} (h : InRow w a len cap) (hl : len ≤ 140737488355328) : ∃ bs : List Int, bs.length = len ∧ Tlv.BySl 0 w.heap.size w (.slice a len cap) bs := by
  rcases h with ⟨rfl, rfl, rfl⟩ | ⟨x, zs, rfl, h1, h2, h3, h4, h5⟩
  · exact ⟨[], rfl, Tlv.BySl.none _ _ _⟩
  · have hlen : (zs.take len).length = len := List.length_take_of_le (by omega)
    refine ⟨zs.take len, hlen, _, cap, by rw [hlen], by rw [hlen]; exact h1, h2, by simp, by rw [hlen]; omega, fun y hy => u8_wf (h5 y (List.mem_of_mem_take hy)), fun hne => ?_⟩
    have hpos : 0 < len := by have := List.length_pos_iff.2 hne; omega
    have c0 := h4 0 (by omega)
    have hx := spot_none c0
    obtain ⟨b, o, s⟩ := x
    simp only at hx
    subst hx
    refine ⟨b, o, rfl, Nat.zero_le _, World.block_lt_of_cell? w _ c0, fun i hi => ?_⟩
    have := h4 i (by omega)
    rw [addr_plus] at this
    rw [this]
    rw [hlen] at hi
    simp [hi]

set_option maxRecDepth 100000 in
/-- A record's cells that came in. -/
theorem rec_cells {H : Type} {enc : TypeId × Value → H} {W : World} {fuel : Nat} {cs : List Value} {x : DataW H × List MemPlace} (h : DataW.trod enc Tryz.prog W 0 (fun _ => true) true fuel 40 cs = some x) :
    ∃ (k : Int) (nm : List Int) (a : Option Addr) (l c : Nat), cs = recA k nm (.slice a l c) ∧ nm.length = 32 ∧ (∀ y ∈ nm, 0 ≤ y ∧ y ≤ 255) ∧ InRow W a l c := by
  obtain ⟨y0, y1, y2, n, _, hl, h0, h1, h2⟩ := Go.Deep.trod_struct3 Tryz.underlying40 h
  have e26 : Tryz.prog.cellsOf 40 = 34 := by kernel_rfl
  have e3 : Tryz.prog.cellsOf 3 = 1 := by kernel_rfl
  have e23 : Tryz.prog.cellsOf 37 = 32 := by kernel_rfl
  have e24 : Tryz.prog.cellsOf 38 = 1 := by kernel_rfl
  rw [e26] at hl
  simp only [e3, e23, e24] at h0 h1 h2
  obtain ⟨k, hk, _, _⟩ := DataW.trod_int Tryz.underlying3 h0
  obtain ⟨nm, hnm, hnl, hwf⟩ := arr_ints Tryz.underlying37 Tryz.underlying5 (by kernel_rfl) (by simp; omega) h1
  have split : cs = cs.take 1 ++ ((cs.drop 1).take 32 ++ (cs.drop 33).take 1) := by
    have e1 : (cs.drop 33).take 1 = cs.drop 33 := List.take_of_length_le (by simp; omega)
    have e2 : (cs.drop 1).take 32 ++ cs.drop 33 = cs.drop 1 := by
      have h : (cs.drop 1).drop 32 = cs.drop 33 := by rw [List.drop_drop]
      rw [← h, List.take_append_drop]
    rw [e1, e2, List.take_append_drop]
  simp only [List.drop_zero] at hk
  rcases open_ints Tryz.underlying38 Tryz.underlying5 (by kernel_rfl) h2 with ⟨hcs, _⟩ | ⟨y, l, c, zs, hcs, _, hlc, hmx, hz, _, hcell, hwz⟩
  · refine ⟨k, nm, none, 0, 0, ?_, hnl, fun y hy => u8_wf (hwf y hy), .inl ⟨rfl, rfl, rfl⟩⟩
    rw [split, hk, hnm, hcs]
    rfl
  · refine ⟨k, nm, some y, l, c, ?_, hnl, fun y hy => u8_wf (hwf y hy), .inr ⟨y, zs, rfl, hlc, hmx, by simpa using hz, hcell, hwz⟩⟩
    rw [split, hk, hnm, hcs]
    rfl

set_option maxRecDepth 100000 in
/-- A record that came in. -/
theorem open_rec {H : Type} {enc : TypeId × Value → H} {W : World} {r : Reach} {base : Nat} {v : Value} {d : DataW H} {p : List MemPlace} (hv : Value.okWide Tryz.prog W r base 40 v) (h : DataW.Trod enc Tryz.prog W 0 (fun _ => true) true 40 v d p) :
    ∃ (k : Int) (nm : List Int) (a : Option Addr) (l c : Nat), v = .agg (recA k nm (.slice a l c)).toArray ∧ nm.length = 32 ∧ (∀ y ∈ nm, 0 ≤ y ∧ y ≤ 255) ∧ InRow W a l c := by
  obtain ⟨cs, rfl, hsz⟩ := okWide_struct Tryz.underlying40 hv
  obtain ⟨fuel, hf⟩ := h
  obtain ⟨k, nm, a, l, c, hcs, h1, h2, h3⟩ := rec_cells hf
  refine ⟨k, nm, a, l, c, ?_, h1, h2, h3⟩
  have : cs.toList = recA k nm (.slice a l c) := hcs
  rw [← this]

end Go.Proofs.YtbgjcemknkplbaaGreatDoor
end
