/- Of the proof: the texts NdLinks, NdAlive, NdTrip, NdSameF, one behind the other. -/
import Derived.Test.YtenfahecnkdhaaaB15
import Derived.Test.YtenfahecnkdhaaaB10
import Derived.Test.YtenfahecnkdhaaaB9
section
/-
  hashes of entries, and Links, of the program.
-/
namespace Go.Proofs.Ytenfahecnkdhaaa.Nd
open Go.RowKit
open Tlv (Tr Agree)
open Sim (hid Kp No)
set_option linter.unusedSimpArgs false

theorem rng_hash0 {w : World} {g : Nat} {e : Ent} {cx : List Value} {hs : List Int} (h : w.rangeAt g 0 cx) (hc : entC e = cx) (hh : e.2.2 = hs) : w.rangeAt g 2 (b8 hs) := by
  subst hc
  subst hh
  simpa using rng_hash h

set_option maxHeartbeats 4000000 in
set_option maxRecDepth 100000 in
theorem ehashes_any (w : World) (v : Value) (d : List Ent) (P : Nat → Prop) (hv : EV P w v d) (hl : d.length ≤ 1000000) :
    Calls Try.prog 54 #[v] w fun e w' => ∃ a l c, e = .returned (.slice a l c) ∧ HV (fun g => w.heap.size ≤ g) w' (.slice a l c) (d.map (·.2.2)) ∧ Below w.heap.size w w' := by
  obtain ⟨a, c, rfl, h2, h3, h4, h5, h6⟩ := hv
  obtain ⟨n, hn⟩ : ∃ n, d.length = n := ⟨_, rfl⟩
  have HN := hid hn
  rw [hn] at hl ⊢
  have H6 := hid h6
  obtain ⟨D, hD⟩ : ∃ D, d.map (fun x : Ent => x.2.2) = D := ⟨_, rfl⟩
  have HD := hid hD
  rw [hD]
  have hDl : D.length = n := by rw [← hD, List.length_map, hn]
  have HDL := hid hDl
  clear hn h2 h3 h4 h5 h6 hD hDl
  go_enter Try.func54, Try.ntmps54
  go_wp2_with fail
  go_loopw [3, 8] (fun v3 v8 wr => ∃ (k : Nat) (ad : Option Addr) (cap : Nat), v3 = .slice ad k cap ∧ v8 = .int .i64 (k : Int) ∧ k ≤ n ∧ Hid (HMine w.heap.size wr (.slice ad k cap) (D.take k)) ∧ Hid (Below w.heap.size w wr)) (fun _ v8 _ => n - (intOf v8).toNat)
  case atStart => exact ⟨0, none, 0, rfl, rfl, Nat.zero_le _, HMine.nil _ _, Below.refl _ _⟩
  case round =>
    obtain ⟨k, ad, cap, rfl, rfl, hkn, HS, HB⟩ := hrel
    by_cases hlt : k < n
    · have hltI : (k : Int) < (n : Int) := by omega
      have hwk : IntKind.i64.wrap ((k : Int) + 1) = ((k + 1 : Nat) : Int) := by rw [IntKind.wrap_i64]; omega
      obtain ⟨e, he⟩ : ∃ e, d[k]? = some e := ⟨_, List.getElem?_eq_getElem (by rw [HN.out]; exact hlt)⟩
      have hDk : D[k]? = some e.2.2 := by rw [← HD.out, List.getElem?_map, he]; rfl
      have HNX : Hid (D.take (k + 1) = D.take k ++ [e.2.2]) := by rw [Hid, List.take_add_one, hDk]; rfl
      have HLK : Hid ((D.take k).length = k) := by rw [Hid, List.length_take, HDL.out]; omega
      obtain ⟨g, o, rfl, _, hr⟩ := H6.out (by intro e; have := HN.out; rw [e] at this; simp at this; omega)
      have hrow := (hr.kp (Kp.below HB.out : Kp No w wr) (fun x => x)).2 k e he
      have HX := hid hrow
      have HHO : Hid (HOk e.2.2) := ⟨hrow.1.2.1, hrow.1.2.2⟩
      obtain ⟨cx, hcx⟩ : ∃ cx, entC e = cx := ⟨_, rfl⟩
      have HI : Hid ((Try.prog.info? 70).map (·.size) = some cx.length) := by rw [Hid, ← hcx]; exact inf hrow.1
      have HRX : Hid (wr.rangeAt g (o + k * 34) cx) := by rw [← hcx]; exact hrow.2
      have hcl : cx.length = 34 := by rw [← hcx]; exact entC_length hrow.1
      have HO1 : Hid (cx.toArray.all (·.oneCell') = true) := by rw [← hcx]; exact all_oneCell_toArray (entC_one e)
      have HCX := hid hcx
      obtain ⟨hs, hhs⟩ : ∃ x, e.2.2 = x := ⟨_, rfl⟩
      have HHS := hid hhs
      rw [hhs] at HNX HHO
      have HIH : Hid ((Try.prog.info? 68).map (·.size) = some (b8 hs).length) := by rw [Hid, b8_length, HHO.out.1]; exact infH
      have HB1 := hid (fun W => run_oneH HHO.out.1 W)
      clear hcx hhs hrow hr he hDk
      go_wp2_with (first
        | (refine wpList_load_mid (by rfl) 70 _ (by rfl) g (o + k * 34) (by rfl) cx _ HRX.out Try.underlying70 rfl HI.out ?_)
        | (refine wpList_store_box (fun W => ∀ V, Kp No W V → V.rangeAt wr.heap.size 0 cx ∧ Kp No wr V) (by rfl) 70 _ _ (by rfl) wr.heap.size 0 cx.toArray (by rfl) (by rfl) (thereE wr _ _ _ (by rw [List.size_toArray, hcl]; exact Nat.le_refl _)) HI.out HO1.out (boxE wr _ cx rfl hcl) ?_; intro W1 hW1; have HW1 := hid hW1; clear hW1; have HK1 := hid (HW1.out W1 (Kp.refl _ _)).2; have HRH := hid (rng_hash0 (HW1.out W1 (Kp.refl _ _)).1 HCX.out HHS.out); obtain ⟨ad2, cap2, w4, hap, hm4, hg4⟩ := (HS.out.kp HK1.out (fun _ _ x => x)).push HLK.out HHO.out (Nat.le_trans HB.out.size HK1.out.size) (by omega) 22; have HAP := hid hap; have HM4 := hid hm4; have HG4 := hid hg4; clear hap hm4 hg4)
        | (refine wpList_load_mid (by rfl) 68 _ (by rfl) wr.heap.size 2 (by rfl) (b8 hs) _ HRH.out Try.underlying68 rfl HIH.out ?_)
        | (refine wpList_valE (by rfl) (exec_sliceE 22 _ rfl (.agg (b8 hs).toArray) _ rfl (HB1.out _)) ?_)
        | (refine wpList_valE (by rfl) (exec_appE _ _ 22 rfl (.slice ad k cap) (.slice (some ⟨W1.heap.size, 0, none⟩) 1 1) _ rfl rfl HAP.out) ?_))
      have HMF : Hid (HMine w.heap.size w4 (.slice ad2 (k + 1) cap2) (D.take (k + 1))) := by rw [HNX.out]; exact HM4.out
      have HBF : Hid (Below w.heap.size w w4) := by
        have k1 : Below w.heap.size w W1 := HB.out.trans (HK1.out.toBelow'.mono HB.out.size)
        exact (k1.alloc k1.size _).grown HG4.out (k1.alloc k1.size _).size (fun r hr => HS.out.2.1 r hr)
      go_round
      case rel => exact ⟨k + 1, ad2, cap2, rfl, by first | rfl | go_num, by omega, HMF.out, HBF.out⟩
      case measure => simp [intOf]; omega
    · have hltI : ¬ (k : Int) < (n : Int) := by omega
      have hkn' : k = n := by omega
      have HF : Hid (HV (fun g => w.heap.size ≤ g) wr (.slice ad k cap) D) := by
        have := HS.out
        rw [hkn', ← HDL.out, List.take_length] at this
        rw [Hid, hkn', ← HDL.out]
        exact this.hv
      clear hkn' HS
      go_wp2_with fail
      go_ret
      exact ⟨_, _, _, rfl, HF.out, HB.out⟩

/-- What an object names. -/
def LinkP (K0 : Int) (bs : List Int) (d : List (List Int)) (f : Int) : Prop :=
  (K0 = 1 ∧ d = [] ∧ f = if 1 ≤ bs.length ∧ bs.length ≤ 4096 then 0 else 3) ∨
  (K0 = 2 ∧ ((gfile bs = none ∧ d = [] ∧ f = 3) ∨ ∃ s, gfile bs = some (s, d) ∧ f = 0)) ∨
  (K0 = 3 ∧ (((∀ d', ¬ IsDir bs d') ∧ d = [] ∧ f = 3) ∨ ∃ d', IsDir bs d' ∧ d = d'.map (·.2.2) ∧ f = 0)) ∨
  (K0 ≠ 1 ∧ K0 ≠ 2 ∧ K0 ≠ 3 ∧ d = [] ∧ f = 1)
/-- What Links answers. -/
def LinkA (u w : World) (K0 : Int) (bs : List Int) (e : Ending) : Prop :=
  ∃ a l c d f, e = .returned (.tuple #[.slice a l c, .int .i64 f]) ∧ HV (fun g => u.heap.size ≤ g) w (.slice a l c) d ∧ LinkP K0 bs d f
theorem LinkA.nil {u w : World} {K0 : Int} {bs : List Int} {f : Int} (h : LinkP K0 bs [] f) : LinkA u w K0 bs (.returned (.tuple #[.slice none 0 0, .int .i64 f])) := ⟨none, 0, 0, [], f, rfl, HV.nil _ _, h⟩

set_option maxHeartbeats 4000000 in
set_option maxRecDepth 100000 in
theorem links_any (w : World) (K0 : Int) (v : Value) (bs : List Int) (hv : Tlv.BySl 0 w.heap.size w v bs) :
    Calls Try.prog 23 #[.agg #[.int .i64 K0, v]] w fun e w' => LinkA w w' K0 bs e ∧ Below w.heap.size w w' := by
  obtain ⟨a, c, rfl, hxx⟩ := id hv
  clear hxx
  obtain ⟨n, hn⟩ : ∃ n, bs.length = n := ⟨_, rfl⟩
  have HN := hid hn
  rw [hn] at hv ⊢
  obtain ⟨W0, hW0⟩ : ∃ W, w.alloc (.cells #[.int .i64 K0, .slice a n c] 31) = W := ⟨_, rfl⟩
  have HB0 : Hid (Below w.heap.size w W0) := by rw [Hid, ← hW0]; exact (Below.refl _ _).alloc (Nat.le_refl _) _
  have hbox : W0.cell? ⟨w.heap.size, 0, none⟩ = some (.int .i64 K0) ∧ W0.cell? ⟨w.heap.size, 1, none⟩ = some (.slice a n c) := by rw [← hW0]; simp [go_sem]
  have HBY : Hid (Tlv.BySl 0 W0.heap.size W0 (.slice a n c) bs) := hv.agree (Agree.below HB0.out) (Nat.le_refl _) HB0.out.size
  have HGF := hid (getFile_any W0 K0 (.slice a n c) bs HBY.out)
  have HGD := hid (getDir_any W0 K0 (.slice a n c) bs HBY.out)
  clear hv hn
  obtain ⟨hx0, hx1⟩ := hbox
  by_cases h1 : K0 = 1
  · subst h1
    have HCR := hid (chunkRight_any W0 a n c)
    cases hq : decide (1 ≤ n ∧ n ≤ 4096) with
    | true =>
      rw [hq] at HCR
      have HA : Hid (∀ w', LinkA w w' 1 bs (.returned (.tuple #[.slice none 0 0, .int .i64 0]))) := fun w' => LinkA.nil (.inl ⟨rfl, rfl, by rw [HN.out, if_pos (by simpa using hq)]⟩)
      clear hq
      go_enter Try.func23, Try.ntmps23
      go_wp2_with fail
      refine HCR.out.mono ?_
      rintro e w1 ⟨rfl, hw1⟩
      subst hw1
      go_wp2_with fail
      go_ret2
      exact ⟨HA.out _, HB0.out⟩
    | false =>
      rw [hq] at HCR
      have HA : Hid (∀ w', LinkA w w' 1 bs (.returned (.tuple #[.slice none 0 0, .int .i64 3]))) := fun w' => LinkA.nil (.inl ⟨rfl, rfl, by rw [HN.out, if_neg (by simpa using hq)]⟩)
      clear hq
      go_enter Try.func23, Try.ntmps23
      go_wp2_with fail
      refine HCR.out.mono ?_
      rintro e w1 ⟨rfl, hw1⟩
      subst hw1
      go_wp2_with fail
      go_ret2
      exact ⟨HA.out _, HB0.out⟩
  · have h1b : (K0 == 1) = false := by simpa using h1
    by_cases h2 : K0 = 2
    · subst h2
      go_enter Try.func23, Try.ntmps23
      go_wp2_with fail
      refine HGF.out.mono ?_
      rintro e w2 ⟨hres, hb2⟩
      have HB2 : Hid (Below w.heap.size w w2) := HB0.out.trans (hb2.mono HB0.out.size)
      have HZ := HB0.out.size
      clear hb2 hW0
      rcases hres with ⟨hk, _⟩ | ⟨_, hno, rfl⟩ | ⟨s, d, ax, lx, cx, _, hyes, rfl, hhv⟩
      · exact absurd rfl hk
      · unfold zFil
        have HA : Hid (∀ w', LinkA w w' 2 bs (.returned (.tuple #[.slice none 0 0, .int .i64 3]))) := fun w' => LinkA.nil (.inr (.inl ⟨rfl, .inl ⟨hno, rfl, rfl⟩⟩))
        clear hno
        go_wp2_with fail
        go_ret2
        exact ⟨HA.out _, HB2.out.alloc HB2.out.size _⟩
      · have HA : Hid (∀ w', HV (fun g => w.heap.size ≤ g) w' (.slice ax lx cx) d → LinkA w w' 2 bs (.returned (.tuple #[.slice ax lx cx, .int .i64 0]))) := fun w' h => ⟨ax, lx, cx, d, 0, rfl, h, .inr (.inl ⟨rfl, .inr ⟨s, hyes, rfl⟩⟩)⟩
        have HH := hid (hhv.imp (fun g hg => Nat.le_trans HZ hg.2) : HV (fun g => w.heap.size ≤ g) w2 (.slice ax lx cx) d)
        clear hyes hhv
        go_wp2_with fail
        go_ret2
        exact ⟨HA.out _ (HH.out.kept ((Kp.refl No w2).alloc _)), HB2.out.alloc HB2.out.size _⟩
    · have h2b : (K0 == 2) = false := by simpa using h2
      by_cases h3 : K0 = 3
      · subst h3
        go_enter Try.func23, Try.ntmps23
        go_wp2_with fail
        refine HGD.out.mono ?_
        rintro e w2 ⟨hres, hb2⟩
        have HB2 : Hid (Below w.heap.size w w2) := HB0.out.trans (hb2.mono HB0.out.size)
        clear hb2 hW0
        rcases hres with ⟨hk, _⟩ | ⟨_, hno, rfl⟩ | ⟨d, ax, lx, cx, _, hyes, rfl, hev⟩
        · exact absurd rfl hk
        · have HEH := hid (ehashes_any w2 _ [] (fun _ => True) (EV.nil _ _) (by simp))
          have HA : Hid (∀ w' a l c, HV (fun g => w2.heap.size ≤ g) w' (.slice a l c) [] → LinkA w w' 3 bs (.returned (.tuple #[.slice a l c, .int .i64 3]))) := fun w' a l c h => ⟨a, l, c, [], 3, rfl, h.imp (fun g hg => Nat.le_trans HB2.out.size hg), .inr (.inr (.inl ⟨rfl, .inl ⟨hno, rfl, rfl⟩⟩))⟩
          clear hno
          go_wp2_with fail
          refine HEH.out.mono ?_
          rintro e w3 ⟨ay, ly, cy, rfl, hh, hb3⟩
          have HH := hid hh
          have HB3 : Hid (Below w.heap.size w w3) := HB2.out.trans (hb3.mono HB2.out.size)
          clear hh hb3
          go_wp2_with fail
          go_ret2
          exact ⟨HA.out _ _ _ _ HH.out, HB3.out⟩
        · have hdl : d.length ≤ 1000000 := by
            obtain ⟨t, _, hg, rfl⟩ := hyes
            exact Nat.le_trans hg.2.1.1 (by omega)
          have HEH := hid (ehashes_any w2 _ d _ hev hdl)
          have HA : Hid (∀ w' a l c, HV (fun g => w2.heap.size ≤ g) w' (.slice a l c) (d.map (·.2.2)) → LinkA w w' 3 bs (.returned (.tuple #[.slice a l c, .int .i64 0]))) := fun w' a l c h => ⟨a, l, c, _, 0, rfl, h.imp (fun g hg => Nat.le_trans HB2.out.size hg), .inr (.inr (.inl ⟨rfl, .inr ⟨d, hyes, rfl, rfl⟩⟩))⟩
          clear hyes hev hdl
          go_wp2_with fail
          refine HEH.out.mono ?_
          rintro e w3 ⟨ay, ly, cy, rfl, hh, hb3⟩
          have HH := hid hh
          have HB3 : Hid (Below w.heap.size w w3) := HB2.out.trans (hb3.mono HB2.out.size)
          clear hh hb3
          go_wp2_with fail
          go_ret2
          exact ⟨HA.out _ _ _ _ HH.out, HB3.out⟩
      · have h3b : (K0 == 3) = false := by simpa using h3
        have HA : Hid (∀ w', LinkA w w' K0 bs (.returned (.tuple #[.slice none 0 0, .int .i64 1]))) := fun w' => LinkA.nil (.inr (.inr (.inr ⟨h1, h2, h3, rfl, rfl⟩)))
        go_enter Try.func23, Try.ntmps23
        go_wp2_with fail
        go_ret2
        exact ⟨HA.out _, HB0.out⟩
end Go.Proofs.Ytenfahecnkdhaaa.Nd
end

section
/-
  What must come at any rate.
-/
namespace Go.Proofs.Ytenfahecnkdhaaa.Nd
open Go.RowKit
open Tlv (Tr Agree)
open Sim (hid Kp No)
set_option linter.unusedSimpArgs false

def h7 : List Int := 7 :: List.replicate 31 0
def f7 : List Int := [3, 0, 42, 1, 0, 1, 2, 3, 0, 35, 2, 0, 32] ++ h7
theorem h7_ok : HOk h7 := by
  refine ⟨rfl, fun x hx => ?_⟩
  rcases List.mem_cons.1 hx with rfl | hx
  · omega
  · rw [List.eq_of_mem_replicate hx]
    omega
theorem form7 : Tlv.formOf 3 (fileT 2 [h7]) = f7 := by kernel_rfl
theorem gfile7 : gfile f7 = some (2, [h7]) := by kernel_rfl
theorem sz7 : Tlv.szT 3 (fileT 2 [h7]) ≠ 0 := by decide +kernel
theorem form0 : Tlv.formOf 3 (entsT []) = [3, 0, 0] := by kernel_rfl
theorem sz0 : Tlv.szT 3 (entsT []) ≠ 0 := by decide +kernel
theorem right0 : RightP [] := ⟨by simp, fun i e hi => by simp at hi⟩
theorem dans0 {u w : World} {e : Ending} (h : DAns u w [] e) : ∃ a c, e = .returned (.tuple #[.agg #[.int .i64 3, .slice a 3 c], .int .i64 0]) ∧ Tlv.BySl u.heap.size w.heap.size w (.slice a 3 c) [3, 0, 0] := by
  rcases h with ⟨_, h⟩ | ⟨h, _⟩
  · rcases h with ⟨_, a, c, h1, h2⟩ | ⟨h, _⟩
    · rw [form0] at h1 h2
      exact ⟨a, c, h1, h2⟩
    · exact absurd ⟨sz0, by rw [form0]; simp⟩ h
  · exact absurd right0 h
theorem fans7 {u w : World} {e : Ending} (h : FiAns u w 2 [h7] e) : ∃ a c, e = .returned (.tuple #[.agg #[.int .i64 2, .slice a 45 c], .int .i64 0]) ∧ Tlv.BySl u.heap.size w.heap.size w (.slice a 45 c) f7 := by
  rcases h with ⟨_, h⟩ | ⟨h, _⟩
  · rcases h with ⟨_, a, c, h1, h2⟩ | ⟨h, _⟩
    · rw [form7] at h1 h2
      exact ⟨a, c, h1, h2⟩
    · exact absurd ⟨sz7, by rw [form7]; decide⟩ h
  · cases h
theorem lans7 {u w : World} {e : Ending} (h : LinkA u w 2 f7 e) : ∃ a l c, e = .returned (.tuple #[.slice a l c, .int .i64 0]) ∧ HV (fun g => u.heap.size ≤ g) w (.slice a l c) [h7] := by
  obtain ⟨a, l, c, d, f, rfl, hv, hl⟩ := h
  rcases hl with ⟨h, _⟩ | ⟨_, h⟩ | ⟨h, _⟩ | ⟨_, h, _⟩
  · cases h
  · rcases h with ⟨h, _⟩ | ⟨s, h, rfl⟩
    · rw [gfile7] at h
      cases h
    · rw [gfile7] at h
      simp only [Option.some.injEq, Prod.mk.injEq] at h
      obtain ⟨_, rfl⟩ := h
      exact ⟨a, l, c, rfl, hv⟩
  · cases h
  · exact absurd rfl h

theorem hv7 (W : World) : HV (· < (W.alloc (.cells (b8 h7).toArray 68)).heap.size) (W.alloc (.cells (b8 h7).toArray 68)) (.slice (some ⟨W.heap.size, 0, none⟩) 1 1) [h7] := by
  refine ⟨_, 1, rfl, Nat.le_refl _, by decide, by simp, by simpa using h7_ok, fun _ => ⟨W.heap.size, 0, rfl, by simp, by simp, fun i h hi => ?_⟩⟩
  match i, hi with
  | 0, hi =>
    simp only [List.getElem?_cons_zero, Option.some.injEq] at hi
    subst hi
    exact ⟨h7_ok, row_range (heap_alloc_new W _)⟩
theorem h7_lit : (b8 h7).toArray = (#[.int .u8 7, .int .u8 0, .int .u8 0, .int .u8 0, .int .u8 0, .int .u8 0, .int .u8 0, .int .u8 0, .int .u8 0, .int .u8 0, .int .u8 0, .int .u8 0, .int .u8 0, .int .u8 0, .int .u8 0, .int .u8 0, .int .u8 0, .int .u8 0, .int .u8 0, .int .u8 0, .int .u8 0, .int .u8 0, .int .u8 0, .int .u8 0, .int .u8 0, .int .u8 0, .int .u8 0, .int .u8 0, .int .u8 0, .int .u8 0, .int .u8 0, .int .u8 0] : Array Value) := by rfl
theorem hv_one {P : Nat → Prop} {w : World} {a : Option Addr} {l c : Nat} {h : List Int} (hv : HV P w (.slice a l c) [h]) : ∃ g o, a = some ⟨g, o, none⟩ ∧ l = 1 ∧ w.rangeAt g o (b8 h) ∧ g < w.heap.size := by
  obtain ⟨a', c', e, _, _, _, _, h6⟩ := hv
  simp only [Value.slice.injEq, List.length_singleton] at e
  obtain ⟨rfl, rfl, _⟩ := e
  obtain ⟨g, o, rfl, _, hr⟩ := h6 (by simp)
  have := (hr.2 0 h rfl).2
  rw [Nat.zero_mul, Nat.add_zero] at this
  exact ⟨g, o, rfl, rfl, this, hr.1⟩
theorem three_in (W : World) : Tlv.BySl 0 (W.alloc (.cells #[.int .u8 3, .int .u8 0, .int .u8 0] 5)).heap.size (W.alloc (.cells #[.int .u8 3, .int .u8 0, .int .u8 0] 5)) (.slice (some ⟨W.heap.size, 0, none⟩) 3 3) [3, 0, 0] := by
  refine ⟨_, 3, rfl, Nat.le_refl _, by decide, by simp, by simp, by simp, fun _ => ⟨W.heap.size, 0, rfl, Nat.zero_le _, by simp, fun i hi => ?_⟩⟩
  match i, hi with
  | 0, _ => simp
  | 1, _ => simp
  | 2, _ => simp

set_option maxHeartbeats 4000000 in
set_option maxRecDepth 100000 in
theorem alive_any (w : World) :
    Calls Try.prog 8 #[] w fun e w' => e = .returned (.bool true) ∧ Below w.heap.size w w' := by
  have HPD := hid (putDir_any w _ [] (fun _ => True) (EV.nil _ _) (by simp) (by simp))
  go_enter Try.func8, Try.ntmps8
  go_wp2_with fail
  refine HPD.out.mono ?_
  rintro e w1 ⟨hd, hb1⟩
  obtain ⟨a1, c1, rfl, hy1⟩ := dans0 hd
  have HB1 := hid hb1
  have HY1 := hid hy1
  clear hd hb1 hy1 HPD
  have HPF := hid (putFile_any _ 2 _ [h7] (hv7 (w1.alloc (.cells #[.int .i64 3, .slice a1 3 c1] 31))) (by simp))
  have hs1 : (w1.alloc (.cells #[.int .i64 3, .slice a1 3 c1] 31)).heap.size = w1.heap.size + 1 := by simp
  rw [h7_lit, hs1] at HPF
  clear hs1
  go_wp2_with fail
  refine HPF.out.mono ?_
  rintro e w2 ⟨hd, hb2⟩
  obtain ⟨a2, c2, rfl, hy2⟩ := fans7 hd
  have HB2 : Hid (Below (w1.alloc (.cells #[.int .i64 3, .slice a1 3 c1] 31)).heap.size (w1.alloc (.cells #[.int .i64 3, .slice a1 3 c1] 31)) w2) := ((Below.refl _ _).alloc (Nat.le_refl _) _).trans (hb2.mono (by simp))
  have HBX : Hid (w2.cell? ⟨w1.heap.size, 0, none⟩ = some (.int .i64 3) ∧ w2.cell? ⟨w1.heap.size, 1, none⟩ = some (.slice a1 3 c1)) := by
    refine ⟨?_, ?_⟩
    · rw [HB2.out.cell (p := ⟨w1.heap.size, 0, none⟩) (by simp)]; simp
    · rw [HB2.out.cell (p := ⟨w1.heap.size, 1, none⟩) (by simp)]; simp
  have HBW : Hid (Below w1.heap.size w1 w2) := ((Below.refl _ w1).alloc (Nat.le_refl _) _).trans (HB2.out.mono (by simp))
  have HZ2 : Hid (w1.heap.size < w2.heap.size) := by have := HB2.out.size; simp at this; rw [Hid]; omega
  have HY2 : Hid (Tlv.BySl 0 w2.heap.size w2 (.slice a2 45 c2) f7) := hy2.agree (Agree.refl _ _ _) (Nat.zero_le _) (Nat.le_refl _)
  have HLK := hid (links_any (w2.alloc (.cells #[.int .i64 2, .slice a2 45 c2] 31)) 2 _ f7 (HY2.out.agree ((Agree.refl _ _ _).alloc (Nat.le_refl _) _) (Nat.le_refl _) (by simp)))
  clear hd hb2 hy2 HPF
  go_wp2_with fail
  refine HLK.out.mono ?_
  rintro e w3 ⟨hd, hb3⟩
  obtain ⟨a3, l3, c3, rfl, hv3⟩ := lans7 hd
  obtain ⟨g, o, rfl, rfl, hr3, hg3⟩ := hv_one hv3
  have HB3 : Hid (Below w2.heap.size w2 w3) := ((Below.refl _ _).alloc (Nat.le_refl _) _).trans (hb3.mono (by simp))
  have HR3 := hid hr3
  have HBW3 : Hid (Below w1.heap.size w1 w3) := HBW.out.trans (HB3.out.mono HBW.out.size)
  have hx0 : w3.cell? ⟨w1.heap.size, 0, none⟩ = some (.int .i64 3) := by rw [HB3.out.cell (p := ⟨w1.heap.size, 0, none⟩) HZ2.out]; exact HBX.out.1
  have hx1 : w3.cell? ⟨w1.heap.size, 1, none⟩ = some (.slice a1 3 c1) := by rw [HB3.out.cell (p := ⟨w1.heap.size, 1, none⟩) HZ2.out]; exact HBX.out.2
  have HRB := hid (Tlv.refBytes_any (.slice a1 3 c1) (.slice (some ⟨w3.heap.size, 0, none⟩) 3 3) [3, 0, 0] [3, 0, 0] (w3.alloc (.cells #[.int .u8 3, .int .u8 0, .int .u8 0] 5)) (HY1.out.agree (Agree.below (HBW3.out.trans ((Below.refl _ _).alloc HBW3.out.size _))) (Nat.zero_le _) (Nat.le_trans HBW3.out.size (by simp))) (three_in w3))
  clear hd hb3 hv3 hr3 HLK
  go_wp2_with fail
  refine HRB.out.mono ?_
  rintro e w4 ⟨rfl, hb4⟩
  have HB4 := hid hb4
  have HR4 : Hid (w4.rangeAt g o (b8 h7)) := fun j v hv => by
    rw [hb4.cell (p := ⟨g, _, none⟩) (by simp; omega), World.cell?_alloc_past _ _ _ hg3]
    exact HR3.out j v hv
  have hdd : decide True = true := rfl
  rw [hdd]
  clear hb4 hdd HRB
  have hq : ∀ W, (Op.equalIn 10000 68 (.agg (b8 h7).toArray) (.agg #[.int .u8 7, .int .u8 0, .int .u8 0, .int .u8 0, .int .u8 0, .int .u8 0, .int .u8 0, .int .u8 0, .int .u8 0, .int .u8 0, .int .u8 0, .int .u8 0, .int .u8 0, .int .u8 0, .int .u8 0, .int .u8 0, .int .u8 0, .int .u8 0, .int .u8 0, .int .u8 0, .int .u8 0, .int .u8 0, .int .u8 0, .int .u8 0, .int .u8 0, .int .u8 0, .int .u8 0, .int .u8 0, .int .u8 0, .int .u8 0, .int .u8 0, .int .u8 0])).run Try.prog W = .ok true W := fun W => by
    have := eqHashAt 9998 h7 h7 h7_ok.1 h7_ok.1 h7_ok.2 h7_ok.2 W
    rw [decide_eq_true rfl] at this
    rw [← h7_lit]
    exact this
  go_wp2_with (refine wpList_bare (by rfl) ?_; refine wpList_load_mid (by rfl) 68 _ (by rfl) g o (by rfl) (b8 h7) _ HR4.out Try.underlying68 rfl (by rw [b8_length, h7_ok.1]; exact infH) ?_)
  go_ret
  exact ⟨rfl, (HB1.out.trans (HBW3.out.mono HB1.out.size)).trans (((Below.refl _ w3).alloc (Nat.le_refl _) _).trans (HB4.out.mono (by simp)) |>.mono (Nat.le_trans HB1.out.size HBW3.out.size))⟩
end Go.Proofs.Ytenfahecnkdhaaa.Nd
end

section
/-
  Plain mathematics: what is put is got, and what is got is put again.
-/
namespace Go.Proofs.Ytenfahecnkdhaaa.Nd
open Go.RowKit
open Tlv (Tr Agree)
open Sim (hid Kp No)
set_option linter.unusedSimpArgs false

theorem lszGo_same {n m : Nat} (hs : ∀ (t : Tr n) (u : Tr m) (room deep : Int), Tlv.sameT n t m u = true → Tlv.bsz m u room deep = Tlv.bsz n t room deep) (room deep : Int) : ∀ (ts : List (Tr n)) (us : List (Tr m)) (acc : Int), Tlv.sameL (fun a b => Tlv.sameT n a m b) ts us = true → Tlv.lszGo (Tlv.bsz m) room deep acc us = Tlv.lszGo (Tlv.bsz n) room deep acc ts
  | [], [], _, _ => rfl
  | [], _ :: _, _, h => by simp [Tlv.sameL] at h
  | _ :: _, [], _, h => by simp [Tlv.sameL] at h
  | t :: ts, u :: us, acc, h => by
    simp only [Tlv.sameL, Bool.and_eq_true] at h
    simp only [Tlv.lszGo]
    rw [hs t u _ _ h.1]
    split
    · exact lszGo_same hs room deep ts us _ h.2
    · rfl
theorem sameT_bsz : ∀ (n : Nat) (t : Tr n) (m : Nat) (u : Tr m) (room deep : Int), Tlv.sameT n t m u = true → Tlv.bsz m u room deep = Tlv.bsz n t room deep
  | 0, t, _, _, _, _, _ => by cases t
  | _ + 1, _, 0, u, _, _, _ => by cases u
  | n + 1, t, m + 1, u, room, deep, h => by
    simp only [Tlv.sameT, Bool.and_eq_true, decide_eq_true_eq] at h
    have hl := Tlv.sameL_len h.2
    have hk : Tlv.lsz (Tlv.bsz m) u.kd room deep = Tlv.lsz (Tlv.bsz n) t.kd room deep := by
      unfold Tlv.lsz
      rw [lszGo_same (fun a b r d hab => sameT_bsz n a m b r d hab) room deep t.kd u.kd 0 h.2]
    simp only [Tlv.bsz]
    rw [← h.1, hl, hk]
theorem sameT_obj {t : Tr 9} {u : Tr 3} (h : Tlv.sameT 9 t 3 u = true) (hz : Tlv.szT 9 t ≠ 0) : Tlv.szT 3 u ≠ 0 := by
  unfold Tlv.szT at hz ⊢
  rw [sameT_bsz 9 t 3 u _ _ h]
  exact hz

theorem form_get {t : Tr 3} (hn : Tlv.NumOk 3 t) (h : objP t) : ∃ t9, bodyT (Tlv.formOf 3 t) = some t9 ∧ Tlv.sameT 9 t9 3 t = true := by
  obtain ⟨t9, h1, h2⟩ := Tlv.form_rd 3 8 t 65535 [] hn (by omega) (Tlv.szT_right h.1)
  rw [List.append_nil] at h1
  refine ⟨t9, ?_, h2⟩
  rw [bodyT, if_pos h.2, Tlv.getT, h1]
  simp
theorem numOk_leaf {tag q : Int} {bs : List Int} (h : 0 ≤ q ∧ q ≤ 18446744073709551615) : Tlv.NumOk 1 (Tr.mk tag q bs []) :=
  ⟨h.1, h.2, fun k hk => by cases hk⟩
theorem numOk_file {s : Int} {d : List (List Int)} (h : 0 ≤ s ∧ s ≤ 2000) : Tlv.NumOk 3 (fileT s d) := by
  refine ⟨by simp [fileT, Tr.mk, Tlv.Tr.hd], by simp [fileT, Tr.mk, Tlv.Tr.hd], fun k hk => ?_⟩
  have hk' : k ∈ [(Tr.mk 1 s [] [] : Tr 2), Tr.mk 3 0 [] (d.map hashT)] := hk
  rcases List.mem_cons.1 hk' with rfl | hk'
  · exact ⟨h.1, by show s ≤ _; omega, fun k hk => by cases hk⟩
  · have hk2 := List.mem_singleton.1 hk'
    subst hk2
    refine ⟨by simp [Tr.mk, Tlv.Tr.hd], by simp [Tr.mk, Tlv.Tr.hd], fun k hk => ?_⟩
    have hk3 : k ∈ d.map hashT := hk
    obtain ⟨x, _, rfl⟩ := List.mem_map.1 hk3
    exact numOk_leaf (by omega)
theorem numOk_ents {d : List Ent} : Tlv.NumOk 3 (entsT d) := by
  refine ⟨by simp [entsT, Tr.mk, Tlv.Tr.hd], by simp [entsT, Tr.mk, Tlv.Tr.hd], fun k hk => ?_⟩
  have hk' : k ∈ d.map entT := hk
  obtain ⟨e, _, rfl⟩ := List.mem_map.1 hk'
  refine ⟨by simp [entT, Tr.mk, Tlv.Tr.hd], by simp [entT, Tr.mk, Tlv.Tr.hd], fun k hk => ?_⟩
  have hk2 : k ∈ [(Tr.mk 2 0 e.1 [] : Tr 1), Tr.mk 1 (if e.2.1 then 1 else 0) [] [], Tr.mk 2 0 e.2.2 []] := hk
  rcases List.mem_cons.1 hk2 with rfl | hk2
  · exact numOk_leaf (by omega)
  · rcases List.mem_cons.1 hk2 with rfl | hk2
    · exact numOk_leaf (by cases e.2.1 <;> simp)
    · have hk3 := List.mem_singleton.1 hk2
      subst hk3
      exact numOk_leaf (by omega)

theorem same_hashes : ∀ (ks : List (Tr 7)) (d : List (List Int)), (∀ h ∈ d, HOk h) → Tlv.sameL (fun a b => Tlv.sameT 7 a 1 b) ks (d.map hashT) = true → kidsH ks = d
  | [], [], _, _ => rfl
  | [], _ :: _, _, h => by simp [Tlv.sameL] at h
  | _ :: _, [], _, h => by simp [Tlv.sameL] at h
  | k :: ks, e :: d, hd, h => by
    simp only [List.map_cons, Tlv.sameL, Tlv.sameT, Bool.and_eq_true, decide_eq_true_eq] at h
    have h1 : k.hd.2.2 = e := by rw [h.1.1]; rfl
    simp only [kidsH, List.map_cons]
    rw [h1, h32_same (hd e (by simp)).1]
    congr 1
    exact same_hashes ks d (fun x hx => hd x (by simp [hx])) h.2
theorem sameL_two {α β : Type} {f : α → β → Bool} {xs : List α} {b c : β} (h : Tlv.sameL f xs [b, c] = true) : ∃ x y, xs = [x, y] ∧ f x b = true ∧ f y c = true := by
  match xs, h with
  | [x, y], h =>
    simp only [Tlv.sameL, Bool.and_eq_true] at h
    exact ⟨x, y, rfl, h.1, h.2.1⟩
  | [], h => simp [Tlv.sameL] at h
  | [_], h => simp [Tlv.sameL] at h
  | _ :: _ :: _ :: _, h => simp [Tlv.sameL] at h
theorem sameL_three {α β : Type} {f : α → β → Bool} {xs : List α} {b c e : β} (h : Tlv.sameL f xs [b, c, e] = true) : ∃ x y z, xs = [x, y, z] ∧ f x b = true ∧ f y c = true ∧ f z e = true := by
  match xs, h with
  | [x, y, z], h =>
    simp only [Tlv.sameL, Bool.and_eq_true] at h
    exact ⟨x, y, z, rfl, h.1, h.2.1, h.2.2.1⟩
  | [], h => simp [Tlv.sameL] at h
  | [_], h => simp [Tlv.sameL] at h
  | [_, _], h => simp [Tlv.sameL] at h
  | _ :: _ :: _ :: _ :: _, h => simp [Tlv.sameL] at h
theorem same_file {t : Tr 9} {s : Int} {d : List (List Int)} (h : Tlv.sameT 9 t 3 (fileT s d) = true) (hd : ∀ h ∈ d, HOk h) (hs : 0 ≤ s ∧ s ≤ 2000) : ∃ t0 t1, t.kd = [t0, t1] ∧ wrap64 t0.hd.2.1 = s ∧ kidsH t1.kd = d := by
  simp only [Tlv.sameT, Bool.and_eq_true, decide_eq_true_eq, fileT, Tr.mk, Tlv.Tr.kd] at h
  obtain ⟨x, y, hk, h1, h2⟩ := sameL_two h.2
  simp only [Tlv.sameT, Bool.and_eq_true, decide_eq_true_eq] at h1 h2
  refine ⟨x, y, hk, ?_, same_hashes _ _ hd h2.2⟩
  have : x.hd.2.1 = s := by rw [h1.1]; rfl
  rw [this]
  exact IntWalk.wrap64_in _ ⟨by omega, by omega⟩
/-- What is put is got. -/
theorem gfile_form {s : Int} {d : List (List Int)} (hf : fileB s d.length = true) (ho : objP (fileT s d)) (hd : ∀ h ∈ d, HOk h) : gfile (Tlv.formOf 3 (fileT s d)) = some (s, d) := by
  have hs : 0 ≤ s ∧ s ≤ 2000 := by
    unfold fileB at hf
    simp only [decide_eq_true_eq] at hf
    exact ⟨hf.1, hf.2.1⟩
  obtain ⟨t9, h1, h2⟩ := form_get (numOk_file hs) ho
  obtain ⟨t0, t1, h3, h4, h5⟩ := same_file h2 hd hs
  rw [gfile, h1]
  simp only [h3, h4, h5, hf, h2, Bool.and_self, if_true]
/-- What is got is put again. -/
theorem gfile_back {bs : List Int} {s : Int} {d : List (List Int)} (hb : ∀ x ∈ bs, 0 ≤ x ∧ x ≤ 255) (h : gfile bs = some (s, d)) : fileB s d.length = true ∧ objP (fileT s d) ∧ Tlv.formOf 3 (fileT s d) = bs := by
  unfold gfile at h
  split at h
  · cases h
  · rename_i t ht
    split at h
    · rename_i t0 t1 hk
      split at h
      · rename_i hc
        simp only [Option.some.injEq, Prod.mk.injEq] at h
        obtain ⟨h1, h2⟩ := h
        rw [h1, h2] at hc
        simp only [Bool.and_eq_true] at hc
        have hT := ht
        unfold bodyT at ht
        split at ht
        · rename_i hl
          obtain ⟨h3, h4⟩ := Tlv.get_form hb ht
          have h5 := Tlv.sameT_form 9 t 3 (fileT s d) hc.2
          rw [h4] at h5
          exact ⟨hc.1, ⟨sameT_obj hc.2 h3, by rw [← h5]; exact hl⟩, h5.symm⟩
        · cases ht
      · cases h
    · cases h

theorem same_entries : ∀ (ks : List (Tr 8)) (d : List Ent), (∀ e ∈ d, EOk e) → Tlv.sameL (fun a b => Tlv.sameT 8 a 2 b) ks (d.map entT) = true → ks.map entOf = d ∧ ∀ x ∈ ks, x.kd.length = 3
  | [], [], _, _ => ⟨rfl, by simp⟩
  | [], _ :: _, _, h => by simp [Tlv.sameL] at h
  | _ :: _, [], _, h => by simp [Tlv.sameL] at h
  | k :: ks, e :: d, hd, h => by
    simp only [List.map_cons, Tlv.sameL, Bool.and_eq_true] at h
    obtain ⟨h1, h2⟩ := h
    simp only [Tlv.sameT, Bool.and_eq_true, decide_eq_true_eq, entT, Tr.mk, Tlv.Tr.kd] at h1
    obtain ⟨a, b, c, hk, ha, hb, hc⟩ := sameL_three h1.2
    simp only [Tlv.sameT, Bool.and_eq_true, decide_eq_true_eq] at ha hb hc
    obtain ⟨h3, h4⟩ := same_entries ks d (fun x hx => hd x (by simp [hx])) h2
    have hk' : k.kd = [a, b, c] := hk
    have he : entOf k = e := by
      rw [entOf_3 hk', entryOf]
      have e1 : a.hd.2.2 = e.1 := by rw [ha.1]; rfl
      have e2 : b.hd.2.1 = if e.2.1 then 1 else 0 := by rw [hb.1]; rfl
      have e3 : c.hd.2.2 = e.2.2 := by rw [hc.1]; rfl
      rw [e1, e2, e3, h32_same (hd e (by simp)).2.1]
      obtain ⟨nm, p, hs⟩ := e
      cases p <;> simp
    refine ⟨by rw [List.map_cons, he, h3], fun x hx => ?_⟩
    rcases List.mem_cons.1 hx with rfl | hx
    · rw [hk']; rfl
    · exact h4 x hx
theorem isDir_form {d : List Ent} (hr : RightP d) (ho : objP (entsT d)) (hd : ∀ e ∈ d, EOk e) : IsDir (Tlv.formOf 3 (entsT d)) d := by
  obtain ⟨t9, h1, h2⟩ := form_get numOk_ents ho
  have h3 := h2
  simp only [Tlv.sameT, Bool.and_eq_true, decide_eq_true_eq, entsT, Tr.mk, Tlv.Tr.kd] at h3
  obtain ⟨h4, h5⟩ := same_entries t9.kd d hd h3.2
  exact ⟨t9, h1, ⟨h5, by rw [h4]; exact ⟨hr, h2⟩⟩, h4.symm⟩
theorem isDir_back {bs : List Int} {d : List Ent} (hb : ∀ x ∈ bs, 0 ≤ x ∧ x ≤ 255) (h : IsDir bs d) : RightP d ∧ objP (entsT d) ∧ Tlv.formOf 3 (entsT d) = bs := by
  obtain ⟨t, ht, hg, rfl⟩ := h
  unfold bodyT at ht
  split at ht
  · rename_i hl
    obtain ⟨h3, h4⟩ := Tlv.get_form hb ht
    have h5 := Tlv.sameT_form 9 t 3 _ hg.2.2
    rw [h4] at h5
    exact ⟨hg.2.1, ⟨sameT_obj hg.2.2 h3, by rw [← h5]; exact hl⟩, h5.symm⟩
  · cases ht
theorem isDir_one {bs : List Int} {d d' : List Ent} (h : IsDir bs d) (h' : IsDir bs d') : d = d' := by
  obtain ⟨t, ht, _, rfl⟩ := h
  obtain ⟨t', ht', _, rfl⟩ := h'
  rw [ht] at ht'
  cases ht'
  rfl
end Go.Proofs.Ytenfahecnkdhaaa.Nd
end

section
/-
  Files of the document's type as the program's, and the other way around; are two files the same?
-/
namespace Go.Proofs.Ytenfahecnkdhaaa.Nd
open Go.RowKit
open Sim (hid Kp No)
set_option linter.unusedSimpArgs false

set_option maxHeartbeats 1000000 in
theorem lfile_any (w : World) (s : Int) (x : Option Addr) (n c : Nat) :
    Calls Try.prog 10 #[.agg #[.int .i64 s, .slice x n c]] w fun e w' => e = .returned (.agg #[.int .i64 s, .slice x n c]) ∧ Kp No w w' := by
  go_enter Try.func10, Try.ntmps10
  go_wp2
  refine bodyPost_ret (v := .agg #[.int .i64 s, .slice x n c]) (by simp [results, Try.results10, go_sem]) rfl ⟨rfl, ((Kp.refl No w).alloc _).alloc _⟩
set_option maxHeartbeats 1000000 in
theorem lback_any (w : World) (s : Int) (x : Option Addr) (n c : Nat) :
    Calls Try.prog 26 #[.agg #[.int .i64 s, .slice x n c]] w fun e w' => e = .returned (.agg #[.int .i64 s, .slice x n c]) ∧ Kp No w w' := by
  go_enter Try.func26, Try.ntmps26
  go_wp2
  refine bodyPost_ret (v := .agg #[.int .i64 s, .slice x n c]) (by simp [results, Try.results26, go_sem]) rfl ⟨rfl, ((Kp.refl No w).alloc _).alloc _⟩
set_option maxHeartbeats 2000000 in
theorem sameFile_any (w : World) (s s' : Int) (v v' : Value) (d d' : List (List Int)) (P P' : Nat → Prop) (h : HV P w v d) (h' : HV P' w v' d') (hl : d.length ≤ 1000000) :
    Calls Try.prog 25 #[.agg #[.int .i64 s, v], .agg #[.int .i64 s', v']] w fun e w' => e = .returned (.bool (decide (s = s' ∧ d = d'))) ∧ Kp No w w' := by
  have HB := hid (fun (V : World) (hV : Kp No w V) => hashes_any V v v' d d' P P' (h.kept hV) (h'.kept hV) hl)
  have HK : Hid (Kp No w ((w.alloc (.cells #[.int .i64 s, v] 24)).alloc (.cells #[.int .i64 s', v'] 24))) := ((Kp.refl No w).alloc _).alloc _
  obtain ⟨x, c, rfl, hxx⟩ := h
  obtain ⟨x', c', rfl, hxx'⟩ := h'
  clear hxx hxx'
  by_cases hk : s = s'
  · have e : decide (s = s' ∧ d = d') = decide (d = d') := by simp [hk]
    rw [e]
    generalize decide (d = d') = r at *
    clear e
    subst hk
    have hkk : (s == s) = true := by simp
    go_enter Try.func25, Try.ntmps25
    go_wp2_with fail
    refine (HB.out _ HK.out).mono ?_
    rintro e w1 ⟨rfl, hb⟩
    have HK1 := hid (HK.out.andNone hb)
    clear hb
    go_wp2_with fail
    go_ret
    refine ⟨?_, HK1.out⟩
    simp
  · have e : decide (s = s' ∧ d = d') = false := by simp [hk]
    rw [e]
    have hkk : (s == s') = false := by simpa using hk
    clear e
    go_enter Try.func25, Try.ntmps25
    go_wp2
    go_ret
    exact ⟨rfl, HK.out⟩
end Go.Proofs.Ytenfahecnkdhaaa.Nd
end
