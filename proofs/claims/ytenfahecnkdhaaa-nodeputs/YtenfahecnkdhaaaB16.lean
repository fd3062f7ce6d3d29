/- Of the proof: the texts NdLinks, NdAlive, NdRRep, TlvRForm, TlvRefForm, NdRObj, one behind the other. -/
import Derived.Test.YtenfahecnkdhaaaB15
import Derived.Test.YtenfahecnkdhaaaB11
import Derived.Test.YtenfahecnkdhaaaB13
import Derived.Deep.LoopGhost
import Derived.Test.YtenfahecnkdhaaaB14
import Derived.Test.YtenfahecnkdhaaaB9
section
/-
  hashes of entries, and Links, of the program.
-/
namespace Go.Proofs.Ytenfahecnkdhaaa.Nd
open Go.RowKit
open Tlv (Tr Agree)
open Sim (hid Kp No)
set_option linter.unusedSimpArgs false

theorem rng_hash0 {w : World} {g : Nat} {e : Ent} {cx : List Value} {hs : List Int} (h : w.rangeAt g 0 cx) (hc : entC e = cx) (hh : e.2.2 = hs) : w.rangeAt g 2 (b8 hs) := by
  subst hc
  subst hh
  simpa using rng_hash h

set_option maxHeartbeats 4000000 in
set_option maxRecDepth 100000 in
theorem ehashes_any (w : World) (v : Value) (d : List Ent) (P : Nat → Prop) (hv : EV P w v d) (hl : d.length ≤ 1000000) :
    Calls Try.prog 54 #[v] w fun e w' => ∃ a l c, e = .returned (.slice a l c) ∧ HV (fun g => w.heap.size ≤ g) w' (.slice a l c) (d.map (·.2.2)) ∧ Below w.heap.size w w' := by
  obtain ⟨a, c, rfl, h2, h3, h4, h5, h6⟩ := hv
  obtain ⟨n, hn⟩ : ∃ n, d.length = n := ⟨_, rfl⟩
  have HN := hid hn
  rw [hn] at hl ⊢
  have H6 := hid h6
  obtain ⟨D, hD⟩ : ∃ D, d.map (fun x : Ent => x.2.2) = D := ⟨_, rfl⟩
  have HD := hid hD
  rw [hD]
  have hDl : D.length = n := by rw [← hD, List.length_map, hn]
  have HDL := hid hDl
  clear hn h2 h3 h4 h5 h6 hD hDl
  go_enter Try.func54, Try.ntmps54
  go_wp2_with fail
  go_loopw [3, 8] (fun v3 v8 wr => ∃ (k : Nat) (ad : Option Addr) (cap : Nat), v3 = .slice ad k cap ∧ v8 = .int .i64 (k : Int) ∧ k ≤ n ∧ Hid (HMine w.heap.size wr (.slice ad k cap) (D.take k)) ∧ Hid (Below w.heap.size w wr)) (fun _ v8 _ => n - (intOf v8).toNat)
  case atStart => exact ⟨0, none, 0, rfl, rfl, Nat.zero_le _, HMine.nil _ _, Below.refl _ _⟩
  case round =>
    obtain ⟨k, ad, cap, rfl, rfl, hkn, HS, HB⟩ := hrel
    by_cases hlt : k < n
    · have hltI : (k : Int) < (n : Int) := by omega
      have hwk : IntKind.i64.wrap ((k : Int) + 1) = ((k + 1 : Nat) : Int) := by rw [IntKind.wrap_i64]; omega
      obtain ⟨e, he⟩ : ∃ e, d[k]? = some e := ⟨_, List.getElem?_eq_getElem (by rw [HN.out]; exact hlt)⟩
      have hDk : D[k]? = some e.2.2 := by rw [← HD.out, List.getElem?_map, he]; rfl
      have HNX : Hid (D.take (k + 1) = D.take k ++ [e.2.2]) := by rw [Hid, List.take_add_one, hDk]; rfl
      have HLK : Hid ((D.take k).length = k) := by rw [Hid, List.length_take, HDL.out]; omega
      obtain ⟨g, o, rfl, _, hr⟩ := H6.out (by intro e; have := HN.out; rw [e] at this; simp at this; omega)
      have hrow := (hr.kp (Kp.below HB.out : Kp No w wr) (fun x => x)).2 k e he
      have HX := hid hrow
      have HHO : Hid (HOk e.2.2) := ⟨hrow.1.2.1, hrow.1.2.2⟩
      obtain ⟨cx, hcx⟩ : ∃ cx, entC e = cx := ⟨_, rfl⟩
      have HI : Hid ((Try.prog.info? 70).map (·.size) = some cx.length) := by rw [Hid, ← hcx]; exact inf hrow.1
      have HRX : Hid (wr.rangeAt g (o + k * 34) cx) := by rw [← hcx]; exact hrow.2
      have hcl : cx.length = 34 := by rw [← hcx]; exact entC_length hrow.1
      have HO1 : Hid (cx.toArray.all (·.oneCell') = true) := by rw [← hcx]; exact all_oneCell_toArray (entC_one e)
      have HCX := hid hcx
      obtain ⟨hs, hhs⟩ : ∃ x, e.2.2 = x := ⟨_, rfl⟩
      have HHS := hid hhs
      rw [hhs] at HNX HHO
      have HIH : Hid ((Try.prog.info? 68).map (·.size) = some (b8 hs).length) := by rw [Hid, b8_length, HHO.out.1]; exact infH
      have HB1 := hid (fun W => run_oneH HHO.out.1 W)
      clear hcx hhs hrow hr he hDk
      go_wp2_with (first
        | (refine wpList_load_mid (by rfl) 70 _ (by rfl) g (o + k * 34) (by rfl) cx _ HRX.out Try.underlying70 rfl HI.out ?_)
        | (refine wpList_store_box (fun W => ∀ V, Kp No W V → V.rangeAt wr.heap.size 0 cx ∧ Kp No wr V) (by rfl) 70 _ _ (by rfl) wr.heap.size 0 cx.toArray (by rfl) (by rfl) (thereE wr _ _ _ (by rw [List.size_toArray, hcl]; exact Nat.le_refl _)) HI.out HO1.out (boxE wr _ cx rfl hcl) ?_; intro W1 hW1; have HW1 := hid hW1; clear hW1; have HK1 := hid (HW1.out W1 (Kp.refl _ _)).2; have HRH := hid (rng_hash0 (HW1.out W1 (Kp.refl _ _)).1 HCX.out HHS.out); obtain ⟨ad2, cap2, w4, hap, hm4, hg4⟩ := (HS.out.kp HK1.out (fun _ _ x => x)).push HLK.out HHO.out (Nat.le_trans HB.out.size HK1.out.size) (by omega) 22; have HAP := hid hap; have HM4 := hid hm4; have HG4 := hid hg4; clear hap hm4 hg4)
        | (refine wpList_load_mid (by rfl) 68 _ (by rfl) wr.heap.size 2 (by rfl) (b8 hs) _ HRH.out Try.underlying68 rfl HIH.out ?_)
        | (refine wpList_valE (by rfl) (exec_sliceE 22 _ rfl (.agg (b8 hs).toArray) _ rfl (HB1.out _)) ?_)
        | (refine wpList_valE (by rfl) (exec_appE _ _ 22 rfl (.slice ad k cap) (.slice (some ⟨W1.heap.size, 0, none⟩) 1 1) _ rfl rfl HAP.out) ?_))
      have HMF : Hid (HMine w.heap.size w4 (.slice ad2 (k + 1) cap2) (D.take (k + 1))) := by rw [HNX.out]; exact HM4.out
      have HBF : Hid (Below w.heap.size w w4) := by
        have k1 : Below w.heap.size w W1 := HB.out.trans (HK1.out.toBelow'.mono HB.out.size)
        exact (k1.alloc k1.size _).grown HG4.out (k1.alloc k1.size _).size (fun r hr => HS.out.2.1 r hr)
      go_round
      case rel => exact ⟨k + 1, ad2, cap2, rfl, by first | rfl | go_num, by omega, HMF.out, HBF.out⟩
      case measure => simp [intOf]; omega
    · have hltI : ¬ (k : Int) < (n : Int) := by omega
      have hkn' : k = n := by omega
      have HF : Hid (HV (fun g => w.heap.size ≤ g) wr (.slice ad k cap) D) := by
        have := HS.out
        rw [hkn', ← HDL.out, List.take_length] at this
        rw [Hid, hkn', ← HDL.out]
        exact this.hv
      clear hkn' HS
      go_wp2_with fail
      go_ret
      exact ⟨_, _, _, rfl, HF.out, HB.out⟩

/-- What an object names. -/
def LinkP (K0 : Int) (bs : List Int) (d : List (List Int)) (f : Int) : Prop :=
  (K0 = 1 ∧ d = [] ∧ f = if 1 ≤ bs.length ∧ bs.length ≤ 4096 then 0 else 3) ∨
  (K0 = 2 ∧ ((gfile bs = none ∧ d = [] ∧ f = 3) ∨ ∃ s, gfile bs = some (s, d) ∧ f = 0)) ∨
  (K0 = 3 ∧ (((∀ d', ¬ IsDir bs d') ∧ d = [] ∧ f = 3) ∨ ∃ d', IsDir bs d' ∧ d = d'.map (·.2.2) ∧ f = 0)) ∨
  (K0 ≠ 1 ∧ K0 ≠ 2 ∧ K0 ≠ 3 ∧ d = [] ∧ f = 1)
/-- What Links answers. -/
def LinkA (u w : World) (K0 : Int) (bs : List Int) (e : Ending) : Prop :=
  ∃ a l c d f, e = .returned (.tuple #[.slice a l c, .int .i64 f]) ∧ HV (fun g => u.heap.size ≤ g) w (.slice a l c) d ∧ LinkP K0 bs d f
theorem LinkA.nil {u w : World} {K0 : Int} {bs : List Int} {f : Int} (h : LinkP K0 bs [] f) : LinkA u w K0 bs (.returned (.tuple #[.slice none 0 0, .int .i64 f])) := ⟨none, 0, 0, [], f, rfl, HV.nil _ _, h⟩

set_option maxHeartbeats 4000000 in
set_option maxRecDepth 100000 in
theorem links_any (w : World) (K0 : Int) (v : Value) (bs : List Int) (hv : Tlv.BySl 0 w.heap.size w v bs) :
    Calls Try.prog 23 #[.agg #[.int .i64 K0, v]] w fun e w' => LinkA w w' K0 bs e ∧ Below w.heap.size w w' := by
  obtain ⟨a, c, rfl, hxx⟩ := id hv
  clear hxx
  obtain ⟨n, hn⟩ : ∃ n, bs.length = n := ⟨_, rfl⟩
  have HN := hid hn
  rw [hn] at hv ⊢
  obtain ⟨W0, hW0⟩ : ∃ W, w.alloc (.cells #[.int .i64 K0, .slice a n c] 31) = W := ⟨_, rfl⟩
  have HB0 : Hid (Below w.heap.size w W0) := by rw [Hid, ← hW0]; exact (Below.refl _ _).alloc (Nat.le_refl _) _
  have hbox : W0.cell? ⟨w.heap.size, 0, none⟩ = some (.int .i64 K0) ∧ W0.cell? ⟨w.heap.size, 1, none⟩ = some (.slice a n c) := by rw [← hW0]; simp [go_sem]
  have HBY : Hid (Tlv.BySl 0 W0.heap.size W0 (.slice a n c) bs) := hv.agree (Agree.below HB0.out) (Nat.le_refl _) HB0.out.size
  have HGF := hid (getFile_any W0 K0 (.slice a n c) bs HBY.out)
  have HGD := hid (getDir_any W0 K0 (.slice a n c) bs HBY.out)
  clear hv hn
  obtain ⟨hx0, hx1⟩ := hbox
  by_cases h1 : K0 = 1
  · subst h1
    have HCR := hid (chunkRight_any W0 a n c)
    cases hq : decide (1 ≤ n ∧ n ≤ 4096) with
    | true =>
      rw [hq] at HCR
      have HA : Hid (∀ w', LinkA w w' 1 bs (.returned (.tuple #[.slice none 0 0, .int .i64 0]))) := fun w' => LinkA.nil (.inl ⟨rfl, rfl, by rw [HN.out, if_pos (by simpa using hq)]⟩)
      clear hq
      go_enter Try.func23, Try.ntmps23
      go_wp2_with fail
      refine HCR.out.mono ?_
      rintro e w1 ⟨rfl, hw1⟩
      subst hw1
      go_wp2_with fail
      go_ret2
      exact ⟨HA.out _, HB0.out⟩
    | false =>
      rw [hq] at HCR
      have HA : Hid (∀ w', LinkA w w' 1 bs (.returned (.tuple #[.slice none 0 0, .int .i64 3]))) := fun w' => LinkA.nil (.inl ⟨rfl, rfl, by rw [HN.out, if_neg (by simpa using hq)]⟩)
      clear hq
      go_enter Try.func23, Try.ntmps23
      go_wp2_with fail
      refine HCR.out.mono ?_
      rintro e w1 ⟨rfl, hw1⟩
      subst hw1
      go_wp2_with fail
      go_ret2
      exact ⟨HA.out _, HB0.out⟩
  · have h1b : (K0 == 1) = false := by simpa using h1
    by_cases h2 : K0 = 2
    · subst h2
      go_enter Try.func23, Try.ntmps23
      go_wp2_with fail
      refine HGF.out.mono ?_
      rintro e w2 ⟨hres, hb2⟩
      have HB2 : Hid (Below w.heap.size w w2) := HB0.out.trans (hb2.mono HB0.out.size)
      have HZ := HB0.out.size
      clear hb2 hW0
      rcases hres with ⟨hk, _⟩ | ⟨_, hno, rfl⟩ | ⟨s, d, ax, lx, cx, _, hyes, rfl, hhv⟩
      · exact absurd rfl hk
      · unfold zFil
        have HA : Hid (∀ w', LinkA w w' 2 bs (.returned (.tuple #[.slice none 0 0, .int .i64 3]))) := fun w' => LinkA.nil (.inr (.inl ⟨rfl, .inl ⟨hno, rfl, rfl⟩⟩))
        clear hno
        go_wp2_with fail
        go_ret2
        exact ⟨HA.out _, HB2.out.alloc HB2.out.size _⟩
      · have HA : Hid (∀ w', HV (fun g => w.heap.size ≤ g) w' (.slice ax lx cx) d → LinkA w w' 2 bs (.returned (.tuple #[.slice ax lx cx, .int .i64 0]))) := fun w' h => ⟨ax, lx, cx, d, 0, rfl, h, .inr (.inl ⟨rfl, .inr ⟨s, hyes, rfl⟩⟩)⟩
        have HH := hid (hhv.imp (fun g hg => Nat.le_trans HZ hg.2) : HV (fun g => w.heap.size ≤ g) w2 (.slice ax lx cx) d)
        clear hyes hhv
        go_wp2_with fail
        go_ret2
        exact ⟨HA.out _ (HH.out.kept ((Kp.refl No w2).alloc _)), HB2.out.alloc HB2.out.size _⟩
    · have h2b : (K0 == 2) = false := by simpa using h2
      by_cases h3 : K0 = 3
      · subst h3
        go_enter Try.func23, Try.ntmps23
        go_wp2_with fail
        refine HGD.out.mono ?_
        rintro e w2 ⟨hres, hb2⟩
        have HB2 : Hid (Below w.heap.size w w2) := HB0.out.trans (hb2.mono HB0.out.size)
        clear hb2 hW0
        rcases hres with ⟨hk, _⟩ | ⟨_, hno, rfl⟩ | ⟨d, ax, lx, cx, _, hyes, rfl, hev⟩
        · exact absurd rfl hk
        · have HEH := hid (ehashes_any w2 _ [] (fun _ => True) (EV.nil _ _) (by simp))
          have HA : Hid (∀ w' a l c, HV (fun g => w2.heap.size ≤ g) w' (.slice a l c) [] → LinkA w w' 3 bs (.returned (.tuple #[.slice a l c, .int .i64 3]))) := fun w' a l c h => ⟨a, l, c, [], 3, rfl, h.imp (fun g hg => Nat.le_trans HB2.out.size hg), .inr (.inr (.inl ⟨rfl, .inl ⟨hno, rfl, rfl⟩⟩))⟩
          clear hno
          go_wp2_with fail
          refine HEH.out.mono ?_
          rintro e w3 ⟨ay, ly, cy, rfl, hh, hb3⟩
          have HH := hid hh
          have HB3 : Hid (Below w.heap.size w w3) := HB2.out.trans (hb3.mono HB2.out.size)
          clear hh hb3
          go_wp2_with fail
          go_ret2
          exact ⟨HA.out _ _ _ _ HH.out, HB3.out⟩
        · have hdl : d.length ≤ 1000000 := by
            obtain ⟨t, _, hg, rfl⟩ := hyes
            exact Nat.le_trans hg.2.1.1 (by omega)
          have HEH := hid (ehashes_any w2 _ d _ hev hdl)
          have HA : Hid (∀ w' a l c, HV (fun g => w2.heap.size ≤ g) w' (.slice a l c) (d.map (·.2.2)) → LinkA w w' 3 bs (.returned (.tuple #[.slice a l c, .int .i64 0]))) := fun w' a l c h => ⟨a, l, c, _, 0, rfl, h.imp (fun g hg => Nat.le_trans HB2.out.size hg), .inr (.inr (.inl ⟨rfl, .inr ⟨d, hyes, rfl, rfl⟩⟩))⟩
          clear hyes hev hdl
          go_wp2_with fail
          refine HEH.out.mono ?_
          rintro e w3 ⟨ay, ly, cy, rfl, hh, hb3⟩
          have HH := hid hh
          have HB3 : Hid (Below w.heap.size w w3) := HB2.out.trans (hb3.mono HB2.out.size)
          clear hh hb3
          go_wp2_with fail
          go_ret2
          exact ⟨HA.out _ _ _ _ HH.out, HB3.out⟩
      · have h3b : (K0 == 3) = false := by simpa using h3
        have HA : Hid (∀ w', LinkA w w' K0 bs (.returned (.tuple #[.slice none 0 0, .int .i64 1]))) := fun w' => LinkA.nil (.inr (.inr (.inr ⟨h1, h2, h3, rfl, rfl⟩)))
        go_enter Try.func23, Try.ntmps23
        go_wp2_with fail
        go_ret2
        exact ⟨HA.out _, HB0.out⟩
end Go.Proofs.Ytenfahecnkdhaaa.Nd
end

section
/-
  What must come at any rate.
-/
namespace Go.Proofs.Ytenfahecnkdhaaa.Nd
open Go.RowKit
open Tlv (Tr Agree)
open Sim (hid Kp No)
set_option linter.unusedSimpArgs false

def h7 : List Int := 7 :: List.replicate 31 0
def f7 : List Int := [3, 0, 42, 1, 0, 1, 2, 3, 0, 35, 2, 0, 32] ++ h7
theorem h7_ok : HOk h7 := by
  refine ⟨rfl, fun x hx => ?_⟩
  rcases List.mem_cons.1 hx with rfl | hx
  · omega
  · rw [List.eq_of_mem_replicate hx]
    omega
theorem form7 : Tlv.formOf 3 (fileT 2 [h7]) = f7 := by kernel_rfl
theorem gfile7 : gfile f7 = some (2, [h7]) := by kernel_rfl
theorem sz7 : Tlv.szT 3 (fileT 2 [h7]) ≠ 0 := by decide +kernel
theorem form0 : Tlv.formOf 3 (entsT []) = [3, 0, 0] := by kernel_rfl
theorem sz0 : Tlv.szT 3 (entsT []) ≠ 0 := by decide +kernel
theorem right0 : RightP [] := ⟨by simp, fun i e hi => by simp at hi⟩
theorem dans0 {u w : World} {e : Ending} (h : DAns u w [] e) : ∃ a c, e = .returned (.tuple #[.agg #[.int .i64 3, .slice a 3 c], .int .i64 0]) ∧ Tlv.BySl u.heap.size w.heap.size w (.slice a 3 c) [3, 0, 0] := by
  rcases h with ⟨_, h⟩ | ⟨h, _⟩
  · rcases h with ⟨_, a, c, h1, h2⟩ | ⟨h, _⟩
    · rw [form0] at h1 h2
      exact ⟨a, c, h1, h2⟩
    · exact absurd ⟨sz0, by rw [form0]; simp⟩ h
  · exact absurd right0 h
theorem fans7 {u w : World} {e : Ending} (h : FiAns u w 2 [h7] e) : ∃ a c, e = .returned (.tuple #[.agg #[.int .i64 2, .slice a 45 c], .int .i64 0]) ∧ Tlv.BySl u.heap.size w.heap.size w (.slice a 45 c) f7 := by
  rcases h with ⟨_, h⟩ | ⟨h, _⟩
  · rcases h with ⟨_, a, c, h1, h2⟩ | ⟨h, _⟩
    · rw [form7] at h1 h2
      exact ⟨a, c, h1, h2⟩
    · exact absurd ⟨sz7, by rw [form7]; decide⟩ h
  · cases h
theorem lans7 {u w : World} {e : Ending} (h : LinkA u w 2 f7 e) : ∃ a l c, e = .returned (.tuple #[.slice a l c, .int .i64 0]) ∧ HV (fun g => u.heap.size ≤ g) w (.slice a l c) [h7] := by
  obtain ⟨a, l, c, d, f, rfl, hv, hl⟩ := h
  rcases hl with ⟨h, _⟩ | ⟨_, h⟩ | ⟨h, _⟩ | ⟨_, h, _⟩
  · cases h
  · rcases h with ⟨h, _⟩ | ⟨s, h, rfl⟩
    · rw [gfile7] at h
      cases h
    · rw [gfile7] at h
      simp only [Option.some.injEq, Prod.mk.injEq] at h
      obtain ⟨_, rfl⟩ := h
      exact ⟨a, l, c, rfl, hv⟩
  · cases h
  · exact absurd rfl h

theorem hv7 (W : World) : HV (· < (W.alloc (.cells (b8 h7).toArray 68)).heap.size) (W.alloc (.cells (b8 h7).toArray 68)) (.slice (some ⟨W.heap.size, 0, none⟩) 1 1) [h7] := by
  refine ⟨_, 1, rfl, Nat.le_refl _, by decide, by simp, by simpa using h7_ok, fun _ => ⟨W.heap.size, 0, rfl, by simp, by simp, fun i h hi => ?_⟩⟩
  match i, hi with
  | 0, hi =>
    simp only [List.getElem?_cons_zero, Option.some.injEq] at hi
    subst hi
    exact ⟨h7_ok, row_range (heap_alloc_new W _)⟩
theorem h7_lit : (b8 h7).toArray = (#[.int .u8 7, .int .u8 0, .int .u8 0, .int .u8 0, .int .u8 0, .int .u8 0, .int .u8 0, .int .u8 0, .int .u8 0, .int .u8 0, .int .u8 0, .int .u8 0, .int .u8 0, .int .u8 0, .int .u8 0, .int .u8 0, .int .u8 0, .int .u8 0, .int .u8 0, .int .u8 0, .int .u8 0, .int .u8 0, .int .u8 0, .int .u8 0, .int .u8 0, .int .u8 0, .int .u8 0, .int .u8 0, .int .u8 0, .int .u8 0, .int .u8 0, .int .u8 0] : Array Value) := by rfl
theorem hv_one {P : Nat → Prop} {w : World} {a : Option Addr} {l c : Nat} {h : List Int} (hv : HV P w (.slice a l c) [h]) : ∃ g o, a = some ⟨g, o, none⟩ ∧ l = 1 ∧ w.rangeAt g o (b8 h) ∧ g < w.heap.size := by
  obtain ⟨a', c', e, _, _, _, _, h6⟩ := hv
  simp only [Value.slice.injEq, List.length_singleton] at e
  obtain ⟨rfl, rfl, _⟩ := e
  obtain ⟨g, o, rfl, _, hr⟩ := h6 (by simp)
  have := (hr.2 0 h rfl).2
  rw [Nat.zero_mul, Nat.add_zero] at this
  exact ⟨g, o, rfl, rfl, this, hr.1⟩
theorem three_in (W : World) : Tlv.BySl 0 (W.alloc (.cells #[.int .u8 3, .int .u8 0, .int .u8 0] 5)).heap.size (W.alloc (.cells #[.int .u8 3, .int .u8 0, .int .u8 0] 5)) (.slice (some ⟨W.heap.size, 0, none⟩) 3 3) [3, 0, 0] := by
  refine ⟨_, 3, rfl, Nat.le_refl _, by decide, by simp, by simp, by simp, fun _ => ⟨W.heap.size, 0, rfl, Nat.zero_le _, by simp, fun i hi => ?_⟩⟩
  match i, hi with
  | 0, _ => simp
  | 1, _ => simp
  | 2, _ => simp

set_option maxHeartbeats 4000000 in
set_option maxRecDepth 100000 in
theorem alive_any (w : World) :
    Calls Try.prog 8 #[] w fun e w' => e = .returned (.bool true) ∧ Below w.heap.size w w' := by
  have HPD := hid (putDir_any w _ [] (fun _ => True) (EV.nil _ _) (by simp) (by simp))
  go_enter Try.func8, Try.ntmps8
  go_wp2_with fail
  refine HPD.out.mono ?_
  rintro e w1 ⟨hd, hb1⟩
  obtain ⟨a1, c1, rfl, hy1⟩ := dans0 hd
  have HB1 := hid hb1
  have HY1 := hid hy1
  clear hd hb1 hy1 HPD
  have HPF := hid (putFile_any _ 2 _ [h7] (hv7 (w1.alloc (.cells #[.int .i64 3, .slice a1 3 c1] 31))) (by simp))
  have hs1 : (w1.alloc (.cells #[.int .i64 3, .slice a1 3 c1] 31)).heap.size = w1.heap.size + 1 := by simp
  rw [h7_lit, hs1] at HPF
  clear hs1
  go_wp2_with fail
  refine HPF.out.mono ?_
  rintro e w2 ⟨hd, hb2⟩
  obtain ⟨a2, c2, rfl, hy2⟩ := fans7 hd
  have HB2 : Hid (Below (w1.alloc (.cells #[.int .i64 3, .slice a1 3 c1] 31)).heap.size (w1.alloc (.cells #[.int .i64 3, .slice a1 3 c1] 31)) w2) := ((Below.refl _ _).alloc (Nat.le_refl _) _).trans (hb2.mono (by simp))
  have HBX : Hid (w2.cell? ⟨w1.heap.size, 0, none⟩ = some (.int .i64 3) ∧ w2.cell? ⟨w1.heap.size, 1, none⟩ = some (.slice a1 3 c1)) := by
    refine ⟨?_, ?_⟩
    · rw [HB2.out.cell (p := ⟨w1.heap.size, 0, none⟩) (by simp)]; simp
    · rw [HB2.out.cell (p := ⟨w1.heap.size, 1, none⟩) (by simp)]; simp
  have HBW : Hid (Below w1.heap.size w1 w2) := ((Below.refl _ w1).alloc (Nat.le_refl _) _).trans (HB2.out.mono (by simp))
  have HZ2 : Hid (w1.heap.size < w2.heap.size) := by have := HB2.out.size; simp at this; rw [Hid]; omega
  have HY2 : Hid (Tlv.BySl 0 w2.heap.size w2 (.slice a2 45 c2) f7) := hy2.agree (Agree.refl _ _ _) (Nat.zero_le _) (Nat.le_refl _)
  have HLK := hid (links_any (w2.alloc (.cells #[.int .i64 2, .slice a2 45 c2] 31)) 2 _ f7 (HY2.out.agree ((Agree.refl _ _ _).alloc (Nat.le_refl _) _) (Nat.le_refl _) (by simp)))
  clear hd hb2 hy2 HPF
  go_wp2_with fail
  refine HLK.out.mono ?_
  rintro e w3 ⟨hd, hb3⟩
  obtain ⟨a3, l3, c3, rfl, hv3⟩ := lans7 hd
  obtain ⟨g, o, rfl, rfl, hr3, hg3⟩ := hv_one hv3
  have HB3 : Hid (Below w2.heap.size w2 w3) := ((Below.refl _ _).alloc (Nat.le_refl _) _).trans (hb3.mono (by simp))
  have HR3 := hid hr3
  have HBW3 : Hid (Below w1.heap.size w1 w3) := HBW.out.trans (HB3.out.mono HBW.out.size)
  have hx0 : w3.cell? ⟨w1.heap.size, 0, none⟩ = some (.int .i64 3) := by rw [HB3.out.cell (p := ⟨w1.heap.size, 0, none⟩) HZ2.out]; exact HBX.out.1
  have hx1 : w3.cell? ⟨w1.heap.size, 1, none⟩ = some (.slice a1 3 c1) := by rw [HB3.out.cell (p := ⟨w1.heap.size, 1, none⟩) HZ2.out]; exact HBX.out.2
  have HRB := hid (Tlv.refBytes_any (.slice a1 3 c1) (.slice (some ⟨w3.heap.size, 0, none⟩) 3 3) [3, 0, 0] [3, 0, 0] (w3.alloc (.cells #[.int .u8 3, .int .u8 0, .int .u8 0] 5)) (HY1.out.agree (Agree.below (HBW3.out.trans ((Below.refl _ _).alloc HBW3.out.size _))) (Nat.zero_le _) (Nat.le_trans HBW3.out.size (by simp))) (three_in w3))
  clear hd hb3 hv3 hr3 HLK
  go_wp2_with fail
  refine HRB.out.mono ?_
  rintro e w4 ⟨rfl, hb4⟩
  have HB4 := hid hb4
  have HR4 : Hid (w4.rangeAt g o (b8 h7)) := fun j v hv => by
    rw [hb4.cell (p := ⟨g, _, none⟩) (by simp; omega), World.cell?_alloc_past _ _ _ hg3]
    exact HR3.out j v hv
  have hdd : decide True = true := rfl
  rw [hdd]
  clear hb4 hdd HRB
  have hq : ∀ W, (Op.equalIn 10000 68 (.agg (b8 h7).toArray) (.agg #[.int .u8 7, .int .u8 0, .int .u8 0, .int .u8 0, .int .u8 0, .int .u8 0, .int .u8 0, .int .u8 0, .int .u8 0, .int .u8 0, .int .u8 0, .int .u8 0, .int .u8 0, .int .u8 0, .int .u8 0, .int .u8 0, .int .u8 0, .int .u8 0, .int .u8 0, .int .u8 0, .int .u8 0, .int .u8 0, .int .u8 0, .int .u8 0, .int .u8 0, .int .u8 0, .int .u8 0, .int .u8 0, .int .u8 0, .int .u8 0, .int .u8 0, .int .u8 0])).run Try.prog W = .ok true W := fun W => by
    have := eqHashAt 9998 h7 h7 h7_ok.1 h7_ok.1 h7_ok.2 h7_ok.2 W
    rw [decide_eq_true rfl] at this
    rw [← h7_lit]
    exact this
  go_wp2_with (refine wpList_bare (by rfl) ?_; refine wpList_load_mid (by rfl) 68 _ (by rfl) g o (by rfl) (b8 h7) _ HR4.out Try.underlying68 rfl (by rw [b8_length, h7_ok.1]; exact infH) ?_)
  go_ret
  exact ⟨rfl, (HB1.out.trans (HBW3.out.mono HB1.out.size)).trans (((Below.refl _ w3).alloc (Nat.le_refl _) _).trans (HB4.out.mono (by simp)) |>.mono (Nat.le_trans HB1.out.size HBW3.out.size))⟩
end Go.Proofs.Ytenfahecnkdhaaa.Nd
end

section
/-
  Values of the document's tlv that a call builds out of what it was handed: lists that grow in a variable.
-/
namespace Go.Proofs.Ytenfahecnkdhaaa.Nd
open Go.RowKit
open Tlv (Tr Agree AgreeS BInv RepS BySlS KSlS cellsK cell4)
open Sim (hid Kp No)

theorem infoRV : (Try.prog.info? 86).map (fun i => (i.zero, i.size, i.bytes)) = some (some (.agg #[.int .i64 0, .int .u64 0, .slice none 0 0, .slice none 0 0]), 4, 64) := by kernel_rfl
theorem rpush_run {n base L B k : Nat} {S : Nat → Prop} {ts : List (Tr n)} {t : Tr n} {av : Option Addr} {cv : Nat} {sb sk : Value} (w : World) (hk : ts.length = k) (h : BInv S base ts (.slice av k cv) w) (hS : ∀ b, S b → b < base) (hb : base ≤ w.heap.size) (hr : RepS (fun b => S b ∨ (L ≤ b ∧ b < B)) w n t sb sk) (hL : base ≤ L) (hB : B ≤ w.heap.size)
    (hd : ∀ r, (Value.slice av k cv).ownBlock = some r → r < L ∨ B ≤ r) (hl : k + 1 ≤ 2000000) (ty : TypeId) :
    ∃ g' cap w', (Builtin.append_ #[84, 84] ty #[.slice av k cv, .slice (some ⟨w.heap.size, 0, none⟩) 1 1]).run Try.prog (w.alloc (.cells #[.int .i64 t.hd.1, .int .u64 t.hd.2.1, sb, sk] 86)) = .ok (.slice (some ⟨g', 0, none⟩) (k + 1) cap) w' ∧
      BInv S base (ts ++ [t]) (.slice (some ⟨g', 0, none⟩) (k + 1) cap) w' ∧ (w.alloc (.cells #[.int .i64 t.hd.1, .int .u64 t.hd.2.1, sb, sk] 86)).grownBy w' (Value.slice av k cv).ownBlock := by
  obtain ⟨i0, hi, hz0, hz1, hz2⟩ := info_parts infoRV
  have hlt := h.lt
  have hA : Agree base w.heap.size w (w.alloc (.cells #[.int .i64 t.hd.1, .int .u64 t.hd.2.1, sb, sk] 86)) := (Agree.refl _ _ _).alloc (Nat.le_refl _) _
  have hO : AgreeS S w (w.alloc (.cells #[.int .i64 t.hd.1, .int .u64 t.hd.2.1, sb, sk] 86)) := fun b hb' => Below.heap_alloc _ _ _ (by have := hS b hb'; omega)
  obtain ⟨ps, hl2, hown, hkid⟩ := h.agree hO hA (by simp)
  have hr2 : RepS (fun b => S b ∨ (L ≤ b ∧ b < B)) (w.alloc (.cells #[.int .i64 t.hd.1, .int .u64 t.hd.2.1, sb, sk] 86)) n t sb sk := hr.agree (fun b hb' => Below.heap_alloc _ _ _ (by rcases hb' with hb' | hb'; have := hS b hb'; omega; omega)) (fun _ h => h)
  rw [hk] at hown
  have hone : ∀ u ∈ cell4 t (sb, sk), u.oneCell' = true := by
    obtain ⟨_, _, _, _, _, _, rfl, rfl⟩ := hr.sl
    intro u hu
    simp only [cell4, List.mem_cons, List.not_mem_nil, or_false] at hu
    rcases hu with rfl | rfl | rfl | rfl <;> rfl
  obtain ⟨g', cap, w', hrun, ho, hgr, hat, hlt'⟩ := run_append_lies (P := Try.prog) (w.alloc (.cells #[.int .i64 t.hd.1, .int .u64 t.hd.2.1, sb, sk] 86)) 84 ty base 86 i0 _ 4 64 Try.underlying84 hi hz0 hz1 hz2 rfl (by decide) (.slice av k cv) k (cellsK ts ps) hown ⟨w.heap.size, 0, none⟩ 1 1 (cell4 t (sb, sk)) rfl
    (World.news_of_block (cs := #[.int .i64 t.hd.1, .int .u64 t.hd.2.1, sb, sk]) (t := 86) (fr := (0, 0)) (heap_alloc_new w _)) hone (by omega) (by unfold maxLen; omega) (by omega) (by simp; omega) _ rfl
  refine ⟨g', cap, w', hrun, ?_, hgr⟩
  have P := BInv.push (g := g') (cap := cap) hl2 hS (by simp; omega) hkid hr2 hL (by simp; omega) (fun r hr => ⟨(hlt r hr).1, hd r hr⟩) (by rw [hk]; exact ho) hgr hat
  rw [hk] at P
  exact P

/-- The variable at block b holds a list's value: these. -/
def RV {n : Nat} (S : Nat → Prop) (w1 : World) (b : Nat) (ts : List (Tr n)) (v : Value) (wr : World) : Prop :=
  wr.cell? ⟨b, 0, none⟩ = some (.int .i64 3) ∧ wr.cell? ⟨b, 1, none⟩ = some (.int .u64 0) ∧ wr.cell? ⟨b, 2, none⟩ = some (.slice none 0 0) ∧ wr.cell? ⟨b, 3, none⟩ = some v ∧
    (∀ o, wr.frozen? ⟨b, o, none⟩ = false) ∧ b < wr.heap.size ∧ BInv S (b + 1) ts v wr ∧ Below w1.heap.size w1 wr
theorem RV.step {n : Nat} {S : Nat → Prop} {w1 wr W1 w2 : World} {b k cv L : Nat} {av : Option Addr} {ts : List (Tr n)} {t : Tr n} {sb sk : Value} (F : RV S w1 b ts (.slice av k cv) wr) (hk : ts.length = k) (hw : w1.heap.size ≤ b) (hS : ∀ g, S g → g < b) (h1 : Kp No wr W1) (h2 : Kp No W1 w2)
    (hr : RepS (fun g => S g ∨ (L ≤ g ∧ g < w2.heap.size)) w2 n t sb sk) (hL : wr.heap.size ≤ L) (hl : k + 1 ≤ 2000000) (ty : TypeId) :
    ∃ g' cap w4, (Builtin.append_ #[84, 84] ty #[.slice av k cv, .slice (some ⟨w2.heap.size, 0, none⟩) 1 1]).run Try.prog (w2.alloc (.cells #[.int .i64 t.hd.1, .int .u64 t.hd.2.1, sb, sk] 86)) = .ok (.slice (some ⟨g', 0, none⟩) (k + 1) cap) w4 ∧
      w4.cell? ⟨b, 3, none⟩ = some (.slice av k cv) ∧ w4.frozen? ⟨b, 3, none⟩ = false ∧ b < w4.heap.size ∧
      RV S w1 b (ts ++ [t]) (.slice (some ⟨g', 0, none⟩) (k + 1) cap) (w4.setCell ⟨b, 3, none⟩ (.slice (some ⟨g', 0, none⟩) (k + 1) cap)) ∧ Kp (fun x => x = b ∨ (Value.slice av k cv).ownBlock = some x) W1 w4 := by
  obtain ⟨c0, c1, c2, c3, hf, hs, hc, hw1⟩ := F
  have hb : Kp No wr w2 := h1.andNone h2
  have hz := hb.size
  have hS' : ∀ g, S g → g < b + 1 := fun g hg => Nat.lt_succ_of_lt (hS g hg)
  have hc2 : BInv S (b + 1) ts (.slice av k cv) w2 := hc.agree (fun g hg => hb.block g (by have := hS g hg; omega) (fun x => x)) (fun j _ hj => hb.block j hj (fun x => x)) hz
  obtain ⟨g', cap, w4, hrun, hC, hgr⟩ := rpush_run w2 hk hc2 hS' (by omega) hr (by omega) (Nat.le_refl _) (fun r hr => .inl (by have := (hc.lt r hr).2; omega)) hl ty
  have hnb : some b ≠ (Value.slice av k cv).ownBlock := fun e => by have := (hc.lt b e.symm).1; omega
  have hzg := hgr.size
  simp at hzg
  have cc : ∀ j, w4.cell? ⟨b, j, none⟩ = wr.cell? ⟨b, j, none⟩ := fun j => by
    rw [hgr.cell_far ⟨b, j, none⟩ (by simp; omega) hnb, World.cell?_alloc_past _ _ _ (by omega)]
    exact hb.cell (p := ⟨b, j, none⟩) hs (fun x => x)
  have cf : ∀ j, w4.frozen? ⟨b, j, none⟩ = false := fun j => by
    rw [hgr.frozen_far ⟨b, j, none⟩ (by simp; omega) hnb, World.frozen?_alloc_past _ _ _ (by omega), hb.frozen (p := ⟨b, j, none⟩) hs (fun x => x)]
    exact hf j
  have hKp : Kp (fun x => x = b ∨ (Value.slice av k cv).ownBlock = some x) W1 w4 := ((h2.ofNo).alloc _).grown hgr (fun x hx => .inl (.inr hx))
  have hKr : Kp (fun x => x = b ∨ (Value.slice av k cv).ownBlock = some x) wr w4 := ((hb.ofNo).alloc _).grown hgr (fun x hx => .inl (.inr hx))
  refine ⟨g', cap, w4, hrun, (cc 3).trans c3, cf 3, by omega, ⟨?_, ?_, ?_, ?_, fun o => ?_, ?_, ?_, ?_⟩, hKp⟩
  · rw [Sim.cell_other (by omega)]; exact (cc 0).trans c0
  · rw [Sim.cell_other (by omega)]; exact (cc 1).trans c1
  · rw [Sim.cell_other (by omega)]; exact (cc 2).trans c2
  · exact World.cell?_setCell_same _ _ _ ((cc 3).trans c3)
  · rw [World.frozen?_setCell]; exact cf o
  · simp; omega
  · exact hC.agree (fun g hg => Below.heap_setCell _ _ _ _ (by have := hS g hg; simp; omega)) ((Agree.refl _ _ _).setCell (.inl (by simp)) _) (by simp)
  · have b1 : Below w1.heap.size w1 w4 := Kp.under hw1 hKr (fun x hx => by
      rcases hx with rfl | hx
      · exact hw
      · have := (hc.lt x hx).1; omega) hw1.size
    exact b1.setCell hw _

set_option maxHeartbeats 1000000 in
theorem rbytes_any (w : World) (x : Option Addr) (n c : Nat) :
    Calls Try.prog 42 #[.slice x n c] w fun e w' => e = .returned (.agg #[.int .i64 2, .int .u64 0, .slice x n c, .slice none 0 0]) ∧ Kp No w w' := by
  go_enter Try.func42, Try.ntmps42
  go_wp2
  refine bodyPost_ret (v := .agg #[.int .i64 2, .int .u64 0, .slice x n c, .slice none 0 0]) (by simp [results, Try.results42, go_sem]) rfl ⟨rfl, (Kp.refl No w).alloc _⟩
set_option maxHeartbeats 1000000 in
theorem rlist_any (w : World) (x : Option Addr) (n c : Nat) :
    Calls Try.prog 41 #[.slice x n c] w fun e w' => e = .returned (.agg #[.int .i64 3, .int .u64 0, .slice none 0 0, .slice x n c]) ∧ Kp No w w' := by
  go_enter Try.func41, Try.ntmps41
  go_wp2
  refine bodyPost_ret (v := .agg #[.int .i64 3, .int .u64 0, .slice none 0 0, .slice x n c]) (by simp [results, Try.results41, go_sem]) rfl ⟨rfl, (Kp.refl No w).alloc _⟩

theorem run_oneRV (t n : Int) (b k : Value) (w : World) : (Instr.buildSlice 84 1 #[(0, .agg #[.int .i64 t, .int .u64 n, b, k])]).run Try.prog w = .ok (.slice (some ⟨w.heap.size, 0, none⟩) 1 1) (w.alloc (.cells #[.int .i64 t, .int .u64 n, b, k] 86)) := by kernel_rfl
theorem run_twoRV (t1 t2 n1 n2 : Int) (b1 b2 k1 k2 : Value) (w : World) : (Instr.buildSlice 84 2 #[(0, .agg #[.int .i64 t1, .int .u64 n1, b1, k1]), (1, .agg #[.int .i64 t2, .int .u64 n2, b2, k2])]).run Try.prog w = .ok (.slice (some ⟨w.heap.size, 0, none⟩) 2 2) (w.alloc (.cells #[.int .i64 t1, .int .u64 n1, b1, k1, .int .i64 t2, .int .u64 n2, b2, k2] 86)) := by kernel_rfl
theorem run_threeRV (t1 t2 t3 n1 n2 n3 : Int) (b1 b2 b3 k1 k2 k3 : Value) (w : World) : (Instr.buildSlice 84 3 #[(0, .agg #[.int .i64 t1, .int .u64 n1, b1, k1]), (1, .agg #[.int .i64 t2, .int .u64 n2, b2, k2]), (2, .agg #[.int .i64 t3, .int .u64 n3, b3, k3])]).run Try.prog w = .ok (.slice (some ⟨w.heap.size, 0, none⟩) 3 3) (w.alloc (.cells #[.int .i64 t1, .int .u64 n1, b1, k1, .int .i64 t2, .int .u64 n2, b2, k2, .int .i64 t3, .int .u64 n3, b3, k3] 86)) := by kernel_rfl
end Go.Proofs.Ytenfahecnkdhaaa.Nd
end

section
/-
  Plain mathematics: the form as the reference makes it is the form.
-/
namespace Go.Proofs.Ytenfahecnkdhaaa.Tlv

/-- A list's forms behind one another, as the reference puts them together. -/
def rformL {α : Type} (f : α → Option (List Int)) : List Int → List α → Option (List Int)
  | acc, [] => some acc
  | acc, k :: ks => match f k with
    | none => none
    | some x => if 65535 < acc.length then none else rformL f (acc ++ x) ks

/-- What is behind the first three bytes, as the reference makes it. -/
def rbody {n : Nat} (f : Tr n → Option (List Int)) (t : Tr (n + 1)) (deep : Nat) : Option (List Int) :=
  if t.hd.1 = 1 then (if t.hd.2.2 ≠ [] ∨ t.kd ≠ [] then none else some (numB (nsz t.hd.2.1).toNat t.hd.2.1))
  else if t.hd.1 = 2 then (if t.hd.2.1 ≠ 0 ∨ t.kd ≠ [] then none else some t.hd.2.2)
  else if t.hd.1 = 3 then (if t.hd.2.1 ≠ 0 ∨ t.hd.2.2 ≠ [] ∨ deep = 0 then none else rformL f [] t.kd)
  else none

/-- The form, as the reference makes it. -/
def rform : (n : Nat) → Tr n → Nat → Option (List Int)
  | 0, t, _ => by cases t
  | n + 1, t, deep => match rbody (fun k => rform n k (deep - 1)) t deep with
    | none => none
    | some b => if 65535 < b.length then none else some (t.hd.1 :: ((b.length : Int) / 256) :: ((b.length : Int) % 256) :: b)

theorem form_len (n : Nat) (t : Tr n) : (formOf n t).length = 3 + (bodyOf n t).length := by simp [formOf]; omega

theorem rformL_le {α : Type} {f : α → Option (List Int)} : ∀ (ks : List α) (acc r : List Int), rformL f acc ks = some r → acc.length ≤ r.length
  | [], acc, r, h => by simp only [rformL, Option.some.injEq] at h; subst h; exact Nat.le_refl _
  | k :: ks, acc, r, h => by
    simp only [rformL] at h
    split at h
    · simp at h
    · rename_i x hx
      split at h
      · simp at h
      · have := rformL_le ks _ _ h
        simp at this
        omega

theorem rformL_yes {n d : Nat} {f : Tr n → Option (List Int)} (hf : ∀ k, f k = if (bsz n k 65535 d).2 then some (formOf n k) else none) : ∀ (ks : List (Tr n)) (acc : List Int),
    (lszGo (bsz n) 65535 ((d : Int) + 1) acc.length ks).2 = true → rformL f acc ks = some (acc ++ (ks.map (formOf n)).flatten)
  | [], acc, _ => by simp [rformL]
  | k :: ks, acc, h => by
    simp only [lszGo] at h
    split at h
    · rename_i hk
      rw [show (d : Int) + 1 - 1 = d by omega] at hk h
      have hfit := bsz_fits _ _ _ _ hk
      have hlen := bsz_len _ _ _ _ hk
      have hk2 := bsz_mono n k _ 65535 d hk (by omega) (by omega)
      have hl := form_len n k
      simp only [rformL]
      rw [hf k, if_pos hk2]
      simp only
      have e : (((acc.length + (3 + (bodyOf n k).length) : Nat)) : Int) = (acc.length : Int) + (3 + (bsz n k (65535 - (acc.length : Int) - 3) d).1) := by omega
      rw [if_neg (by omega), rformL_yes hf ks (acc ++ formOf n k) (by rw [List.length_append, hl, e]; exact h)]
      simp
    · simp at h

theorem rformL_no {n d : Nat} {f : Tr n → Option (List Int)} (hf : ∀ k, f k = if (bsz n k 65535 d).2 then some (formOf n k) else none) : ∀ (ks : List (Tr n)) (acc r : List Int),
    rformL f acc ks = some r → r.length ≤ 65535 → (lszGo (bsz n) 65535 ((d : Int) + 1) acc.length ks).2 = true
  | [], _, _, _, _ => rfl
  | k :: ks, acc, r, h, hr => by
    simp only [rformL] at h
    rw [hf k] at h
    by_cases hk : (bsz n k 65535 d).2 = true
    · rw [if_pos hk] at h
      simp only at h
      split at h
      · simp at h
      · have hle := rformL_le ks _ _ h
        have ih := rformL_no hf ks _ _ h hr
        have hl := form_len n k
        rw [List.length_append, hl] at hle ih
        have hk2 := bsz_mono n k _ (65535 - (acc.length : Int) - 3) d hk (by omega) (by omega)
        have hlen := bsz_len _ _ _ _ hk2
        simp only [lszGo]
        rw [show (d : Int) + 1 - 1 = d by omega, if_pos hk2]
        have e : (((acc.length + (3 + (bodyOf n k).length) : Nat)) : Int) = (acc.length : Int) + (3 + (bsz n k (65535 - (acc.length : Int) - 3) d).1) := by omega
        rw [← e]
        exact ih
    · rw [if_neg hk] at h
      simp at h

theorem rform_eq : ∀ (n : Nat) (t : Tr n) (d : Nat), rform n t d = if (bsz n t 65535 d).2 then some (formOf n t) else none
  | 0, t, _ => by cases t
  | n + 1, t, d => by
    have fin : ∀ b, bodyOf (n + 1) t = b → (t.hd.1 :: ((b.length : Int) / 256) :: ((b.length : Int) % 256) :: b) = formOf (n + 1) t := by
      intro b e
      simp only [formOf]
      rw [e]
    by_cases ho : oeB t.hd.1 t.hd.2.1 t.hd.2.2.length t.kd.length = true
    · obtain ⟨o1, o2, o3⟩ := oeB_iff.1 ho
      have hbs : t.hd.1 ≠ 2 → t.hd.2.2 = [] := fun h => List.eq_nil_of_length_eq_zero (by omega)
      have hkd : t.hd.1 ≠ 3 → t.kd = [] := fun h => List.eq_nil_of_length_eq_zero (by omega)
      rw [bsz_yes (by omega) ho]
      simp only [rform, rbody]
      by_cases h1 : t.hd.1 = 1
      · rw [if_pos h1, if_pos h1, if_neg (by simp [hbs (by omega), hkd (by omega)])]
        have hb := bodyOf_1 h1
        have := nsz_bd t.hd.2.1
        simp only
        rw [if_neg (by rw [numB_length]; omega), fin _ hb, if_pos (by simp; omega)]
      · rw [if_neg h1, if_neg h1]
        by_cases h2 : t.hd.1 = 2
        · rw [if_pos h2, if_pos h2, if_neg (by simp [hkd (by omega)]; omega)]
          have hb := bodyOf_2 h2
          simp only
          rw [fin _ hb]
          by_cases hl : 65535 < t.hd.2.2.length
          · rw [if_pos hl, if_neg (by simp; omega)]
          · rw [if_neg hl, if_pos (by simp; omega)]
        · rw [if_neg h2, if_neg h2]
          by_cases h3 : t.hd.1 = 3
          · rw [if_pos h3, if_pos h3]
            unfold lsz
            by_cases hd : d = 0
            · subst hd
              simp
            · rw [if_neg (by simp [hbs (by omega), hd]; omega), if_neg (show ¬ ((d : Int) = 0) by omega)]
              obtain ⟨d', rfl⟩ : ∃ d', d = d' + 1 := ⟨d - 1, by omega⟩
              have hb := bodyOf_kids h3
              have hf : ∀ k, (fun k => rform n k (d' + 1 - 1)) k = if (bsz n k 65535 d').2 then some (formOf n k) else none := fun k => rform_eq n k d'
              have hcast : (((d' + 1 : Nat)) : Int) = (d' : Int) + 1 := by omega
              rw [hcast]
              by_cases hg : (lszGo (bsz n) 65535 ((d' : Int) + 1) 0 t.kd).2 = true
              · rw [if_pos hg, rformL_yes hf t.kd [] hg]
                have hbd := lszGo_bd (bsz_fits n) 65535 ((d' : Int) + 1) t.kd 0 (by omega) (by omega) hg
                have hln := (lszGo_len (bsz_len n) 65535 ((d' : Int) + 1) t.kd 0 hg).1
                simp only [List.nil_append]
                rw [if_neg (by omega), fin _ hb]
              · rw [if_neg hg]
                split
                · rfl
                · rename_i r hr
                  by_cases hl : 65535 < r.length
                  · rw [if_pos hl]
                  · exact absurd (rformL_no hf t.kd [] r hr (by omega)) hg
          · rw [if_neg h3, if_neg h3]
            rfl
    · have ho' : oeB t.hd.1 t.hd.2.1 t.hd.2.2.length t.kd.length = false := by simpa using ho
      rw [bsz_no (.inr ho'), if_neg (by simp)]
      have hno : ¬ ((t.hd.1 = 1 ∨ t.hd.2.1 = 0) ∧ (t.hd.1 = 2 ∨ t.hd.2.2.length = 0) ∧ (t.hd.1 = 3 ∨ t.kd.length = 0)) := fun h => ho (oeB_iff.2 h)
      have hb0 : t.hd.2.2 = [] ↔ t.hd.2.2.length = 0 := List.length_eq_zero_iff.symm
      have hk0 : t.kd = [] ↔ t.kd.length = 0 := List.length_eq_zero_iff.symm
      have : rbody (fun k => rform n k (d - 1)) t d = none := by
        unfold rbody
        split
        · rw [if_pos (by rw [ne_eq, ne_eq, hb0, hk0]; omega)]
        · split
          · rw [if_pos (by rw [ne_eq, ne_eq, hk0]; omega)]
          · split
            · rw [if_pos (by rw [ne_eq, ne_eq, hb0]; omega)]
            · rfl
      simp only [rform]
      rw [this]

end Go.Proofs.Ytenfahecnkdhaaa.Tlv
end

section
/-
  What the reference's form makes of a tree.
-/
namespace Go.Proofs.Ytenfahecnkdhaaa.Tlv
open Go.RowKit
attribute [local go_sem ↓] Go.wp_at_zero Go.wp_at_succ

/-- What is behind the first three bytes, by the value's parts. -/
def rbodyC {α : Type} (f : α → Option (List Int)) (tag num : Int) (bs : List Int) (ks : List α) (deep : Nat) : Option (List Int) :=
  if tag = 1 then (if bs ≠ [] ∨ ks ≠ [] then none else some (numB (nsz num).toNat num))
  else if tag = 2 then (if num ≠ 0 ∨ ks ≠ [] then none else some bs)
  else if tag = 3 then (if num ≠ 0 ∨ bs ≠ [] ∨ deep = 0 then none else rformL f [] ks)
  else none

theorem rform_parts {n : Nat} (t : Tr (n + 1)) (d : Nat) : rform (n + 1) t d = match rbodyC (fun k => rform n k (d - 1)) t.hd.1 t.hd.2.1 t.hd.2.2 t.kd d with
    | none => none
    | some b => if 65535 < b.length then none else some (t.hd.1 :: ((b.length : Int) / 256) :: ((b.length : Int) % 256) :: b) := rfl

def FormOk (n : Nat) : Prop := ∀ (B0 : Nat) (t : Tr n) (d : Nat) (sb sk : Value) (w : World), B0 ≤ w.heap.size → RepS (fun b => b < B0) w n t sb sk → d ≤ 8 →
  Calls Try.prog 81 #[.agg #[.int .i64 t.hd.1, .int .u64 t.hd.2.1, sb, sk], .int .i64 d] w fun e w' => ((rform n t d = none ∧ e = .returned (.tuple #[.slice none 0 0, .bool false])) ∨
    (∃ (r : List Int) (a : Option Addr) (c : Nat), rform n t d = some r ∧ e = .returned (.tuple #[.slice a r.length c, .bool true]) ∧ BySl 0 w'.heap.size w' (.slice a r.length c) r)) ∧ Below w.heap.size w w'

theorem ownsRow_lit (w : World) (l : List Value) (base : Nat) (hb : base ≤ w.heap.size) (hm : l.length ≤ maxLen) : (w.alloc (.cells l.toArray 5)).ownsRow base 5 1 (.slice (some ⟨w.heap.size, 0, none⟩) l.length l.length) l.length l :=
  ⟨by omega, .inr ⟨w.heap.size, l.length, l.toArray, rfl, hb, heap_alloc_new w _, Nat.le_refl _, hm, by simp, by simp⟩⟩

theorem rform_len : ∀ {n : Nat} {t : Tr n} {d : Nat} {r : List Int}, rform n t d = some r → 0 < r.length ∧ r.length ≤ 65538
  | 0, t, _, _, _ => by cases t
  | n + 1, t, d, r, h => by
    rw [rform_parts] at h
    split at h
    · cases h
    · split at h
      · cases h
      · simp only [Option.some.injEq] at h
        subst h
        simp
        omega

set_option maxHeartbeats 2000000 in
set_option maxRecDepth 100000 in
theorem form_step (n : Nat) (ih : FormOk n) : FormOk (n + 1) := by
  intro B0 t d sb sk w hB hrep hd
  have IH := hid ih
  clear ih
  obtain ⟨hn0, hn1, hby, hks⟩ := hrep
  have HB := hid hby
  have HK := hid hks
  obtain ⟨ab, cb, rfl, hrb⟩ := hby
  obtain ⟨ak, ck, rfl, hrk⟩ := hks
  have hbl : t.hd.2.2.length ≤ 140737488355328 := by obtain ⟨_, _, _, h, _⟩ := hrb; exact h
  have HBB : Hid (∀ x ∈ t.hd.2.2, 0 ≤ x ∧ x ≤ 255) := by obtain ⟨_, _, _, _, h, _⟩ := hrb; exact h
  clear hrb hrk
  have hkl : t.kd.length ≤ 2199023255552 := by obtain ⟨_, _, _, _, _, _, h, _⟩ := HK.out; exact h
  obtain ⟨R, hR⟩ : ∃ R, rform (n + 1) t d = R := ⟨_, rfl⟩
  rw [hR]
  rw [rform_parts] at hR
  have HNone : Hid (rbodyC (fun k => rform n k (d - 1)) t.hd.1 t.hd.2.1 t.hd.2.2 t.kd d = none → R = none) := fun h => by rw [h] at hR; exact hR.symm
  have HSome : Hid (∀ b, rbodyC (fun k => rform n k (d - 1)) t.hd.1 t.hd.2.1 t.hd.2.2 t.kd d = some b → R = if 65535 < b.length then none else some (t.hd.1 :: ((b.length : Int) / 256) :: ((b.length : Int) % 256) :: b)) := fun b h => by rw [h] at hR; exact hR.symm
  clear hR
  generalize t.kd = ks at *
  generalize t.hd.2.2 = bs at *
  generalize t.hd.2.1 = num at *
  generalize t.hd.1 = tag at *
  clear t
  obtain ⟨L1, hL1⟩ : ∃ L, bs.length = L := ⟨_, rfl⟩
  obtain ⟨L2, hL2⟩ : ∃ L, ks.length = L := ⟨_, rfl⟩
  have HL1 := hid hL1
  have HL2 := hid hL2
  rw [hL1] at hbl HB ⊢
  rw [hL2] at hkl HK ⊢
  clear hL1 hL2
  obtain ⟨i0, hi, hz0, hz1, hz2⟩ := info_parts Try.info5
  go_enter Try.func81, Try.ntmps81
  go_upto_block 0 with fail
  obtain ⟨W0, hW0⟩ : ∃ W0, W0 = w.alloc (Obj.cells #[Value.int .i64 tag, Value.int .u64 num, Value.slice ab L1 cb, Value.slice ak L2 ck] 86) := ⟨_, rfl⟩
  have x0 : W0.cell? ⟨w.heap.size, 0, none⟩ = some (.int .i64 tag) := by rw [hW0]; simp [go_sem]
  have x1 : W0.cell? ⟨w.heap.size, 1, none⟩ = some (.int .u64 num) := by rw [hW0]; simp [go_sem]
  have x2 : W0.cell? ⟨w.heap.size, 2, none⟩ = some (.slice ab L1 cb) := by rw [hW0]; simp [go_sem]
  have x3 : W0.cell? ⟨w.heap.size, 3, none⟩ = some (.slice ak L2 ck) := by rw [hW0]; simp [go_sem]
  have HZ0 : Hid (W0.heap.size = w.heap.size + 1) := by rw [Hid, hW0]; simp
  have HW0 : Hid (Below w.heap.size w W0) := by rw [Hid, hW0]; exact (Below.refl _ _).alloc (Nat.le_refl _) _
  rw [← hW0]
  clear hW0
  go_cut [6, 7, 8, 9, 10, 13, 37, 52] (fun s6 _ _ _ _ _ _ _ wx => ∃ (M : Nat) (body : List Int) (a : Option Addr) (c : Nat), s6 = .slice a M c ∧ wx.cell? ⟨w.heap.size, 0, none⟩ = some (.int .i64 tag) ∧ M ≤ 140737488355328 ∧ (tag = 1 ∨ tag = 2 ∨ tag = 3) ∧
    Hid (body.length = M ∧ rbodyC (fun k => rform n k (d - 1)) tag num bs ks d = some body ∧ BySl 0 wx.heap.size wx (.slice a M c) body ∧ Below w.heap.size w wx))
  case first =>
    by_cases h1 : tag = 1
    · as_aux_lemma =>
        obtain ⟨K, hK⟩ : ∃ K, (nsz num).toNat = K := ⟨_, rfl⟩
        have HKK := hid hK
        have hK8 : K ≤ 8 := by have := nsz_bd num; omega
        have HSP := hid (nsz_spec num hn0 hn1)
        clear hK
        subst h1
        obtain ⟨N, rfl⟩ : ∃ N : Nat, num = N := ⟨num.toNat, by omega⟩
        have hN : N ≤ 18446744073709551615 := by omega
        go_wp2_with fail
        go_loopg [6, 7] K (fun g s6 s7 wr => ∃ (k q : Nat) (a : Option Addr) (c : Nat), s6 = .slice a k c ∧ s7 = .int .u64 (q : Int) ∧ q ≤ 18446744073709551615 ∧ k ≤ K ∧ K - k ≤ g ∧
          wr.cell? ⟨w.heap.size, 0, none⟩ = some (.int .i64 1) ∧ wr.cell? ⟨w.heap.size, 2, none⟩ = some (.slice ab L1 cb) ∧ wr.cell? ⟨w.heap.size, 3, none⟩ = some (.slice ak L2 ck) ∧ Hid (q = N / 256 ^ k ∧ BySl 0 wr.heap.size wr (.slice a k c) (numB k N) ∧ Below w.heap.size w wr ∧ w.heap.size + 1 ≤ wr.heap.size))
        case atStart => exact ⟨0, N, none, 0, rfl, rfl, hN, Nat.zero_le _, Nat.le_refl _, x0, x2, x3, by simp, BySl.none _ _ _, HW0.out, Nat.le_of_eq HZ0.out.symm⟩
        case round =>
          obtain ⟨k, q, a, c, rfl, rfl, hq1, hkK, hkg, f0, f2, f3, HI⟩ := hrel
          clear x0 x1 x2 x3
          by_cases hq : 0 < q
          · have hkK' : k < K := by
              apply Nat.lt_of_le_of_ne hkK
              intro e
              subst e
              have h1 := HSP.out.1
              rw [HKK.out] at h1
              have h2 := HI.out.1
              rw [Nat.div_eq_of_lt (by exact_mod_cast h1)] at h2
              omega
            have hown := hid (ownsRow_lit wr [.int .u8 ((q : Int) % 256)] wr.heap.size (Nat.le_refl _) (by unfold maxLen; simp))
            have belT : Hid (Below wr.heap.size wr (wr.alloc (Obj.cells #[Value.int IntKind.u8 ((q : Int) % 256)] 5))) := (Below.refl _ _).alloc (Nat.le_refl _) _
            have hz1' := HI.out.2.2.2
            have hnb : Hid (numB (k + 1) N = ((q : Int) % 256) :: numB k N) := by
              rw [Hid, numB, HI.out.1]
              simp
            have hq2 : Hid (q / 256 = N / 256 ^ (k + 1)) := by rw [Hid, HI.out.1, Nat.div_div_eq_div_mul, Nat.pow_succ]
            have hq3 : q / 256 ≤ 18446744073709551615 := by omega
            have hbb : Hid (∀ x ∈ numB (k + 1) N, 0 ≤ x ∧ x ≤ 255) := numB_byte _ _
            obtain ⟨gk', rfl⟩ : ∃ g', gk = g' + 1 := ⟨gk - 1, by omega⟩
            cases a with
            | none =>
              obtain ⟨hk0, hc0⟩ : k = 0 ∧ c = 0 := by
                obtain ⟨a', c', e, _, _, h4, _⟩ := HI.out.2.1
                simp only [Value.slice.injEq] at e
                obtain ⟨rfl, e2, rfl⟩ := e
                obtain ⟨h, h'⟩ := h4 rfl
                rw [h] at e2
                exact ⟨e2, h'⟩
              subst hk0 hc0
              go_wp2_with (at_builtin; go_must (refine wpList_append_own_none rfl _ _ 26 rfl wr.heap.size 5 i0 1 Try.underlying26 hi _ 1 _ rfl hown.out rfl ?_))
              go_wp2_with fail
              go_roundg gk'
              case measure => omega
              case rel =>
                have h2 := BySl.own (base := wr.heap.size) (bs := numB 1 N) (by rw [numB_length, hnb.out]; exact hown.out) (by rw [numB_length]; omega) hbb.out
                exact ⟨1, q / 256, some ⟨wr.heap.size, 0, none⟩, 1, rfl, by go_num, hq3, by omega, by omega, (World.cell?_alloc_past _ _ _ (by omega)).trans f0, (World.cell?_alloc_past _ _ _ (by omega)).trans f2, (World.cell?_alloc_past _ _ _ (by omega)).trans f3, hq2.out, by have h3 := h2.agree (Agree.refl _ _ _) (Nat.zero_le _) (Nat.le_refl _); exact h3, HI.out.2.2.1.trans (belT.out.mono (by omega)), by simp; omega⟩
            | some ad =>
              have hnl : Hid (((numB k N).map (Value.int .u8)).length = k * 1) := by rw [Hid, List.length_map, numB_length]; omega
              have hnews := hid (bytes_news HI.out.2.1 belT.out)
              have hone := hid (bytes_one (numB k N))
              go_wp2_with (at_builtin; go_must (refine wpList_append_own _ rfl _ _ 26 rfl wr.heap.size 5 i0 (.int .u8 0) 1 1 Try.underlying26 hi hz0 hz1 hz2 rfl (by decide) _ 1 _ rfl hown.out ad k c ((numB k N).map (Value.int .u8)) rfl hnl.out hnews.out hone.out (by unfold maxLen; omega) (by omega) (by simp) ?_))
              intro v2 w5 hown5 hgrow5 hnil5
              obtain ⟨a2, c2, rfl⟩ := ownsRow_form' hown5
              have HOWN5 := hid hown5
              have bel5 : Hid (Below wr.heap.size wr w5) := belT.out.grown hgrow5 (by simp) (fun r e => by simp only [Value.ownBlock, Option.some.injEq] at e; omega)
              clear hown5 hgrow5 hnil5 hnl hnews hone
              go_wp2_with fail
              go_roundg gk'
              case measure => omega
              case rel =>
                have h2 := BySl.own (base := wr.heap.size) (w := w5) (v := .slice a2 (1 + k) c2) (bs := numB (k + 1) N) (by rw [numB_length, hnb.out, Nat.add_comm k 1]; exact HOWN5.out) (by rw [numB_length]; omega) hbb.out
                have h3 := h2.agree (Agree.refl _ _ _) (Nat.zero_le _) (Nat.le_refl _)
                have h4 := bel5.out.size
                rw [Nat.add_comm 1 k] at h3
                exact ⟨k + 1, q / 256, a2, c2, by rw [Nat.add_comm 1 k], by go_num, hq3, by omega, by omega, (bel5.out.cell (p := ⟨w.heap.size, 0, none⟩) (by simp; omega)).trans f0, (bel5.out.cell (p := ⟨w.heap.size, 2, none⟩) (by simp; omega)).trans f2, (bel5.out.cell (p := ⟨w.heap.size, 3, none⟩) (by simp; omega)).trans f3, hq2.out, h3, HI.out.2.2.1.trans (bel5.out.mono (by omega)), by omega⟩
          · have hkK' : Hid (k = K) := by
              rw [Hid]
              apply Nat.le_antisymm hkK
              apply Nat.le_of_not_lt
              intro hlt
              obtain ⟨j, hj⟩ : ∃ j, K = j + 1 := ⟨K - 1, by omega⟩
              have h1 := HSP.out.2 j (by rw [HKK.out, hj])
              have h1' : 256 ^ j ≤ N := by exact_mod_cast h1
              have h2 : 256 ^ k ≤ N := Nat.le_trans (Nat.pow_le_pow_right (by omega) (by omega)) h1'
              have h3 := Nat.div_pos h2 (Nat.pow_pos (by omega))
              have h4 := HI.out.1
              omega
            have hq0 : q = 0 := by omega
            subst hq0
            have hlk := HKK.out
            by_cases hL1 : L1 = 0
            · by_cases hL2 : L2 = 0
              · subst hL1 hL2
                have HRB : Hid (rbodyC (fun k => rform n k (d - 1)) 1 (N : Int) bs ks d = some (numB K N)) := by
                  have e1 : bs = [] := List.length_eq_zero_iff.1 HL1.out
                  have e2 : ks = [] := List.length_eq_zero_iff.1 HL2.out
                  rw [Hid, rbodyC, if_pos rfl, if_neg (by simp [e1, e2]), HKK.out]
                clear hlk
                go_wp2_with fail
                go_meet
                exact ⟨k, numB K N, a, c, rfl, f0, by omega, by simp, by rw [numB_length, hkK'.out], HRB.out, by have h := HI.out.2.1; rw [hkK'.out] at h ⊢; exact h, HI.out.2.2.1⟩
              · have HR : Hid (R = none) := HNone.out (by rw [rbodyC, if_pos rfl, if_pos (.inr (fun e => by have := HL2.out; rw [e] at this; simp at this; omega))])
                have hkI : 0 < L2 := by omega
                subst hL1
                clear hlk
                go_wp2_with fail
                go_ret2
                exact ⟨.inl ⟨HR.out, rfl⟩, HI.out.2.2.1⟩
            · have HR : Hid (R = none) := HNone.out (by rw [rbodyC, if_pos rfl, if_pos (.inl (fun e => by have := HL1.out; rw [e] at this; simp at this; omega))])
              have hkI : 0 < L1 := by omega
              clear hlk
              go_wp2_with fail
              go_ret2
              exact ⟨.inl ⟨HR.out, rfl⟩, HI.out.2.2.1⟩
    · by_cases h2 : tag = 2
      · as_aux_lemma =>
          subst h2
          have hown := hid (World.ownsRow_nil W0 W0.heap.size 5 1)
          by_cases hn : num = 0
          case neg =>
            have HR : Hid (R = none) := HNone.out (by rw [rbodyC, if_neg (by omega), if_pos rfl, if_pos (.inl hn)])
            cases ab with
            | none =>
              obtain ⟨hl0, hb0, hc0⟩ : L1 = 0 ∧ bs = [] ∧ cb = 0 := by
                obtain ⟨a', c', e, _, _, h4, _⟩ := HB.out
                simp only [Value.slice.injEq] at e
                obtain ⟨rfl, e2, rfl⟩ := e
                obtain ⟨h, h'⟩ := h4 rfl
                subst h
                exact ⟨e2, rfl, h'⟩
              subst hl0 hb0 hc0
              go_wp2_with (at_builtin; go_must (refine wpList_append_own_none rfl _ _ 26 rfl W0.heap.size 5 i0 1 Try.underlying26 hi _ 0 _ rfl hown.out rfl ?_))
              go_wp2_with fail
              go_ret2
              exact ⟨.inl ⟨HR.out, rfl⟩, HW0.out⟩
            | some ad =>
              have hnl : Hid ((bs.map (Value.int .u8)).length = L1 * 1) := by rw [Hid, List.length_map, HL1.out]; omega
              have hnews := hid (bytes_news (HB.out.to (B := w.heap.size) (fun b h => by omega)) HW0.out)
              have hone := hid (bytes_one bs)
              go_wp2_with (at_builtin; go_must (refine wpList_append_own _ rfl _ _ 26 rfl W0.heap.size 5 i0 (.int .u8 0) 1 1 Try.underlying26 hi hz0 hz1 hz2 rfl (by decide) _ 0 _ rfl hown.out ad L1 cb (bs.map (Value.int .u8)) rfl hnl.out hnews.out hone.out (by unfold maxLen; omega) (by omega) (Nat.le_refl _) ?_))
              intro v2 w5 hown5 hgrow5 hnil5
              obtain ⟨a2, c2, rfl⟩ := ownsRow_form' hown5
              have HOWN5 := hid hown5
              have bel5 : Hid (Below w.heap.size w w5) := HW0.out.grown hgrow5 HW0.out.size (fun r e => by simp [Value.ownBlock] at e)
              have v0 := hgrow5.cell x0 (by simp [Value.ownBlock])
              have v1 := hgrow5.cell x1 (by simp [Value.ownBlock])
              have v3 := hgrow5.cell x3 (by simp [Value.ownBlock])
              clear hown5 hgrow5 hnil5 hnl hnews hone x0 x1 x2 x3
              go_wp2_with fail
              go_ret2
              exact ⟨.inl ⟨HR.out, rfl⟩, bel5.out⟩
          subst hn
          by_cases hk : L2 = 0
          case neg =>
            have hkn : Hid (ks ≠ []) := fun e => by have := HL2.out; rw [e] at this; simp at this; omega
            have hkI : 0 < L2 := by omega
            have HR : Hid (R = none) := HNone.out (by rw [rbodyC, if_neg (by omega), if_pos rfl, if_pos (.inr hkn.out)])
            cases ab with
            | none =>
              obtain ⟨hl0, hb0, hc0⟩ : L1 = 0 ∧ bs = [] ∧ cb = 0 := by
                obtain ⟨a', c', e, _, _, h4, _⟩ := HB.out
                simp only [Value.slice.injEq] at e
                obtain ⟨rfl, e2, rfl⟩ := e
                obtain ⟨h, h'⟩ := h4 rfl
                subst h
                exact ⟨e2, rfl, h'⟩
              subst hl0 hb0 hc0
              go_wp2_with (at_builtin; go_must (refine wpList_append_own_none rfl _ _ 26 rfl W0.heap.size 5 i0 1 Try.underlying26 hi _ 0 _ rfl hown.out rfl ?_))
              go_wp2_with fail
              go_ret2
              exact ⟨.inl ⟨HR.out, rfl⟩, HW0.out⟩
            | some ad =>
              have hnl : Hid ((bs.map (Value.int .u8)).length = L1 * 1) := by rw [Hid, List.length_map, HL1.out]; omega
              have hnews := hid (bytes_news (HB.out.to (B := w.heap.size) (fun b h => by omega)) HW0.out)
              have hone := hid (bytes_one bs)
              go_wp2_with (at_builtin; go_must (refine wpList_append_own _ rfl _ _ 26 rfl W0.heap.size 5 i0 (.int .u8 0) 1 1 Try.underlying26 hi hz0 hz1 hz2 rfl (by decide) _ 0 _ rfl hown.out ad L1 cb (bs.map (Value.int .u8)) rfl hnl.out hnews.out hone.out (by unfold maxLen; omega) (by omega) (Nat.le_refl _) ?_))
              intro v2 w5 hown5 hgrow5 hnil5
              obtain ⟨a2, c2, rfl⟩ := ownsRow_form' hown5
              have HOWN5 := hid hown5
              have bel5 : Hid (Below w.heap.size w w5) := HW0.out.grown hgrow5 HW0.out.size (fun r e => by simp [Value.ownBlock] at e)
              have v0 := hgrow5.cell x0 (by simp [Value.ownBlock])
              have v1 := hgrow5.cell x1 (by simp [Value.ownBlock])
              have v3 := hgrow5.cell x3 (by simp [Value.ownBlock])
              clear hown5 hgrow5 hnil5 hnl hnews hone x0 x1 x2 x3
              go_wp2_with fail
              go_ret2
              exact ⟨.inl ⟨HR.out, rfl⟩, bel5.out⟩
          subst hk
          have hkn : ks = [] := List.length_eq_zero_iff.1 HL2.out
          have HRB : Hid (rbodyC (fun k => rform n k (d - 1)) 2 0 bs ks d = some bs) := by rw [Hid, rbodyC, if_neg (by omega), if_pos rfl, if_neg (by simp [hkn])]
          clear hkn
          cases ab with
          | none =>
            obtain ⟨hl0, hb0, hc0⟩ : L1 = 0 ∧ bs = [] ∧ cb = 0 := by
              obtain ⟨a', c', e, _, _, h4, _⟩ := HB.out
              simp only [Value.slice.injEq] at e
              obtain ⟨rfl, e2, rfl⟩ := e
              obtain ⟨h, h'⟩ := h4 rfl
              subst h
              exact ⟨e2, rfl, h'⟩
            subst hl0 hb0 hc0
            go_wp2_with (at_builtin; go_must (refine wpList_append_own_none rfl _ _ 26 rfl W0.heap.size 5 i0 1 Try.underlying26 hi _ 0 _ rfl hown.out rfl ?_))
            go_wp2_with fail
            go_meet
            exact ⟨0, [], none, 0, rfl, x0, Nat.zero_le _, by simp, rfl, HRB.out, BySl.none _ _ _, HW0.out⟩
          | some ad =>
            have hnl : Hid ((bs.map (Value.int .u8)).length = L1 * 1) := by rw [Hid, List.length_map, HL1.out]; omega
            have hnews := hid (bytes_news (HB.out.to (B := w.heap.size) (fun b h => by omega)) HW0.out)
            have hone := hid (bytes_one bs)
            go_wp2_with (at_builtin; go_must (refine wpList_append_own _ rfl _ _ 26 rfl W0.heap.size 5 i0 (.int .u8 0) 1 1 Try.underlying26 hi hz0 hz1 hz2 rfl (by decide) _ 0 _ rfl hown.out ad L1 cb (bs.map (Value.int .u8)) rfl hnl.out hnews.out hone.out (by unfold maxLen; omega) (by omega) (Nat.le_refl _) ?_))
            intro v2 w5 hown5 hgrow5 hnil5
            obtain ⟨a2, c2, rfl⟩ := ownsRow_form' hown5
            have HOWN5 := hid hown5
            have bel5 : Hid (Below w.heap.size w w5) := HW0.out.grown hgrow5 HW0.out.size (fun r e => by simp [Value.ownBlock] at e)
            have v0 := hgrow5.cell x0 (by simp [Value.ownBlock])
            have v1 := hgrow5.cell x1 (by simp [Value.ownBlock])
            have v3 := hgrow5.cell x3 (by simp [Value.ownBlock])
            clear hown5 hgrow5 hnil5 hnl hnews hone x0 x1 x2 x3
            go_wp2_with fail
            go_meet
            exact ⟨L1, bs, a2, c2, rfl, v0, hbl, by simp, HL1.out, HRB.out, (BySl.own (by rw [HL1.out]; exact HOWN5.out) (by rw [HL1.out]; exact hbl) HBB.out).agree (Agree.refl _ _ _) (Nat.zero_le _) (Nat.le_refl _), bel5.out⟩
      · by_cases h3 : tag = 3
        · as_aux_lemma =>
            subst h3
            by_cases hn : num = 0
            case neg =>
              have HR : Hid (R = none) := HNone.out (by rw [rbodyC, if_neg (by omega), if_neg (by omega), if_pos rfl, if_pos (.inl hn)])
              go_wp2_with fail
              go_ret2
              exact ⟨.inl ⟨HR.out, rfl⟩, HW0.out⟩
            subst hn
            by_cases hL1 : L1 = 0
            case neg =>
              have HR : Hid (R = none) := HNone.out (by rw [rbodyC, if_neg (by omega), if_neg (by omega), if_pos rfl, if_pos (.inr (.inl (fun e => by have := HL1.out; rw [e] at this; simp at this; omega)))])
              have hkI : 0 < L1 := by omega
              go_wp2_with fail
              go_ret2
              exact ⟨.inl ⟨HR.out, rfl⟩, HW0.out⟩
            subst hL1
            by_cases hd0 : d = 0
            case pos =>
              have HR : Hid (R = none) := HNone.out (by rw [rbodyC, if_neg (by omega), if_neg (by omega), if_pos rfl, if_pos (.inr (.inr hd0))])
              have hdb : ((d : Int) == 0) = true := by simp; omega
              go_wp2_with fail
              go_ret2
              exact ⟨.inl ⟨HR.out, rfl⟩, HW0.out⟩
            have hdb : ((d : Int) == 0) = false := by simp; omega
            obtain ⟨d', HD⟩ : ∃ d', Hid (d = d' + 1) := ⟨d - 1, by rw [Hid]; omega⟩
            have hdw : IntKind.i64.wrap ((d : Int) - 1) = d' := by have := HD.out; rw [IntKind.wrap_i64]; omega
            have hd8 : d' ≤ 8 := by have := HD.out; omega
            obtain ⟨RB, hRB⟩ : ∃ RB, rbodyC (fun k => rform n k (d - 1)) 3 0 bs ks d = RB := ⟨_, rfl⟩
            have HRL : Hid (rformL (fun k => rform n k d') [] ks = RB) := by
              have e : bs = [] := List.length_eq_zero_iff.1 HL1.out
              rw [Hid, ← hRB, rbodyC, if_neg (by omega), if_neg (by omega), if_pos rfl, if_neg (by simp [e, hd0]), HD.out, Nat.add_sub_cancel]
            have HRB := hid hRB
            rw [hRB] at HNone
            have hown0 := hid (World.ownsRow_nil W0 (w.heap.size + 1) 5 1)
            clear hRB hd0 HSome
            go_wp2_with fail
            go_loopw [6, 8] (fun s6 s8 wr => ∃ (i M : Nat) (a : Option Addr) (c : Nat) (acc : List Int), s6 = .slice a M c ∧ s8 = .int .i64 i ∧ i ≤ L2 ∧ M ≤ 140000 ∧ wr.cell? ⟨w.heap.size, 0, none⟩ = some (.int .i64 3) ∧ wr.cell? ⟨w.heap.size, 3, none⟩ = some (.slice ak L2 ck) ∧
              Hid (acc.length = M ∧ rformL (fun k => rform n k d') acc (ks.drop i) = RB ∧ wr.ownsRow (w.heap.size + 1) 5 1 (.slice a M c) M (acc.map (Value.int .u8)) ∧ (∀ x ∈ acc, 0 ≤ x ∧ x ≤ 255) ∧ Below w.heap.size w wr ∧ w.heap.size + 1 ≤ wr.heap.size)) (fun _ s8 _ => L2 - (intOf s8).toNat)
            case atStart => exact ⟨0, 0, none, 0, [], rfl, rfl, Nat.zero_le _, Nat.zero_le _, x0, x3, rfl, HRL.out, hown0.out, by simp, HW0.out, Nat.le_of_eq HZ0.out.symm⟩
            case round =>
              obtain ⟨i, M, a, c, acc, rfl, rfl, hiL, hM, f0, f3, HI⟩ := hrel
              clear x0 x1 x2 x3
              have hws := HI.out.2.2.2.2.2
              have hbelw := hid HI.out.2.2.2.2.1
              by_cases hlt : i < L2
              · have hlt' : i < ks.length := by rw [HL2.out]; exact hlt
                obtain ⟨_, _, ea, _, _, _, _, h7⟩ := HK.out
                simp only [Value.slice.injEq] at ea
                obtain ⟨rfl, hx, rfl⟩ := ea
                clear hx
                obtain ⟨b, o, rfl, hSb, hc⟩ := h7 (by intro e; subst e; simp at hlt')
                obtain ⟨sb, sk, c0, c1, c2, c3, hrep⟩ := hc i ks[i] (List.getElem?_eq_getElem hlt')
                clear hc h7
                obtain ⟨a1, l1, q1, a2, l2, q2, rfl, rfl⟩ := hrep.sl
                have hbw : b < w.heap.size := by omega
                have hR := hid (hrep.agree (AgreeS.below hbelw.out (fun b hb => by omega)) (fun _ h => h))
                clear hrep
                have d0 := (hbelw.out.cell (p := ⟨b, o + i * 4, none⟩) hbw).trans c0
                have d1 := (hbelw.out.cell (p := ⟨b, o + i * 4 + 1, none⟩) hbw).trans c1
                have d2 := (hbelw.out.cell (p := ⟨b, o + i * 4 + 2, none⟩) hbw).trans c2
                have d3 := (hbelw.out.cell (p := ⟨b, o + i * 4 + 3, none⟩) hbw).trans c3
                clear c0 c1 c2 c3
                have hdrop : Hid (ks.drop i = ks[i] :: ks.drop (i + 1)) := List.drop_eq_getElem_cons hlt'
                generalize ks[i] = t1 at *
                have hiI0 : (0 : Int) ≤ (i : Int) := by omega
                have hiI1 : (i : Int) < (L2 : Int) := by omega
                go_wp2_with fail
                refine (IH.out B0 t1 d' _ _ wr (by omega) hR.out hd8).mono ?_
                rintro e w2 ⟨hres, hb2⟩
                have HB2 := hid hb2
                have hs2 := hb2.size
                have F0 := (hb2.cell (p := ⟨w.heap.size, 0, none⟩) (by show w.heap.size < wr.heap.size; omega)).trans f0
                have F3 := (hb2.cell (p := ⟨w.heap.size, 3, none⟩) (by show w.heap.size < wr.heap.size; omega)).trans f3
                clear hb2 d0 d1 d2 d3 f0 f3
                have belw2 : Hid (Below w.heap.size w w2) := hbelw.out.trans (HB2.out.mono (by omega))
                rcases hres with ⟨hn, rfl⟩ | ⟨r, ar, cr, hs, rfl, hr⟩
                · have HR : Hid (R = none) := HNone.out (by rw [← HI.out.2.1, hdrop.out, rformL, hn])
                  clear hn
                  go_wp2_with fail
                  go_ret2
                  exact ⟨.inl ⟨HR.out, rfl⟩, belw2.out⟩
                obtain ⟨hr0, hr1⟩ := rform_len hs
                obtain ⟨Q, hQ⟩ : ∃ Q, r.length = Q := ⟨_, rfl⟩
                have HQ := hid hQ
                have HSS := hid hs
                have HRR := hid hr
                rw [hQ] at hr0 hr1 HRR ⊢
                clear hQ hs hr
                by_cases h65 : 65535 < M
                · have HR : Hid (R = none) := HNone.out (by rw [← HI.out.2.1, hdrop.out, rformL, HSS.out]; simp only; rw [if_pos (by rw [HI.out.1]; exact h65)])
                  have hq : decide ((65535 : Int) < M) = true := by simp; omega
                  go_wp2_with fail
                  go_ret2
                  exact ⟨.inl ⟨HR.out, rfl⟩, belw2.out⟩
                have hq : decide ((65535 : Int) < M) = false := by simp; omega
                obtain ⟨ad, rfl⟩ : ∃ ad, ar = some ad := by
                  cases ar with
                  | some ad => exact ⟨ad, rfl⟩
                  | none =>
                    obtain ⟨a', c', e, _, _, h4, _⟩ := HRR.out
                    simp only [Value.slice.injEq] at e
                    obtain ⟨e1, _, _⟩ := e
                    obtain ⟨h, _⟩ := h4 e1.symm
                    have := HQ.out
                    rw [h] at this
                    simp at this
                    omega
                have hown := hid (ownsRow_agree HI.out.2.2.1 (Agree.below HB2.out))
                have ltA := hid hown.out.lt
                have hnl : Hid ((r.map (Value.int .u8)).length = Q * 1) := by rw [Hid, List.length_map, HQ.out]; omega
                have hnews := hid (bytes_news HRR.out (Below.refl _ _))
                have hone := hid (bytes_one r)
                go_wp2_with (at_builtin; go_must (refine wpList_append_own _ rfl _ _ 26 rfl (w.heap.size + 1) 5 i0 (.int .u8 0) 1 1 Try.underlying26 hi hz0 hz1 hz2 rfl (by decide) _ M _ rfl hown.out ad Q cr (r.map (Value.int .u8)) rfl hnl.out hnews.out hone.out (by unfold maxLen; omega) (by omega) (by omega) ?_))
                intro v2 w5 hown5 hgrow5 hnil5
                obtain ⟨a5, c5, rfl⟩ := ownsRow_form' hown5
                have HOWN5 := hid hown5
                have hs5 := hgrow5.size
                have bel5 : Hid (Below (w.heap.size + 1) w2 w5) := (Below.refl _ _).grown hgrow5 (by omega) (fun r e => (ltA.out r e).1)
                have G0 := (bel5.out.cell (p := ⟨w.heap.size, 0, none⟩) (by simp)).trans F0
                have G3 := (bel5.out.cell (p := ⟨w.heap.size, 3, none⟩) (by simp)).trans F3
                clear hown5 hgrow5 hnil5 hnl hnews hone F0 F3 hown
                go_wp2_with fail
                go_roundw
                case rel =>
                  refine ⟨i + 1, M + Q, a5, c5, acc ++ r, rfl, by go_num, by omega, by omega, G0, G3, by rw [List.length_append, HI.out.1, HQ.out], ?_, by rw [List.map_append]; exact HOWN5.out, ?_, belw2.out.trans (bel5.out.mono (by omega)), by omega⟩
                  · have h := HI.out.2.1
                    rw [hdrop.out, rformL, HSS.out] at h
                    simp only at h
                    rw [if_neg (by rw [HI.out.1]; omega)] at h
                    exact h
                  · intro x hx
                    rcases List.mem_append.1 hx with hx | hx
                    · exact HI.out.2.2.2.1 x hx
                    · exact HRR.out.bytes x hx
                case measure => simp [intOf]; omega
              · have hi2 : i = L2 := by omega
                have HRBs : Hid (rbodyC (fun k => rform n k (d - 1)) 3 0 bs ks d = some acc) := by
                  have h := HI.out.2.1
                  rw [List.drop_of_length_le (by rw [HL2.out]; omega), rformL] at h
                  rw [Hid, HRB.out, ← h]
                have hiI1 : ¬ (i : Int) < (L2 : Int) := by omega
                have HBY : Hid (BySl 0 wr.heap.size wr (.slice a M c) acc) := by
                  have h2 := BySl.own (base := w.heap.size + 1) (w := wr) (v := .slice a M c) (bs := acc) (by rw [HI.out.1]; exact HI.out.2.2.1) (by rw [HI.out.1]; omega) HI.out.2.2.2.1
                  exact h2.agree (Agree.refl _ _ _) (Nat.zero_le _) (Nat.le_refl _)
                clear hi2
                go_wp2_with fail
                go_meet
                exact ⟨M, acc, a, c, rfl, f0, by omega, by simp, HI.out.1, HRBs.out, HBY.out, hbelw.out⟩
        · have HR : Hid (R = none) := HNone.out (by rw [rbodyC, if_neg h1, if_neg h2, if_neg h3])
          go_wp2_with fail
          go_ret2
          exact ⟨.inl ⟨HR.out, rfl⟩, HW0.out⟩
  case rest =>
    obtain ⟨M, body, a, c, rfl, y0, hM, htag, HC⟩ := hcut
    as_aux_lemma =>
      by_cases hlt : 65535 < M
      · have hq : decide ((65535 : Int) < M) = true := by simp; omega
        have HR : Hid (R = none) := by rw [Hid, HSome.out _ HC.out.2.1, HC.out.1, if_pos hlt]
        go_wp2_with fail
        go_ret2
        exact ⟨.inl ⟨HR.out, rfl⟩, HC.out.2.2.2⟩
      · have hq : decide ((65535 : Int) < M) = false := by simp; omega
        have HR : Hid (R = some (tag :: ((M : Int) / 256) :: ((M : Int) % 256) :: body)) := by rw [Hid, HSome.out _ HC.out.2.1, HC.out.1, if_neg hlt]
        have hlen : Hid ((tag :: ((M : Int) / 256) :: ((M : Int) % 256) :: body).length = 3 + M) := by rw [Hid]; simp only [List.length_cons, HC.out.1]; omega
        have hown := hid (ownsRow_lit wc [.int .u8 tag, .int .u8 ((M : Int) / 256), .int .u8 ((M : Int) % 256)] wc.heap.size (Nat.le_refl _) (by unfold maxLen; simp))
        have hbytes : Hid (∀ x ∈ (tag :: ((M : Int) / 256) :: ((M : Int) % 256) :: body), 0 ≤ x ∧ x ≤ 255) := by
          intro x hx
          simp only [List.mem_cons] at hx
          rcases hx with rfl | rfl | rfl | hx
          · omega
          · omega
          · omega
          · exact HC.out.2.2.1.bytes x hx
        have belT : Hid (Below wc.heap.size wc (wc.alloc (Obj.cells #[Value.int IntKind.u8 tag, Value.int IntKind.u8 ((M : Int) / 256), Value.int IntKind.u8 ((M : Int) % 256)] 5))) := (Below.refl _ _).alloc (Nat.le_refl _) _
        have HBC := hid HC.out.2.2.2
        cases a with
        | none =>
          obtain ⟨hM0, hb0, hc0⟩ : M = 0 ∧ body = [] ∧ c = 0 := by
            obtain ⟨a', c', e, _, _, h4, _⟩ := HC.out.2.2.1
            simp only [Value.slice.injEq] at e
            obtain ⟨rfl, e2, rfl⟩ := e
            obtain ⟨h, h'⟩ := h4 rfl
            subst h
            exact ⟨e2, rfl, h'⟩
          subst hM0 hb0 hc0
          go_wp2_with (at_builtin; go_must (refine wpList_append_own_none rfl _ _ 26 rfl wc.heap.size 5 i0 1 Try.underlying26 hi _ 3 _ rfl hown.out rfl ?_))
          go_wp2_with fail
          go_ret2
          refine ⟨.inr ⟨_, some ⟨wc.heap.size, 0, none⟩, 3, HR.out, rfl, ?_⟩, HBC.out.trans (belT.out.mono HBC.out.size)⟩
          have h2 := BySl.own (base := wc.heap.size) (bs := tag :: (((0 : Nat) : Int) / 256) :: (((0 : Nat) : Int) % 256) :: []) hown.out (by simp) hbytes.out
          exact h2.agree (Agree.refl _ _ _) (Nat.zero_le _) (Nat.le_refl _)
        | some ad =>
          have hnl : Hid ((body.map (Value.int .u8)).length = M * 1) := by rw [Hid, List.length_map, HC.out.1]; omega
          have hnews := hid (bytes_news HC.out.2.2.1 belT.out)
          have hone := hid (bytes_one body)
          go_wp2_with (at_builtin; go_must (refine wpList_append_own _ rfl _ _ 26 rfl wc.heap.size 5 i0 (.int .u8 0) 1 1 Try.underlying26 hi hz0 hz1 hz2 rfl (by decide) _ 3 _ rfl hown.out ad M c (body.map (Value.int .u8)) rfl hnl.out hnews.out hone.out (by unfold maxLen; omega) (by omega) (by simp) ?_))
          intro v2 w5 hown5 hgrow5 hnil5
          obtain ⟨a2, c2, rfl⟩ := ownsRow_form' hown5
          have HOWN5 := hid hown5
          have bel5 : Hid (Below wc.heap.size wc w5) := belT.out.grown hgrow5 (by simp) (fun r e => by simp only [Value.ownBlock, Option.some.injEq] at e; omega)
          clear hown5 hgrow5 hnil5 hnl hnews hone
          go_wp2_with fail
          go_ret2
          refine ⟨.inr ⟨_, a2, c2, HR.out, by rw [hlen.out]; rfl, ?_⟩, HBC.out.trans (bel5.out.mono HBC.out.size)⟩
          rw [hlen.out]
          have h2 := BySl.own (base := wc.heap.size) (w := w5) (v := .slice a2 (3 + M) c2) (bs := tag :: ((M : Int) / 256) :: ((M : Int) % 256) :: body) (by rw [hlen.out]; exact HOWN5.out) (by rw [hlen.out]; omega) hbytes.out
          exact h2.agree (Agree.refl _ _ _) (Nat.zero_le _) (Nat.le_refl _)

theorem form_any : ∀ n, FormOk n
  | 0 => fun _ t => by cases t
  | n + 1 => form_step n (form_any n)

end Go.Proofs.Ytenfahecnkdhaaa.Tlv
end

section
/-
  What the document makes of values: objects; chunks; are an object and its fault the same?
-/
namespace Go.Proofs.Ytenfahecnkdhaaa.Nd
open Go.RowKit
open Tlv (Tr Agree RepS)
open Sim (hid Kp No)
set_option linter.unusedSimpArgs false

/-- An object that has been put, or none. -/
def Put1 (OK : Prop) (K : Int) (F : List Int) (w : World) (e : Ending) : Prop :=
  ∃ k a n c f bs, e = .returned (.tuple #[.agg #[.int .i64 k, .slice a n c], .int .i64 f]) ∧ Tlv.BySl 0 w.heap.size w (.slice a n c) bs ∧ ((OK ∧ k = K ∧ f = 0 ∧ bs = F) ∨ (¬ OK ∧ k = 0 ∧ f = 1 ∧ bs = []))
theorem put1_no {OK : Prop} {K : Int} {F : List Int} {w : World} (h : ¬ OK) : Put1 OK K F w (.returned (.tuple #[.agg #[.int .i64 0, .slice none 0 0], .int .i64 1])) :=
  ⟨0, none, 0, 0, 1, [], rfl, Tlv.BySl.none _ _ _, .inr ⟨h, rfl, rfl, rfl⟩⟩
theorem put1_yes {OK : Prop} {K : Int} {F : List Int} {w : World} {a : Option Addr} {n c : Nat} (h : OK) (_ : F.length = n) (hy : Tlv.BySl 0 w.heap.size w (.slice a n c) F) : Put1 OK K F w (.returned (.tuple #[.agg #[.int .i64 K, .slice a n c], .int .i64 0])) :=
  ⟨K, a, n, c, 0, F, rfl, hy, .inl ⟨h, rfl, rfl, rfl⟩⟩
theorem oans_put {u w : World} {K : Int} {t : Tr 3} {e : Ending} {R : Prop} (hR : R) (h : OAns u w K t e) : Put1 (R ∧ objP t) K (Tlv.formOf 3 t) w e := by
  rcases h with ⟨ho, a, c, rfl, hy⟩ | ⟨ho, rfl⟩
  · exact put1_yes ⟨hR, ho⟩ rfl (hy.agree (Agree.refl _ _ _) (Nat.zero_le _) (Nat.le_refl _))
  · exact put1_no (fun h => ho h.2)
theorem fans_put {u w : World} {s : Int} {d : List (List Int)} {e : Ending} (h : FiAns u w s d e) : Put1 (fileB s d.length = true ∧ objP (fileT s d)) 2 (Tlv.formOf 3 (fileT s d)) w e := by
  rcases h with ⟨hf, h⟩ | ⟨hf, rfl⟩
  · exact oans_put hf h
  · exact put1_no (fun h => by rw [hf] at h; cases h.1)
theorem dans_put {u w : World} {d : List Ent} {e : Ending} (h : DAns u w d e) : Put1 (RightP d ∧ objP (entsT d)) 3 (Tlv.formOf 3 (entsT d)) w e := by
  rcases h with ⟨hf, h⟩ | ⟨hf, rfl⟩
  · exact oans_put hf h
  · exact put1_no (fun h => hf h.1)
theorem cans_put {u w : World} {b : List Int} {e : Ending} (h : CAns u w b e) : Put1 (1 ≤ b.length ∧ b.length ≤ 4096) 1 b w e := by
  rcases h with ⟨hf, a, c, rfl, hy⟩ | ⟨hf, rfl⟩
  · exact put1_yes hf rfl (hy.agree (Agree.refl _ _ _) (Nat.zero_le _) (Nat.le_refl _))
  · exact put1_no hf

theorem bySl_ne {w w' : World} {v : Value} {F : List Int} {b : Nat} (h : Tlv.BySl 0 w.heap.size w v F) (hb : ∀ o x, w.cell? ⟨b, o, none⟩ ≠ some (.int .u8 x)) (k : Kp (· = b) w w') : Tlv.BySl 0 w'.heap.size w' v F := by
  obtain ⟨a, c, e, h2, h3, h4, h5, h6, h7⟩ := h
  refine ⟨a, c, e, h2, h3, h4, h5, h6, fun hne => ?_⟩
  obtain ⟨g, o, e1, _, hg, hc⟩ := h7 hne
  refine ⟨g, o, e1, Nat.zero_le _, Nat.lt_of_lt_of_le hg k.size, fun i hi => ?_⟩
  have hgb : ¬ g = b := fun e => by
    subst e
    exact hb _ _ (hc i hi)
  rw [k.cell (p := ⟨g, o + i, none⟩) hg hgb]
  exact hc i hi

set_option maxHeartbeats 2000000 in
theorem rPut_any {n : Nat} (t : Tr n) (sb sk : Value) (w : World) (h : RepS (fun b => b < w.heap.size) w n t sb sk) (hz : Tlv.szT n t ≠ 0) :
    Calls Try.prog 68 #[.agg #[.int .i64 t.hd.1, .int .u64 t.hd.2.1, sb, sk]] w fun e w' => ∃ a c, e = .returned (.tuple #[.slice a (Tlv.formOf n t).length c, .int .i64 0]) ∧ Tlv.BySl 0 w'.heap.size w' (.slice a (Tlv.formOf n t).length c) (Tlv.formOf n t) ∧ Below w.heap.size w w' := by
  obtain ⟨a1, l1, p1, a2, l2, p2, rfl, rfl⟩ := h.sl
  have HRF : Hid (Tlv.rform n t 8 = some (Tlv.formOf n t)) := by
    have h1 := Tlv.szT_right hz
    rw [Hid, Tlv.rform_eq]
    exact if_pos h1
  have HB0 : Hid (Below w.heap.size w (w.alloc (.cells #[.int .i64 t.hd.1, .int .u64 t.hd.2.1, .slice a1 l1 p1, .slice a2 l2 p2] 86))) := (Below.refl _ _).alloc (Nat.le_refl _) _
  have HF := hid (Tlv.form_any n w.heap.size t 8 _ _ (w.alloc (.cells #[.int .i64 t.hd.1, .int .u64 t.hd.2.1, .slice a1 l1 p1, .slice a2 l2 p2] 86)) (by simp) (h.agree (fun b hb => Below.heap_alloc _ _ _ hb) (fun _ h => h)) (by omega))
  generalize t.hd.1 = tg at *
  generalize t.hd.2.1 = nm at *
  clear h hz
  go_enter Try.func68, Try.ntmps68
  go_wp2_with fail
  refine HF.out.mono ?_
  rintro e w1 ⟨hres, hb1⟩
  have HB1 := hid (HB0.out.trans (hb1.mono HB0.out.size))
  clear hb1
  rcases hres with ⟨hn, _⟩ | ⟨r, a, c, hr, rfl, hy⟩
  · rw [HRF.out] at hn
    cases hn
  · rw [HRF.out] at hr
    cases hr
    have HY := hid hy
    clear hy HF
    obtain ⟨m, hm⟩ : ∃ m, (Tlv.formOf n t).length = m := ⟨_, rfl⟩
    have HM := hid hm
    rw [hm] at HY ⊢
    clear hm
    go_wp2_with fail
    go_ret2
    exact ⟨a, c, by rw [HM.out]; rfl, by rw [HM.out]; exact HY.out, HB1.out⟩

set_option maxHeartbeats 1000000 in
theorem right12_any (w : World) (K : Int) (hK : 1 ≤ K ∧ K ≤ 9) (x : Option Addr) (n c : Nat) :
    Calls Try.prog 69 #[.agg #[.int .i64 K, .slice x n c]] w fun e w' => e = .returned (.bool (decide ((n : Int) ≤ 5000))) ∧ Kp No w w' := by
  have h1 : decide (1 ≤ K) = true := by simpa using hK.1
  have h2 : decide (K ≤ 9) = true := by simpa using hK.2
  obtain ⟨h3, h4⟩ := hK
  have HK : Hid (Kp No w (w.alloc (.cells #[.int .i64 K, .slice x n c] 29))) := (Kp.refl No w).alloc _
  go_enter Try.func69, Try.ntmps69
  go_wp2
  go_ret
  exact ⟨by simp, HK.out⟩

set_option maxHeartbeats 4000000 in
set_option maxRecDepth 100000 in
theorem rObject_any (w : World) (K : Int) (hK : 1 ≤ K ∧ K ≤ 9) (t : Tr 3) (sb sk : Value) (h : RepS (fun b => b < w.heap.size) w 3 t sb sk) (hz : Tlv.szT 3 t ≠ 0) :
    Calls Try.prog 43 #[.int .i64 K, .agg #[.int .i64 t.hd.1, .int .u64 t.hd.2.1, sb, sk]] w fun e w' => Put1 (objP t) K (Tlv.formOf 3 t) w' e ∧ Below w.heap.size w w' := by
  obtain ⟨a1, l1, p1, a2, l2, p2, rfl, rfl⟩ := h.sl
  obtain ⟨W0, hW0⟩ : ∃ W, (w.alloc (.cells #[.int .i64 t.hd.1, .int .u64 t.hd.2.1, .slice a1 l1 p1, .slice a2 l2 p2] 86)).alloc (.cells #[.int .i64 0, .slice none 0 0] 29) = W := ⟨_, rfl⟩
  have HB0 : Hid (Below w.heap.size w W0) := by rw [Hid, ← hW0]; exact ((Below.refl _ _).alloc (Nat.le_refl _) _).alloc (by simp) _
  have HP := hid (rPut_any t _ _ W0 (h.agree (fun b hb => HB0.out.block b hb) (fun _ hb => Nat.lt_of_lt_of_le hb HB0.out.size)) hz)
  have HZ : Hid (W0.heap.size = w.heap.size + 2) := by rw [Hid, ← hW0]; simp
  have HX : Hid (∀ V, Below W0.heap.size W0 V → V.cell? ⟨w.heap.size + 1, 0, none⟩ = some (.int .i64 0) ∧ V.cell? ⟨w.heap.size + 1, 1, none⟩ = some (.slice none 0 0) ∧ (∀ o, V.frozen? ⟨w.heap.size + 1, o, none⟩ = false) ∧ w.heap.size + 1 < V.heap.size ∧ ∀ o x, V.cell? ⟨w.heap.size + 1, o, none⟩ ≠ some (.int .u8 x)) := fun V hV => by
    have hs := hV.size
    have hz := HZ.out
    refine ⟨?_, ?_, fun o => ?_, by omega, fun o x => ?_⟩
    · rw [hV.cell (p := ⟨w.heap.size + 1, 0, none⟩) (by show w.heap.size + 1 < _; omega), ← hW0]; simp [go_sem]
    · rw [hV.cell (p := ⟨w.heap.size + 1, 1, none⟩) (by show w.heap.size + 1 < _; omega), ← hW0]; simp [go_sem]
    · rw [hV.frozen (p := ⟨w.heap.size + 1, o, none⟩) (by show w.heap.size + 1 < _; omega), ← hW0]; simp [go_sem]
    · rw [hV.cell (p := ⟨w.heap.size + 1, o, none⟩) (by show w.heap.size + 1 < _; omega), ← hW0, World.cell?_alloc_at _ _ _ _ (by simp)]
      match o with
      | 0 => simp
      | 1 => simp
      | o + 2 => simp
  have hx : W0.cell? ⟨w.heap.size, 0, none⟩ = some (.int .i64 t.hd.1) ∧ W0.cell? ⟨w.heap.size, 1, none⟩ = some (.int .u64 t.hd.2.1) ∧ W0.cell? ⟨w.heap.size, 2, none⟩ = some (.slice a1 l1 p1) ∧ W0.cell? ⟨w.heap.size, 3, none⟩ = some (.slice a2 l2 p2) := by rw [← hW0]; simp [go_sem]
  generalize t.hd.1 = tg at *
  generalize t.hd.2.1 = nm at *
  clear h
  obtain ⟨x0, x1, x2, x3⟩ := hx
  go_enter Try.func43, Try.ntmps43
  go_wp2_with fail
  refine HP.out.mono ?_
  rintro e w1 ⟨a, c, rfl, hy, hb1⟩
  clear x0 x1 x2 x3 hW0 HP
  obtain ⟨F, hF⟩ : ∃ F, Tlv.formOf 3 t = F := ⟨_, rfl⟩
  have HOB : Hid (objP t ↔ F.length ≤ 5000) := by rw [Hid, objP, hF]; exact ⟨fun h => h.2, fun h => ⟨hz, h⟩⟩
  have HFF := hid hF
  rw [hF] at hy ⊢
  clear hF hz
  obtain ⟨m, hm⟩ : ∃ m, F.length = m := ⟨_, rfl⟩
  have HM := hid hm
  rw [hm] at hy HOB ⊢
  clear hm
  obtain ⟨W1, hW1⟩ : ∃ W, w1.alloc (.cells #[.int .i64 K, .slice a m c] 29) = W := ⟨_, rfl⟩
  have HK1 : Hid (Below W0.heap.size W0 W1) := by rw [Hid, ← hW1]; exact hb1.alloc hb1.size _
  have HY1 : Hid (∀ V, Kp No W1 V → V.cell? ⟨w1.heap.size, 0, none⟩ = some (.int .i64 K) ∧ V.cell? ⟨w1.heap.size, 1, none⟩ = some (.slice a m c) ∧ Tlv.BySl 0 V.heap.size V (.slice a m c) F) := fun V hV => by
    have hs := hV.size
    have hz : W1.heap.size = w1.heap.size + 1 := by rw [← hW1]; simp
    have e : ∀ o, V.cell? ⟨w1.heap.size, o, none⟩ = W1.cell? ⟨w1.heap.size, o, none⟩ := fun o => hV.cell (p := ⟨w1.heap.size, o, none⟩) (by show w1.heap.size < _; omega) (fun x => x)
    have hbb : Below w1.heap.size w1 W1 := by rw [← hW1]; exact (Below.refl _ w1).alloc (Nat.le_refl _) _
    rw [e, e]
    refine ⟨by rw [← hW1]; simp, by rw [← hW1]; simp, hy.agree (Agree.below (hbb.trans (hV.toBelow'.mono hbb.size))) (Nat.le_refl _) (by omega)⟩
  have HRT := hid (right12_any W1 K hK a m c)
  obtain ⟨y0, y1, _⟩ := HY1.out W1 (Kp.refl _ _)
  clear hy hb1 hK
  go_wp2_with fail
  refine HRT.out.mono ?_
  rintro e w2 ⟨he, k2⟩
  have HK2 := hid k2
  obtain ⟨z0, z1, _⟩ := HY1.out w2 k2
  have HB2 : Hid (Below W0.heap.size W0 w2) := HK1.out.trans (k2.toBelow'.mono HK1.out.size)
  obtain ⟨g0, g1, gf, hg2, hgn⟩ := HX.out w2 HB2.out
  have HGN := hid hgn
  clear hgn
  have HBW : Hid (Below w.heap.size w w2) := HB0.out.trans (HB2.out.mono HB0.out.size)
  clear k2 y0 y1 hW1 HRT
  by_cases hl : (m : Int) ≤ 5000
  · have hd : decide ((m : Int) ≤ 5000) = true := by simpa using hl
    rw [hd] at he
    subst he
    have HOY : Hid (objP t) := HOB.out.2 (by omega)
    clear hd hl
    go_wp2_with fail
    obtain ⟨q0, q1⟩ := set2_read (u0 := .int .i64 K) (u1 := .slice a m c) g0 g1
    refine bodyPost_ret (v := .tuple #[.agg #[.int .i64 K, .slice a m c], .int .i64 0]) (by simp [results, Try.results43, go_sem, q0, q1]) rfl ⟨(by rw [HFF.out]; refine put1_yes HOY.out HM.out ?_; exact bySl_ne (HY1.out w2 HK2.out).2.2 HGN.out (((Kp.refl (· = w.heap.size + 1) _).setCell (p := ⟨w.heap.size + 1, 0, none⟩) (.inl rfl) _).setCell (p := ⟨w.heap.size + 1, 1, none⟩) (.inl rfl) _)), ?_⟩
    exact (HBW.out.setCell (by simp) _).setCell (by simp) _
  · have hd : decide ((m : Int) ≤ 5000) = false := by simpa using hl
    rw [hd] at he
    subst he
    have HON : Hid (¬ objP t) := fun h => by have := HOB.out.1 h; omega
    clear hd hl
    go_wp2_with fail
    obtain ⟨q0, q1⟩ := set2_read (u0 := .int .i64 0) (u1 := .slice none 0 0) g0 g1
    refine bodyPost_ret (v := .tuple #[.agg #[.int .i64 0, .slice none 0 0], .int .i64 1]) (by simp [results, Try.results43, go_sem, q0, q1]) rfl ⟨put1_no HON.out, ?_⟩
    exact (HBW.out.setCell (by simp) _).setCell (by simp) _
end Go.Proofs.Ytenfahecnkdhaaa.Nd
end
