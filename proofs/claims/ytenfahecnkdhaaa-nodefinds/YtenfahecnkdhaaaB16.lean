/- Of the proof: the texts NdLinks, NdAlive, NdFinds, one behind the other. -/
import Derived.Test.YtenfahecnkdhaaaB15
import Derived.Test.YtenfahecnkdhaaaB9
import Derived.Test.YtenfahecnkdhaaaB8
section
/-
  hashes of entries, and Links, of the program.
-/
namespace Go.Proofs.Ytenfahecnkdhaaa.Nd
open Go.RowKit
open Tlv (Tr Agree)
open Sim (hid Kp No)
set_option linter.unusedSimpArgs false

theorem rng_hash0 {w : World} {g : Nat} {e : Ent} {cx : List Value} {hs : List Int} (h : w.rangeAt g 0 cx) (hc : entC e = cx) (hh : e.2.2 = hs) : w.rangeAt g 2 (b8 hs) := by
  subst hc
  subst hh
  simpa using rng_hash h

set_option maxHeartbeats 4000000 in
set_option maxRecDepth 100000 in
theorem ehashes_any (w : World) (v : Value) (d : List Ent) (P : Nat → Prop) (hv : EV P w v d) (hl : d.length ≤ 1000000) :
    Calls Try.prog 54 #[v] w fun e w' => ∃ a l c, e = .returned (.slice a l c) ∧ HV (fun g => w.heap.size ≤ g) w' (.slice a l c) (d.map (·.2.2)) ∧ Below w.heap.size w w' := by
  obtain ⟨a, c, rfl, h2, h3, h4, h5, h6⟩ := hv
  obtain ⟨n, hn⟩ : ∃ n, d.length = n := ⟨_, rfl⟩
  have HN := hid hn
  rw [hn] at hl ⊢
  have H6 := hid h6
  obtain ⟨D, hD⟩ : ∃ D, d.map (fun x : Ent => x.2.2) = D := ⟨_, rfl⟩
  have HD := hid hD
  rw [hD]
  have hDl : D.length = n := by rw [← hD, List.length_map, hn]
  have HDL := hid hDl
  clear hn h2 h3 h4 h5 h6 hD hDl
  go_enter Try.func54, Try.ntmps54
  go_wp2_with fail
  go_loopw [3, 8] (fun v3 v8 wr => ∃ (k : Nat) (ad : Option Addr) (cap : Nat), v3 = .slice ad k cap ∧ v8 = .int .i64 (k : Int) ∧ k ≤ n ∧ Hid (HMine w.heap.size wr (.slice ad k cap) (D.take k)) ∧ Hid (Below w.heap.size w wr)) (fun _ v8 _ => n - (intOf v8).toNat)
  case atStart => exact ⟨0, none, 0, rfl, rfl, Nat.zero_le _, HMine.nil _ _, Below.refl _ _⟩
  case round =>
    obtain ⟨k, ad, cap, rfl, rfl, hkn, HS, HB⟩ := hrel
    by_cases hlt : k < n
    · have hltI : (k : Int) < (n : Int) := by omega
      have hwk : IntKind.i64.wrap ((k : Int) + 1) = ((k + 1 : Nat) : Int) := by rw [IntKind.wrap_i64]; omega
      obtain ⟨e, he⟩ : ∃ e, d[k]? = some e := ⟨_, List.getElem?_eq_getElem (by rw [HN.out]; exact hlt)⟩
      have hDk : D[k]? = some e.2.2 := by rw [← HD.out, List.getElem?_map, he]; rfl
      have HNX : Hid (D.take (k + 1) = D.take k ++ [e.2.2]) := by rw [Hid, List.take_add_one, hDk]; rfl
      have HLK : Hid ((D.take k).length = k) := by rw [Hid, List.length_take, HDL.out]; omega
      obtain ⟨g, o, rfl, _, hr⟩ := H6.out (by intro e; have := HN.out; rw [e] at this; simp at this; omega)
      have hrow := (hr.kp (Kp.below HB.out : Kp No w wr) (fun x => x)).2 k e he
      have HX := hid hrow
      have HHO : Hid (HOk e.2.2) := ⟨hrow.1.2.1, hrow.1.2.2⟩
      obtain ⟨cx, hcx⟩ : ∃ cx, entC e = cx := ⟨_, rfl⟩
      have HI : Hid ((Try.prog.info? 70).map (·.size) = some cx.length) := by rw [Hid, ← hcx]; exact inf hrow.1
      have HRX : Hid (wr.rangeAt g (o + k * 34) cx) := by rw [← hcx]; exact hrow.2
      have hcl : cx.length = 34 := by rw [← hcx]; exact entC_length hrow.1
      have HO1 : Hid (cx.toArray.all (·.oneCell') = true) := by rw [← hcx]; exact all_oneCell_toArray (entC_one e)
      have HCX := hid hcx
      obtain ⟨hs, hhs⟩ : ∃ x, e.2.2 = x := ⟨_, rfl⟩
      have HHS := hid hhs
      rw [hhs] at HNX HHO
      have HIH : Hid ((Try.prog.info? 68).map (·.size) = some (b8 hs).length) := by rw [Hid, b8_length, HHO.out.1]; exact infH
      have HB1 := hid (fun W => run_oneH HHO.out.1 W)
      clear hcx hhs hrow hr he hDk
      go_wp2_with (first
        | (refine wpList_load_mid (by rfl) 70 _ (by rfl) g (o + k * 34) (by rfl) cx _ HRX.out Try.underlying70 rfl HI.out ?_)
        | (refine wpList_store_box (fun W => ∀ V, Kp No W V → V.rangeAt wr.heap.size 0 cx ∧ Kp No wr V) (by rfl) 70 _ _ (by rfl) wr.heap.size 0 cx.toArray (by rfl) (by rfl) (thereE wr _ _ _ (by rw [List.size_toArray, hcl]; exact Nat.le_refl _)) HI.out HO1.out (boxE wr _ cx rfl hcl) ?_; intro W1 hW1; have HW1 := hid hW1; clear hW1; have HK1 := hid (HW1.out W1 (Kp.refl _ _)).2; have HRH := hid (rng_hash0 (HW1.out W1 (Kp.refl _ _)).1 HCX.out HHS.out); obtain ⟨ad2, cap2, w4, hap, hm4, hg4⟩ := (HS.out.kp HK1.out (fun _ _ x => x)).push HLK.out HHO.out (Nat.le_trans HB.out.size HK1.out.size) (by omega) 22; have HAP := hid hap; have HM4 := hid hm4; have HG4 := hid hg4; clear hap hm4 hg4)
        | (refine wpList_load_mid (by rfl) 68 _ (by rfl) wr.heap.size 2 (by rfl) (b8 hs) _ HRH.out Try.underlying68 rfl HIH.out ?_)
        | (refine wpList_valE (by rfl) (exec_sliceE 22 _ rfl (.agg (b8 hs).toArray) _ rfl (HB1.out _)) ?_)
        | (refine wpList_valE (by rfl) (exec_appE _ _ 22 rfl (.slice ad k cap) (.slice (some ⟨W1.heap.size, 0, none⟩) 1 1) _ rfl rfl HAP.out) ?_))
      have HMF : Hid (HMine w.heap.size w4 (.slice ad2 (k + 1) cap2) (D.take (k + 1))) := by rw [HNX.out]; exact HM4.out
      have HBF : Hid (Below w.heap.size w w4) := by
        have k1 : Below w.heap.size w W1 := HB.out.trans (HK1.out.toBelow'.mono HB.out.size)
        exact (k1.alloc k1.size _).grown HG4.out (k1.alloc k1.size _).size (fun r hr => HS.out.2.1 r hr)
      go_round
      case rel => exact ⟨k + 1, ad2, cap2, rfl, by first | rfl | go_num, by omega, HMF.out, HBF.out⟩
      case measure => simp [intOf]; omega
    · have hltI : ¬ (k : Int) < (n : Int) := by omega
      have hkn' : k = n := by omega
      have HF : Hid (HV (fun g => w.heap.size ≤ g) wr (.slice ad k cap) D) := by
        have := HS.out
        rw [hkn', ← HDL.out, List.take_length] at this
        rw [Hid, hkn', ← HDL.out]
        exact this.hv
      clear hkn' HS
      go_wp2_with fail
      go_ret
      exact ⟨_, _, _, rfl, HF.out, HB.out⟩

/-- What an object names. -/
def LinkP (K0 : Int) (bs : List Int) (d : List (List Int)) (f : Int) : Prop :=
  (K0 = 1 ∧ d = [] ∧ f = if 1 ≤ bs.length ∧ bs.length ≤ 4096 then 0 else 3) ∨
  (K0 = 2 ∧ ((gfile bs = none ∧ d = [] ∧ f = 3) ∨ ∃ s, gfile bs = some (s, d) ∧ f = 0)) ∨
  (K0 = 3 ∧ (((∀ d', ¬ IsDir bs d') ∧ d = [] ∧ f = 3) ∨ ∃ d', IsDir bs d' ∧ d = d'.map (·.2.2) ∧ f = 0)) ∨
  (K0 ≠ 1 ∧ K0 ≠ 2 ∧ K0 ≠ 3 ∧ d = [] ∧ f = 1)
/-- What Links answers. -/
def LinkA (u w : World) (K0 : Int) (bs : List Int) (e : Ending) : Prop :=
  ∃ a l c d f, e = .returned (.tuple #[.slice a l c, .int .i64 f]) ∧ HV (fun g => u.heap.size ≤ g) w (.slice a l c) d ∧ LinkP K0 bs d f
theorem LinkA.nil {u w : World} {K0 : Int} {bs : List Int} {f : Int} (h : LinkP K0 bs [] f) : LinkA u w K0 bs (.returned (.tuple #[.slice none 0 0, .int .i64 f])) := ⟨none, 0, 0, [], f, rfl, HV.nil _ _, h⟩

set_option maxHeartbeats 4000000 in
set_option maxRecDepth 100000 in
theorem links_any (w : World) (K0 : Int) (v : Value) (bs : List Int) (hv : Tlv.BySl 0 w.heap.size w v bs) :
    Calls Try.prog 23 #[.agg #[.int .i64 K0, v]] w fun e w' => LinkA w w' K0 bs e ∧ Below w.heap.size w w' := by
  obtain ⟨a, c, rfl, hxx⟩ := id hv
  clear hxx
  obtain ⟨n, hn⟩ : ∃ n, bs.length = n := ⟨_, rfl⟩
  have HN := hid hn
  rw [hn] at hv ⊢
  obtain ⟨W0, hW0⟩ : ∃ W, w.alloc (.cells #[.int .i64 K0, .slice a n c] 31) = W := ⟨_, rfl⟩
  have HB0 : Hid (Below w.heap.size w W0) := by rw [Hid, ← hW0]; exact (Below.refl _ _).alloc (Nat.le_refl _) _
  have hbox : W0.cell? ⟨w.heap.size, 0, none⟩ = some (.int .i64 K0) ∧ W0.cell? ⟨w.heap.size, 1, none⟩ = some (.slice a n c) := by rw [← hW0]; simp [go_sem]
  have HBY : Hid (Tlv.BySl 0 W0.heap.size W0 (.slice a n c) bs) := hv.agree (Agree.below HB0.out) (Nat.le_refl _) HB0.out.size
  have HGF := hid (getFile_any W0 K0 (.slice a n c) bs HBY.out)
  have HGD := hid (getDir_any W0 K0 (.slice a n c) bs HBY.out)
  clear hv hn
  obtain ⟨hx0, hx1⟩ := hbox
  by_cases h1 : K0 = 1
  · subst h1
    have HCR := hid (chunkRight_any W0 a n c)
    cases hq : decide (1 ≤ n ∧ n ≤ 4096) with
    | true =>
      rw [hq] at HCR
      have HA : Hid (∀ w', LinkA w w' 1 bs (.returned (.tuple #[.slice none 0 0, .int .i64 0]))) := fun w' => LinkA.nil (.inl ⟨rfl, rfl, by rw [HN.out, if_pos (by simpa using hq)]⟩)
      clear hq
      go_enter Try.func23, Try.ntmps23
      go_wp2_with fail
      refine HCR.out.mono ?_
      rintro e w1 ⟨rfl, hw1⟩
      subst hw1
      go_wp2_with fail
      go_ret2
      exact ⟨HA.out _, HB0.out⟩
    | false =>
      rw [hq] at HCR
      have HA : Hid (∀ w', LinkA w w' 1 bs (.returned (.tuple #[.slice none 0 0, .int .i64 3]))) := fun w' => LinkA.nil (.inl ⟨rfl, rfl, by rw [HN.out, if_neg (by simpa using hq)]⟩)
      clear hq
      go_enter Try.func23, Try.ntmps23
      go_wp2_with fail
      refine HCR.out.mono ?_
      rintro e w1 ⟨rfl, hw1⟩
      subst hw1
      go_wp2_with fail
      go_ret2
      exact ⟨HA.out _, HB0.out⟩
  · have h1b : (K0 == 1) = false := by simpa using h1
    by_cases h2 : K0 = 2
    · subst h2
      go_enter Try.func23, Try.ntmps23
      go_wp2_with fail
      refine HGF.out.mono ?_
      rintro e w2 ⟨hres, hb2⟩
      have HB2 : Hid (Below w.heap.size w w2) := HB0.out.trans (hb2.mono HB0.out.size)
      have HZ := HB0.out.size
      clear hb2 hW0
      rcases hres with ⟨hk, _⟩ | ⟨_, hno, rfl⟩ | ⟨s, d, ax, lx, cx, _, hyes, rfl, hhv⟩
      · exact absurd rfl hk
      · unfold zFil
        have HA : Hid (∀ w', LinkA w w' 2 bs (.returned (.tuple #[.slice none 0 0, .int .i64 3]))) := fun w' => LinkA.nil (.inr (.inl ⟨rfl, .inl ⟨hno, rfl, rfl⟩⟩))
        clear hno
        go_wp2_with fail
        go_ret2
        exact ⟨HA.out _, HB2.out.alloc HB2.out.size _⟩
      · have HA : Hid (∀ w', HV (fun g => w.heap.size ≤ g) w' (.slice ax lx cx) d → LinkA w w' 2 bs (.returned (.tuple #[.slice ax lx cx, .int .i64 0]))) := fun w' h => ⟨ax, lx, cx, d, 0, rfl, h, .inr (.inl ⟨rfl, .inr ⟨s, hyes, rfl⟩⟩)⟩
        have HH := hid (hhv.imp (fun g hg => Nat.le_trans HZ hg.2) : HV (fun g => w.heap.size ≤ g) w2 (.slice ax lx cx) d)
        clear hyes hhv
        go_wp2_with fail
        go_ret2
        exact ⟨HA.out _ (HH.out.kept ((Kp.refl No w2).alloc _)), HB2.out.alloc HB2.out.size _⟩
    · have h2b : (K0 == 2) = false := by simpa using h2
      by_cases h3 : K0 = 3
      · subst h3
        go_enter Try.func23, Try.ntmps23
        go_wp2_with fail
        refine HGD.out.mono ?_
        rintro e w2 ⟨hres, hb2⟩
        have HB2 : Hid (Below w.heap.size w w2) := HB0.out.trans (hb2.mono HB0.out.size)
        clear hb2 hW0
        rcases hres with ⟨hk, _⟩ | ⟨_, hno, rfl⟩ | ⟨d, ax, lx, cx, _, hyes, rfl, hev⟩
        · exact absurd rfl hk
        · have HEH := hid (ehashes_any w2 _ [] (fun _ => True) (EV.nil _ _) (by simp))
          have HA : Hid (∀ w' a l c, HV (fun g => w2.heap.size ≤ g) w' (.slice a l c) [] → LinkA w w' 3 bs (.returned (.tuple #[.slice a l c, .int .i64 3]))) := fun w' a l c h => ⟨a, l, c, [], 3, rfl, h.imp (fun g hg => Nat.le_trans HB2.out.size hg), .inr (.inr (.inl ⟨rfl, .inl ⟨hno, rfl, rfl⟩⟩))⟩
          clear hno
          go_wp2_with fail
          refine HEH.out.mono ?_
          rintro e w3 ⟨ay, ly, cy, rfl, hh, hb3⟩
          have HH := hid hh
          have HB3 : Hid (Below w.heap.size w w3) := HB2.out.trans (hb3.mono HB2.out.size)
          clear hh hb3
          go_wp2_with fail
          go_ret2
          exact ⟨HA.out _ _ _ _ HH.out, HB3.out⟩
        · have hdl : d.length ≤ 1000000 := by
            obtain ⟨t, _, hg, rfl⟩ := hyes
            exact Nat.le_trans hg.2.1.1 (by omega)
          have HEH := hid (ehashes_any w2 _ d _ hev hdl)
          have HA : Hid (∀ w' a l c, HV (fun g => w2.heap.size ≤ g) w' (.slice a l c) (d.map (·.2.2)) → LinkA w w' 3 bs (.returned (.tuple #[.slice a l c, .int .i64 0]))) := fun w' a l c h => ⟨a, l, c, _, 0, rfl, h.imp (fun g hg => Nat.le_trans HB2.out.size hg), .inr (.inr (.inl ⟨rfl, .inr ⟨d, hyes, rfl, rfl⟩⟩))⟩
          clear hyes hev hdl
          go_wp2_with fail
          refine HEH.out.mono ?_
          rintro e w3 ⟨ay, ly, cy, rfl, hh, hb3⟩
          have HH := hid hh
          have HB3 : Hid (Below w.heap.size w w3) := HB2.out.trans (hb3.mono HB2.out.size)
          clear hh hb3
          go_wp2_with fail
          go_ret2
          exact ⟨HA.out _ _ _ _ HH.out, HB3.out⟩
      · have h3b : (K0 == 3) = false := by simpa using h3
        have HA : Hid (∀ w', LinkA w w' K0 bs (.returned (.tuple #[.slice none 0 0, .int .i64 1]))) := fun w' => LinkA.nil (.inr (.inr (.inr ⟨h1, h2, h3, rfl, rfl⟩)))
        go_enter Try.func23, Try.ntmps23
        go_wp2_with fail
        go_ret2
        exact ⟨HA.out _, HB0.out⟩
end Go.Proofs.Ytenfahecnkdhaaa.Nd
end

section
/-
  What must come at any rate.
-/
namespace Go.Proofs.Ytenfahecnkdhaaa.Nd
open Go.RowKit
open Tlv (Tr Agree)
open Sim (hid Kp No)
set_option linter.unusedSimpArgs false

def h7 : List Int := 7 :: List.replicate 31 0
def f7 : List Int := [3, 0, 42, 1, 0, 1, 2, 3, 0, 35, 2, 0, 32] ++ h7
theorem h7_ok : HOk h7 := by
  refine ⟨rfl, fun x hx => ?_⟩
  rcases List.mem_cons.1 hx with rfl | hx
  · omega
  · rw [List.eq_of_mem_replicate hx]
    omega
theorem form7 : Tlv.formOf 3 (fileT 2 [h7]) = f7 := by kernel_rfl
theorem gfile7 : gfile f7 = some (2, [h7]) := by kernel_rfl
theorem sz7 : Tlv.szT 3 (fileT 2 [h7]) ≠ 0 := by decide +kernel
theorem form0 : Tlv.formOf 3 (entsT []) = [3, 0, 0] := by kernel_rfl
theorem sz0 : Tlv.szT 3 (entsT []) ≠ 0 := by decide +kernel
theorem right0 : RightP [] := ⟨by simp, fun i e hi => by simp at hi⟩
theorem dans0 {u w : World} {e : Ending} (h : DAns u w [] e) : ∃ a c, e = .returned (.tuple #[.agg #[.int .i64 3, .slice a 3 c], .int .i64 0]) ∧ Tlv.BySl u.heap.size w.heap.size w (.slice a 3 c) [3, 0, 0] := by
  rcases h with ⟨_, h⟩ | ⟨h, _⟩
  · rcases h with ⟨_, a, c, h1, h2⟩ | ⟨h, _⟩
    · rw [form0] at h1 h2
      exact ⟨a, c, h1, h2⟩
    · exact absurd ⟨sz0, by rw [form0]; simp⟩ h
  · exact absurd right0 h
theorem fans7 {u w : World} {e : Ending} (h : FiAns u w 2 [h7] e) : ∃ a c, e = .returned (.tuple #[.agg #[.int .i64 2, .slice a 45 c], .int .i64 0]) ∧ Tlv.BySl u.heap.size w.heap.size w (.slice a 45 c) f7 := by
  rcases h with ⟨_, h⟩ | ⟨h, _⟩
  · rcases h with ⟨_, a, c, h1, h2⟩ | ⟨h, _⟩
    · rw [form7] at h1 h2
      exact ⟨a, c, h1, h2⟩
    · exact absurd ⟨sz7, by rw [form7]; decide⟩ h
  · cases h
theorem lans7 {u w : World} {e : Ending} (h : LinkA u w 2 f7 e) : ∃ a l c, e = .returned (.tuple #[.slice a l c, .int .i64 0]) ∧ HV (fun g => u.heap.size ≤ g) w (.slice a l c) [h7] := by
  obtain ⟨a, l, c, d, f, rfl, hv, hl⟩ := h
  rcases hl with ⟨h, _⟩ | ⟨_, h⟩ | ⟨h, _⟩ | ⟨_, h, _⟩
  · cases h
  · rcases h with ⟨h, _⟩ | ⟨s, h, rfl⟩
    · rw [gfile7] at h
      cases h
    · rw [gfile7] at h
      simp only [Option.some.injEq, Prod.mk.injEq] at h
      obtain ⟨_, rfl⟩ := h
      exact ⟨a, l, c, rfl, hv⟩
  · cases h
  · exact absurd rfl h

theorem hv7 (W : World) : HV (· < (W.alloc (.cells (b8 h7).toArray 68)).heap.size) (W.alloc (.cells (b8 h7).toArray 68)) (.slice (some ⟨W.heap.size, 0, none⟩) 1 1) [h7] := by
  refine ⟨_, 1, rfl, Nat.le_refl _, by decide, by simp, by simpa using h7_ok, fun _ => ⟨W.heap.size, 0, rfl, by simp, by simp, fun i h hi => ?_⟩⟩
  match i, hi with
  | 0, hi =>
    simp only [List.getElem?_cons_zero, Option.some.injEq] at hi
    subst hi
    exact ⟨h7_ok, row_range (heap_alloc_new W _)⟩
theorem h7_lit : (b8 h7).toArray = (#[.int .u8 7, .int .u8 0, .int .u8 0, .int .u8 0, .int .u8 0, .int .u8 0, .int .u8 0, .int .u8 0, .int .u8 0, .int .u8 0, .int .u8 0, .int .u8 0, .int .u8 0, .int .u8 0, .int .u8 0, .int .u8 0, .int .u8 0, .int .u8 0, .int .u8 0, .int .u8 0, .int .u8 0, .int .u8 0, .int .u8 0, .int .u8 0, .int .u8 0, .int .u8 0, .int .u8 0, .int .u8 0, .int .u8 0, .int .u8 0, .int .u8 0, .int .u8 0] : Array Value) := by rfl
theorem hv_one {P : Nat → Prop} {w : World} {a : Option Addr} {l c : Nat} {h : List Int} (hv : HV P w (.slice a l c) [h]) : ∃ g o, a = some ⟨g, o, none⟩ ∧ l = 1 ∧ w.rangeAt g o (b8 h) ∧ g < w.heap.size := by
  obtain ⟨a', c', e, _, _, _, _, h6⟩ := hv
  simp only [Value.slice.injEq, List.length_singleton] at e
  obtain ⟨rfl, rfl, _⟩ := e
  obtain ⟨g, o, rfl, _, hr⟩ := h6 (by simp)
  have := (hr.2 0 h rfl).2
  rw [Nat.zero_mul, Nat.add_zero] at this
  exact ⟨g, o, rfl, rfl, this, hr.1⟩
theorem three_in (W : World) : Tlv.BySl 0 (W.alloc (.cells #[.int .u8 3, .int .u8 0, .int .u8 0] 5)).heap.size (W.alloc (.cells #[.int .u8 3, .int .u8 0, .int .u8 0] 5)) (.slice (some ⟨W.heap.size, 0, none⟩) 3 3) [3, 0, 0] := by
  refine ⟨_, 3, rfl, Nat.le_refl _, by decide, by simp, by simp, by simp, fun _ => ⟨W.heap.size, 0, rfl, Nat.zero_le _, by simp, fun i hi => ?_⟩⟩
  match i, hi with
  | 0, _ => simp
  | 1, _ => simp
  | 2, _ => simp

set_option maxHeartbeats 4000000 in
set_option maxRecDepth 100000 in
theorem alive_any (w : World) :
    Calls Try.prog 8 #[] w fun e w' => e = .returned (.bool true) ∧ Below w.heap.size w w' := by
  have HPD := hid (putDir_any w _ [] (fun _ => True) (EV.nil _ _) (by simp) (by simp))
  go_enter Try.func8, Try.ntmps8
  go_wp2_with fail
  refine HPD.out.mono ?_
  rintro e w1 ⟨hd, hb1⟩
  obtain ⟨a1, c1, rfl, hy1⟩ := dans0 hd
  have HB1 := hid hb1
  have HY1 := hid hy1
  clear hd hb1 hy1 HPD
  have HPF := hid (putFile_any _ 2 _ [h7] (hv7 (w1.alloc (.cells #[.int .i64 3, .slice a1 3 c1] 31))) (by simp))
  have hs1 : (w1.alloc (.cells #[.int .i64 3, .slice a1 3 c1] 31)).heap.size = w1.heap.size + 1 := by simp
  rw [h7_lit, hs1] at HPF
  clear hs1
  go_wp2_with fail
  refine HPF.out.mono ?_
  rintro e w2 ⟨hd, hb2⟩
  obtain ⟨a2, c2, rfl, hy2⟩ := fans7 hd
  have HB2 : Hid (Below (w1.alloc (.cells #[.int .i64 3, .slice a1 3 c1] 31)).heap.size (w1.alloc (.cells #[.int .i64 3, .slice a1 3 c1] 31)) w2) := ((Below.refl _ _).alloc (Nat.le_refl _) _).trans (hb2.mono (by simp))
  have HBX : Hid (w2.cell? ⟨w1.heap.size, 0, none⟩ = some (.int .i64 3) ∧ w2.cell? ⟨w1.heap.size, 1, none⟩ = some (.slice a1 3 c1)) := by
    refine ⟨?_, ?_⟩
    · rw [HB2.out.cell (p := ⟨w1.heap.size, 0, none⟩) (by simp)]; simp
    · rw [HB2.out.cell (p := ⟨w1.heap.size, 1, none⟩) (by simp)]; simp
  have HBW : Hid (Below w1.heap.size w1 w2) := ((Below.refl _ w1).alloc (Nat.le_refl _) _).trans (HB2.out.mono (by simp))
  have HZ2 : Hid (w1.heap.size < w2.heap.size) := by have := HB2.out.size; simp at this; rw [Hid]; omega
  have HY2 : Hid (Tlv.BySl 0 w2.heap.size w2 (.slice a2 45 c2) f7) := hy2.agree (Agree.refl _ _ _) (Nat.zero_le _) (Nat.le_refl _)
  have HLK := hid (links_any (w2.alloc (.cells #[.int .i64 2, .slice a2 45 c2] 31)) 2 _ f7 (HY2.out.agree ((Agree.refl _ _ _).alloc (Nat.le_refl _) _) (Nat.le_refl _) (by simp)))
  clear hd hb2 hy2 HPF
  go_wp2_with fail
  refine HLK.out.mono ?_
  rintro e w3 ⟨hd, hb3⟩
  obtain ⟨a3, l3, c3, rfl, hv3⟩ := lans7 hd
  obtain ⟨g, o, rfl, rfl, hr3, hg3⟩ := hv_one hv3
  have HB3 : Hid (Below w2.heap.size w2 w3) := ((Below.refl _ _).alloc (Nat.le_refl _) _).trans (hb3.mono (by simp))
  have HR3 := hid hr3
  have HBW3 : Hid (Below w1.heap.size w1 w3) := HBW.out.trans (HB3.out.mono HBW.out.size)
  have hx0 : w3.cell? ⟨w1.heap.size, 0, none⟩ = some (.int .i64 3) := by rw [HB3.out.cell (p := ⟨w1.heap.size, 0, none⟩) HZ2.out]; exact HBX.out.1
  have hx1 : w3.cell? ⟨w1.heap.size, 1, none⟩ = some (.slice a1 3 c1) := by rw [HB3.out.cell (p := ⟨w1.heap.size, 1, none⟩) HZ2.out]; exact HBX.out.2
  have HRB := hid (Tlv.refBytes_any (.slice a1 3 c1) (.slice (some ⟨w3.heap.size, 0, none⟩) 3 3) [3, 0, 0] [3, 0, 0] (w3.alloc (.cells #[.int .u8 3, .int .u8 0, .int .u8 0] 5)) (HY1.out.agree (Agree.below (HBW3.out.trans ((Below.refl _ _).alloc HBW3.out.size _))) (Nat.zero_le _) (Nat.le_trans HBW3.out.size (by simp))) (three_in w3))
  clear hd hb3 hv3 hr3 HLK
  go_wp2_with fail
  refine HRB.out.mono ?_
  rintro e w4 ⟨rfl, hb4⟩
  have HB4 := hid hb4
  have HR4 : Hid (w4.rangeAt g o (b8 h7)) := fun j v hv => by
    rw [hb4.cell (p := ⟨g, _, none⟩) (by simp; omega), World.cell?_alloc_past _ _ _ hg3]
    exact HR3.out j v hv
  have hdd : decide True = true := rfl
  rw [hdd]
  clear hb4 hdd HRB
  have hq : ∀ W, (Op.equalIn 10000 68 (.agg (b8 h7).toArray) (.agg #[.int .u8 7, .int .u8 0, .int .u8 0, .int .u8 0, .int .u8 0, .int .u8 0, .int .u8 0, .int .u8 0, .int .u8 0, .int .u8 0, .int .u8 0, .int .u8 0, .int .u8 0, .int .u8 0, .int .u8 0, .int .u8 0, .int .u8 0, .int .u8 0, .int .u8 0, .int .u8 0, .int .u8 0, .int .u8 0, .int .u8 0, .int .u8 0, .int .u8 0, .int .u8 0, .int .u8 0, .int .u8 0, .int .u8 0, .int .u8 0, .int .u8 0, .int .u8 0])).run Try.prog W = .ok true W := fun W => by
    have := eqHashAt 9998 h7 h7 h7_ok.1 h7_ok.1 h7_ok.2 h7_ok.2 W
    rw [decide_eq_true rfl] at this
    rw [← h7_lit]
    exact this
  go_wp2_with (refine wpList_bare (by rfl) ?_; refine wpList_load_mid (by rfl) 68 _ (by rfl) g o (by rfl) (b8 h7) _ HR4.out Try.underlying68 rfl (by rw [b8_length, h7_ok.1]; exact infH) ?_)
  go_ret
  exact ⟨rfl, (HB1.out.trans (HBW3.out.mono HB1.out.size)).trans (((Below.refl _ w3).alloc (Nat.le_refl _) _).trans (HB4.out.mono (by simp)) |>.mono (Nat.le_trans HB1.out.size HBW3.out.size))⟩
end Go.Proofs.Ytenfahecnkdhaaa.Nd
end

section
/-
  The walk of NodeFinds.
-/
namespace Go.Proofs.Ytenfahecnkdhaaa.Nd
open Go.RowKit
open Stb (Stab Srt Mrg)
open Sim (hid Kp No)
set_option linter.unusedSimpArgs false

set_option maxHeartbeats 2000000 in
theorem eqEntN {x y : Ent} (hx : EOk x) (hy : EOk y) (w : World) : (Op.equalIn 10000 70 (.agg (entC x).toArray) (.agg (entC y).toArray)).run Try.prog w = .ok (decide (x = y)) w := by
  have p1 := ent_hash hx
  have p2 := ent_hash hy
  have c0 : (entC x)[0]? = some (.string (txt x.1)) := rfl
  have c1 : (entC x)[1]? = some (.bool x.2.1) := rfl
  have d0 : (entC y)[0]? = some (.string (txt y.1)) := rfl
  have d1 : (entC y)[1]? = some (.bool y.2.1) := rfl
  have q1 : (Op.equalIn 9999 68 (.agg (b8 x.2.2).toArray) (.agg (b8 y.2.2).toArray)).run Try.prog w = .ok (decide (x.2.2 = y.2.2)) w := eqHashAt 9997 x.2.2 y.2.2 hx.2.1 hy.2.1 hx.2.2 hy.2.2 w
  have heq : ((txt x.1).toList == (txt y.1).toList) = decide (x.1 = y.1) := by
    rw [str_eq8, decide_eq_decide]
    exact txt_inj hx.1 hy.1
  generalize entC x = X at *
  generalize entC y = Y at *
  generalize b8 x.2.2 = bx at *
  generalize b8 y.2.2 = bY at *
  generalize txt x.1 = T1 at *
  generalize txt y.1 = T2 at *
  rw [show (10000 : Nat) = 9999 + 1 from rfl, Op.equalIn]
  go_simp
  clear hx hy c0 c1 d0 d1 q1 p1 p2 heq
  obtain ⟨nm, p, hs⟩ := x
  obtain ⟨nm', p', hs'⟩ := y
  simp only [Prod.mk.injEq]
  by_cases e0 : nm = nm' <;> by_cases e1 : p = p' <;> by_cases e2 : hs = hs' <;> simp [e0, e1, e2]

set_option maxHeartbeats 2000000 in
theorem finds_dark (w : World) (a : Option Addr) (n c : Nat) (T : ByteArray) (q : Bool) (hL : ∀ V, Kp No w V → Calls Try.prog 7 #[.agg #[.int .i64 0, .slice none 0 0], .slice a n c, .agg #[.int .i64 0, .slice none 0 0]] V fun e w' => e = .returned (.bool q) ∧ Kp No V w') (hq : q = false ∨ 60 < (T.size : Int)) :
    Calls Try.prog 5 #[.slice a n c, .string T] w fun e w' => e = .returned (.bool true) ∧ Below w.heap.size w w' := by
  have HL := hid (hL w (Kp.refl _ _))
  cases q with
  | false =>
    clear hq hL
    go_enter Try.func5, Try.ntmps5
    go_wp2_with fail
    refine HL.out.mono ?_
    rintro e w1 ⟨rfl, k1⟩
    have HK1 := hid k1
    clear k1
    go_wp2_with fail
    refine (alive_any _).mono ?_
    rintro e w2 ⟨rfl, hb2⟩
    have HB := hid (HK1.out.toBelow'.trans (hb2.mono HK1.out.size))
    clear hb2
    go_wp2_with fail
    go_ret
    exact ⟨rfl, HB.out⟩
  | true =>
    have hT : 60 < (T.size : Int) := by rcases hq with h | h; cases h; exact h
    clear hq hL
    go_enter Try.func5, Try.ntmps5
    go_wp2_with fail
    refine HL.out.mono ?_
    rintro e w1 ⟨rfl, k1⟩
    have HK1 := hid k1
    clear k1
    go_wp2_with fail
    refine (alive_any _).mono ?_
    rintro e w2 ⟨rfl, hb2⟩
    have HB := hid (HK1.out.toBelow'.trans (hb2.mono HK1.out.size))
    clear hb2
    go_wp2_with fail
    go_ret
    exact ⟨rfl, HB.out⟩

set_option maxHeartbeats 8000000 in
set_option maxRecDepth 100000 in
theorem finds_main (w : World) (v : Value) (l : List Ent) (P : Nat → Prop) (h : List Int) (hv : EV P w v l) (hli : lightN 0 l 0 = true) (hh : h.length ≤ 60) (hb : ∀ x ∈ h, 0 ≤ x ∧ x ≤ 255) :
    Calls Try.prog 5 #[v, .string (txt h)] w fun e w' => e = .returned (.bool true) ∧ Below w.heap.size w w' := by
  have hsh := lightN_short hli
  have hL := light_any w v l P 0 0 none none 0 0 0 0 hv
  rw [hli] at hL
  have HL := hid hL
  have HOWN := hid (fun (V : World) (hV : Kp No w V) => own_any V v l P (hv.kept hV) (by omega))
  have HRS := hid (fun (V : World) (hV : Kp No w V) => rsort_any V v l P (hv.kept hV) (by omega) (fun e he => Nat.le_trans (hsh.2.2.2 e he) (by omega)))
  have HOK := hid hv.ok
  have HN60 := hid hsh.2.2.2
  have HN70 := hid hsh.2.1
  obtain ⟨a, c, rfl, hxx⟩ := hv
  clear hxx hL hsh
  obtain ⟨n, hn⟩ : ∃ n, l.length = n := ⟨_, rfl⟩
  have HNL := hid hn
  rw [hn] at HL HOWN HRS HN70 ⊢
  clear hn
  obtain ⟨T, hT⟩ : ∃ T, txt h = T := ⟨_, rfl⟩
  have HT := hid hT
  have hts : (T.size : Int) ≤ 60 := by rw [← hT, txt_size]; omega
  have HFD := hid (fun (V : World) (r : Value) (s : List Ent) (Q : Nat → Prop) (hr : EV Q V r s) (h1 : s.length ≤ 1000000) (h2 : ∀ e ∈ s, e.1.length ≤ 1000000) => find_any V r s Q h hr h1 h2 hb)
  rw [hT] at HFD ⊢
  have HB := hid hb
  clear hT hli hb
  go_enter Try.func5, Try.ntmps5
  go_wp2_with fail
  refine HL.out.mono ?_
  rintro e w1 ⟨rfl, k1⟩
  have HK1 := hid k1
  clear k1 HL
  go_wp2_with fail
  refine (HOWN.out _ HK1.out).mono ?_
  rintro e w2 ⟨r2, rfl, hm2⟩
  have HK2 := hid (HK1.out.andNone hm2.2.2)
  have HEV2 := hid (ev_of_rowT (P := fun _ => True) hm2.1 HOK.out (fun _ _ => trivial))
  clear hm2 HOWN
  have HSO := hid (sort_any w2 r2 l _ HEV2.out (by have := HN70.out; have := HNL.out; omega))
  obtain ⟨a2, c2, rfl, hxx⟩ := id HEV2.out
  clear hxx
  go_wp2_with fail
  refine HSO.out.mono ?_
  rintro e w3 ⟨r3, X, rfl, hst, hsr, k3, hev3⟩
  have HST := hid hst
  have HSR := hid hsr
  have HK3 := hid (HK2.out.andNone k3)
  have HEV3 := hid hev3
  clear hst hsr k3 hev3 HSO HEV2
  obtain ⟨s, hs⟩ : ∃ s, cmpct X = s := ⟨_, rfl⟩
  have HS := hid hs
  rw [hs] at HEV3
  clear hs
  obtain ⟨a3, c3, rfl, hxx⟩ := id HEV3.out
  clear hxx
  obtain ⟨m, hm⟩ : ∃ m, s.length = m := ⟨_, rfl⟩
  have HM := hid hm
  rw [hm] at HEV3 ⊢
  clear hm
  have HSUB : Hid (∀ e ∈ s, e ∈ l) := fun e he => by
    rw [← HS.out] at he
    have h1 := (cmpct_rise HSR.out).get he
    rw [sort_find HST.out] at h1
    exact List.mem_of_find?_eq_some h1
  have HML : Hid (m ≤ 70) := by
    have h1 := cmpct_length X
    rw [HS.out, HM.out, HST.out.length, HNL.out] at h1
    exact Nat.le_trans h1 HN70.out
  have HBK := hid (fun (V : World) (hV : Kp No w3 V) => back_any V _ s _ (HEV3.out.kept hV) (by have := HML.out; have := HM.out; omega))
  go_wp2_with fail
  refine (HBK.out _ (Kp.refl _ _)).mono ?_
  rintro e w4 ⟨r4, rfl, hm4⟩
  have HK4 := hid (HK3.out.andNone hm4.2.2)
  have HK34 := hid hm4.2.2
  have HEV4 := hid (ev_of_rowT (P := fun _ => True) hm4.1 (fun e he => HOK.out e (HSUB.out e he)) (fun _ _ => trivial))
  clear hm4
  obtain ⟨a4, c4, rfl, hxx⟩ := id HEV4.out
  clear hxx
  go_wp2_with fail
  refine (HRS.out _ HK4.out).mono ?_
  rintro e w5 ⟨r5, out, rfl, hso, hol, hm5⟩
  have HK5 := hid (HK4.out.andNone hm5.2.2)
  have HK35 := hid (HK34.out.andNone hm5.2.2)
  have HSO := hid hso
  have HEV5 := hid (ev_of_rowT (P := fun _ => True) hm5.1 (hso.ok HOK.out) (fun _ _ => trivial))
  have heq : s = out := by rw [← HS.out]; exact hso.eq HST.out HSR.out
  have HSA := hid (same_any w5 _ _ s out _ _ (HEV4.out.kept hm5.2.2) HEV5.out (by have := HML.out; have := HM.out; omega))
  rw [decide_eq_true heq] at HSA
  clear hso hol hm5 heq HRS
  obtain ⟨a5, c5, rfl, hxx⟩ := id HEV5.out
  clear hxx
  go_wp2_with fail
  refine HSA.out.mono ?_
  rintro e w6 ⟨rfl, k6⟩
  have HK6 := hid (HK5.out.andNone k6)
  have HK36 := hid (HK35.out.andNone k6)
  clear k6 HSA HEV4 HEV5
  have HS60 : Hid (∀ e ∈ s, e.1.length ≤ 1000000) := fun e he => Nat.le_trans (HN60.out e (HSUB.out e he)) (by omega)
  have HFI := hid (HFD.out w6 _ s _ (HEV3.out.kept HK36.out) (by have := HML.out; have := HM.out; omega) HS60.out)
  clear HFD
  go_wp2_with fail
  refine HFI.out.mono ?_
  rintro e w7 ⟨⟨y, b, rfl, hb1, hb2, hb3⟩, k7⟩
  have HK7 := hid (HK6.out.andNone k7)
  have HK37 := hid (HK36.out.andNone k7)
  have HB1 := hid hb1
  have HYT := hid hb2
  have HYF := hid hb3
  have HYO : Hid (EOk y) := by
    cases b with
    | true => exact HOK.out _ (HSUB.out _ (hb2 rfl).1)
    | false => rw [hb3 rfl]; exact zEn_ok
  obtain ⟨CY, hCY⟩ : ∃ C, entC y = C := ⟨_, rfl⟩
  have HCY := hid hCY
  have hcl : CY.length = 34 := by rw [← hCY]; exact entC_length HYO.out
  have HIY : Hid ((Try.prog.info? 70).map (·.size) = some CY.length) := by rw [Hid, ← hCY]; exact inf HYO.out
  have HOY : Hid (CY.toArray.all (·.oneCell') = true) := by rw [Hid, ← hCY]; exact all_oneCell_toArray (entC_one y)
  rw [hCY]
  clear hb1 hb2 hb3 k7 hCY HFI
  go_wp2_with (refine wpList_store_box (fun W => ∀ V, Kp No W V → V.rangeAt w7.heap.size 0 CY ∧ Kp No w7 V) (by rfl) 70 _ _ (by rfl) w7.heap.size 0 CY.toArray (by rfl) (by rfl) (thereE w7 _ _ _ (by rw [List.size_toArray, hcl]; exact Nat.le_refl _)) HIY.out HOY.out (boxE w7 _ CY rfl hcl) ?_; intro W1 hW1; have HW1 := hid hW1; clear hW1)
  have HKW : Hid (Kp No w3 W1) := HK37.out.andNone (HW1.out W1 (Kp.refl _ _)).2
  have HBW : Hid (Below w.heap.size w W1) := (HK7.out.andNone (HW1.out W1 (Kp.refl _ _)).2).toBelow'
  have HRD := hid (fun (V : World) (r : Value) (Q : Nat → Prop) (hr : EV Q V r s) => rightDir_any V r s Q hr (by have := HML.out; have := HM.out; omega) HS60.out)
  go_loopw [8] (fun v8 wr => ∃ (k : Nat), v8 = .int .i64 (k : Int) ∧ k ≤ m ∧ Hid (Kp No W1 wr) ∧ Hid (∀ x ∈ s.take k, x.1 ≠ h)) (fun v8 _ => m - (intOf v8).toNat)
  case atStart => exact ⟨0, rfl, Nat.zero_le _, Kp.refl _ _, by intro x hx; simp at hx⟩
  case round =>
    obtain ⟨k, rfl, hkn, HKR, HNO⟩ := hrel
    by_cases hlt : k < m
    · have hltI : (k : Int) < (m : Int) := by omega
      have hwk : IntKind.i64.wrap ((k : Int) + 1) = ((k + 1 : Nat) : Int) := by have := HML.out; rw [IntKind.wrap_i64]; omega
      have HKB := hid (HBK.out wr (HKW.out.andNone HKR.out))
      go_wp2_with fail
      refine HKB.out.mono ?_
      rintro e w8 ⟨r8, rfl, hm8⟩
      have HK8 : Hid (Kp No W1 w8) := HKR.out.andNone hm8.2.2
      have HEV8 := hid (ev_of_rowT (P := fun _ => True) hm8.1 (fun e he => HOK.out e (HSUB.out e he)) (fun _ _ => trivial))
      clear hm8 HKB
      have HR8 := hid (HRD.out w8 r8 _ HEV8.out)
      obtain ⟨a8, c8, rfl, hxx⟩ := id HEV8.out
      clear hxx
      go_wp2_with fail
      refine HR8.out.mono ?_
      rintro e w9 ⟨⟨rb, rfl, hrb⟩, k9⟩
      have HRB := hid hrb
      have HK9 : Hid (Kp No W1 w9) := HK8.out.andNone k9
      clear hrb k9 HR8 HEV8
      cases rb with
      | false =>
        have hbf : b = false := by
          cases b with
          | false => rfl
          | true => have := HRB.out.2 (HB1.out.1 rfl).1; cases this
        subst hbf
        have hyz := HYF.out rfl
        subst hyz
        have HR9 := hid (HW1.out w9 HK9.out).1
        have HBE : Hid (Below w.heap.size w w9) := HBW.out.trans (HK9.out.toBelow'.mono HBW.out.size)
        have hq : ∀ W, (Op.equalIn 10000 70 (.agg CY.toArray) (.agg CY.toArray)).run Try.prog W = .ok true W := fun W => by
          rw [← HCY.out]
          have := eqEntN zEn_ok zEn_ok W
          rwa [decide_eq_true rfl] at this
        have HB0 : Hid (Try.prog.built 70 [] = some CY.toArray) := by rw [Hid, ← HCY.out]; exact built0
        go_wp2_with (refine wpList_bare (by rfl) ?_; first | (refine wpList_load_mid (by rfl) 70 _ (by rfl) w7.heap.size 0 (by rfl) CY _ HR9.out Try.underlying70 rfl HIY.out ?_) | (refine wpList_build0 (by rfl) 70 (by rfl) CY.toArray HB0.out ?_))
        refine (alive_any _).mono ?_
        rintro e wA ⟨rfl, hbA⟩
        have HBA := hid (HBE.out.trans (hbA.mono HBE.out.size))
        clear hbA
        go_wp2_with fail
        go_ret
        exact ⟨rfl, HBA.out⟩
      | true =>
        obtain ⟨x, hx⟩ : ∃ x, s[k]? = some x := ⟨_, List.getElem?_eq_getElem (by rw [HM.out]; exact hlt)⟩
        have hxs : x ∈ s := List.mem_of_getElem? hx
        obtain ⟨g, o, rfl, _, hr⟩ := ev_row HEV3.out (by intro e; rw [e] at hx; simp at hx)
        have HROW : Hid (∀ V, Kp No W1 V → EOk x ∧ V.rangeAt g (o + k * 34) (entC x)) := fun V hV => (hr.kp (HKW.out.andNone hV) (fun x => x)).2 k x hx
        have HRP : Hid (RightP s) := HRB.out.1 (by trivial)
        have HX := hid hx
        have HXS := hid hxs
        have hc0 : w9.cell? ⟨g, o + k * 34, none⟩ = some (.string (txt x.1)) := (HROW.out w9 HK9.out).2 0 _ rfl
        obtain ⟨TX, hTX⟩ : ∃ T, txt x.1 = T := ⟨_, rfl⟩
        have hsq : (TX.toList == T.toList) = decide (x.1 = h) := by
          rw [← hTX, ← HT.out, str_eq8, decide_eq_decide]
          exact txt_inj (HOK.out _ (HSUB.out _ hxs)).1 HB.out
        rw [hTX] at hc0
        clear hx hxs hr hTX
        by_cases hxh : x.1 = h
        · have hdf : decide (x.1 = h) = true := decide_eq_true hxh
          rw [hdf] at hsq
          clear hdf
          have hbt : b = true := HB1.out.2 ⟨HRP.out, x, HXS.out, hxh⟩
          subst hbt
          have HYX : Hid (y = x) := by
            have h1 := (cmpct_rise HSR.out).get (by rw [HS.out]; exact (HYT.out rfl).1)
            have h2 := (cmpct_rise HSR.out).get (by rw [HS.out]; exact HXS.out)
            rw [(HYT.out rfl).2, ← hxh] at h1
            rw [h1] at h2
            exact Option.some.inj h2
          have HRY : Hid (∀ V, Kp No W1 V → V.rangeAt g (o + k * 34) CY) := fun V hV => by
            rw [← HCY.out, HYX.out]
            exact (HROW.out V hV).2
          have HRX : Hid (∀ V, Kp No W1 V → V.rangeAt w7.heap.size 0 CY) := fun V hV => (HW1.out V hV).1
          have HQ : Hid (∀ W, (Op.equalIn 10000 70 (.agg CY.toArray) (.agg CY.toArray)).run Try.prog W = .ok true W) := fun W => by
            rw [← HCY.out]
            have := eqEntN HYO.out HYO.out W
            rwa [decide_eq_true rfl] at this
          have hq := HQ.out
          clear HYT HYF HB1 hxh
          go_wp2_with fail
          refine wp_region_held_drew (S := fun V => Kp No W1 V) (by kernel_rfl) (HK9.out.drew) (fun hHeld => ?_)
          refine wpAnyH_take (i := 0) (oi := { dst := some 53, op := Op.move (Operand.tmp 7), type := 4, pos := "law.go:100", after := #[], guard := none }) (v := .bool true) rfl (by kernel_rfl) (by kernel_rfl) (by kernel_rfl) (fun _ _ _ h => h) (Or.inl ⟨by rfl, fun w' hw' => by (clear hw'; go_simp)⟩) hHeld ?_
          simp only [Act.put, List.setIfInBounds_toArray, List.set_cons_zero, List.set_cons_succ]
          refine wpAnyH_take (i := 1) (oi := { dst := some 54, op := Op.move (Operand.tmp 53), type := 4, pos := "law.go:100", after := #[{ on := 0, ground := Ground.data }], guard := none }) (v := .bool true) rfl (by kernel_rfl) (by kernel_rfl) (by kernel_rfl) (fun _ _ _ h => h) (Or.inl ⟨by rfl, fun w' hw' => by (clear hw'; go_simp)⟩) hHeld ?_
          simp only [Act.put, List.setIfInBounds_toArray, List.set_cons_zero, List.set_cons_succ]
          refine wpAnyH_take (i := 2) (oi := { dst := some 55, op := Op.load 70 (Operand.tmp 6), type := 70, pos := "law.go:100", after := #[{ on := 1, ground := Ground.guard }], guard := some (1, true) }) (v := .agg CY.toArray) rfl (by kernel_rfl) (by kernel_rfl) (by kernel_rfl) (fun _ _ _ h => h) (yieldsIf_load_mid (by rfl) _ _ rfl w7.heap.size 0 rfl CY _ (HRX.out) Try.underlying70 rfl HIY.out) hHeld ?_
          simp only [Act.put, List.setIfInBounds_toArray, List.set_cons_zero, List.set_cons_succ]
          refine wpAnyH_take (i := 3) (oi := { dst := some 56, op := Op.move (Operand.tmp 5), type := 40, pos := "law.go:100", after := #[{ on := 1, ground := Ground.guard }], guard := some (1, true) }) (v := .slice (some ⟨g, o, none⟩) m c3) rfl (by kernel_rfl) (by kernel_rfl) (by kernel_rfl) (fun _ _ _ h => h) (Or.inl ⟨by rfl, fun w' hw' => by (clear hw'; go_simp)⟩) hHeld ?_
          simp only [Act.put, List.setIfInBounds_toArray, List.set_cons_zero, List.set_cons_succ]
          refine wpAnyH_take (i := 4) (oi := { dst := some 57, op := Op.move (Operand.tmp 8), type := 3, pos := "law.go:100", after := #[{ on := 1, ground := Ground.guard }], guard := some (1, true) }) (v := .int .i64 (k : Int)) rfl (by kernel_rfl) (by kernel_rfl) (by kernel_rfl) (fun _ _ _ h => h) (Or.inl ⟨by rfl, fun w' hw' => by (clear hw'; go_simp)⟩) hHeld ?_
          simp only [Act.put, List.setIfInBounds_toArray, List.set_cons_zero, List.set_cons_succ]
          refine wpAnyH_take (i := 5) (oi := { dst := some 58, op := Op.indexAddr 40 (Operand.tmp 56) (Operand.tmp 57), type := 0, pos := "law.go:100", after := #[{ on := 3, ground := Ground.data }, { on := 4, ground := Ground.data }, { on := 1, ground := Ground.guard }], guard := some (1, true) }) (v := .pointer (some ⟨g, o + k * 34, none⟩)) rfl (by kernel_rfl) (by kernel_rfl) (by kernel_rfl) (fun _ _ _ h => h) (Or.inl ⟨by rfl, fun w' hw' => by (clear hw'; go_simp)⟩) hHeld ?_
          simp only [Act.put, List.setIfInBounds_toArray, List.set_cons_zero, List.set_cons_succ]
          refine wpAnyH_take (i := 6) (oi := { dst := some 59, op := Op.load 70 (Operand.tmp 58), type := 70, pos := "law.go:100", after := #[{ on := 5, ground := Ground.data }, { on := 1, ground := Ground.guard }], guard := some (1, true) }) (v := .agg CY.toArray) rfl (by kernel_rfl) (by kernel_rfl) (by kernel_rfl) (fun _ _ _ h => h) (yieldsIf_load_mid (by rfl) _ _ rfl g (o + k * 34) rfl CY _ (HRY.out) Try.underlying70 rfl HIY.out) hHeld ?_
          simp only [Act.put, List.setIfInBounds_toArray, List.set_cons_zero, List.set_cons_succ]
          refine wpAnyH_take (i := 7) (oi := { dst := some 60, op := Op.binOp BinOp.eql 70 (Operand.tmp 55) (Operand.tmp 59) 70, type := 4, pos := "law.go:100", after := #[{ on := 2, ground := Ground.data }, { on := 6, ground := Ground.data }, { on := 1, ground := Ground.guard }], guard := some (1, true) }) (v := .bool true) rfl (by kernel_rfl) (by kernel_rfl) (by kernel_rfl) (fun _ _ _ h => h) (Or.inl ⟨by rfl, fun w' hw' => by (clear hw'; go_simp)⟩) hHeld ?_
          simp only [Act.put, List.setIfInBounds_toArray, List.set_cons_zero, List.set_cons_succ]
          refine wpAnyH_take (i := 8) (oi := { dst := some 61, op := Op.pick (Operand.tmp 54) (Operand.tmp 60) (Operand.const (Value.bool false)), type := 4, pos := "law.go:100", after := #[{ on := 1, ground := Ground.data }, { on := 7, ground := Ground.data }], guard := none }) (v := .bool true) rfl (by kernel_rfl) (by kernel_rfl) (by kernel_rfl) (fun _ _ _ h => h) (Or.inl ⟨by rfl, fun w' hw' => by (clear hw'; go_simp)⟩) hHeld ?_
          simp only [Act.put, List.setIfInBounds_toArray, List.set_cons_zero, List.set_cons_succ]
          refine wpAnyH_take (i := 9) (oi := { dst := some 62, op := Op.move (Operand.tmp 61), type := 4, pos := "law.go:100", after := #[{ on := 8, ground := Ground.data }, { on := 1, ground := Ground.chain }], guard := none }) (v := .bool true) rfl (by kernel_rfl) (by kernel_rfl) (by kernel_rfl) (fun _ _ _ h => h) (Or.inl ⟨by rfl, fun w' hw' => by (clear hw'; go_simp)⟩) hHeld ?_
          simp only [Act.put, List.setIfInBounds_toArray, List.set_cons_zero, List.set_cons_succ]
          refine wpAnyH_ready (rs := [10]) (by kernel_rfl) (by simp) ?_
          refine (AllReadyH.cons (o := { dst := some 63, op := Op.call { callee := Callee.value (Operand.func 8), args := #[], argTypes := #[] }, type := 4, pos := "law.go:100", after := #[{ on := 9, ground := Ground.chain }, { on := 9, ground := Ground.guard }], guard := some (9, true) }) rfl (fun K hK => ?_) AllReadyH.nil)
          go_simp
          refine (alive_any _).mono ?_
          rintro e' wA ⟨rfl, hbA⟩
          have HKA : Hid (Kp No W1 wA) := HK9.out.drew.andNone (Kp.below hbA)
          clear hbA
          go_wp2_with fail
          refine hK.out _ _ (HKA.out) (fun hh => ?_)
          clear hK K hHeld
          have hHeld := hh
          clear hh
          try simp only [Act.put, List.setIfInBounds_toArray, List.set_cons_zero, List.set_cons_succ]
          refine wpAnyH_take (i := 11) (oi := { dst := some 64, op := Op.pick (Operand.tmp 62) (Operand.tmp 63) (Operand.const (Value.bool false)), type := 4, pos := "law.go:100", after := #[{ on := 9, ground := Ground.data }, { on := 10, ground := Ground.data }], guard := none }) (v := .bool true) rfl (by kernel_rfl) (by kernel_rfl) (by kernel_rfl) (fun _ _ _ h => h) (Or.inl ⟨by rfl, fun w' hw' => by (clear hw'; go_simp)⟩) hHeld ?_
          simp only [Act.put, List.setIfInBounds_toArray, List.set_cons_zero, List.set_cons_succ]
          refine wpAnyH_take (i := 12) (oi := { dst := some 4, op := Op.assign (Operand.tmp 64), type := 4, pos := "law.go:100", after := #[{ on := 11, ground := Ground.data }, { on := 10, ground := Ground.chain }, { on := 0, ground := Ground.phase }, { on := 1, ground := Ground.phase }, { on := 2, ground := Ground.phase }, { on := 3, ground := Ground.phase }, { on := 4, ground := Ground.phase }, { on := 5, ground := Ground.phase }, { on := 6, ground := Ground.phase }, { on := 7, ground := Ground.phase }, { on := 8, ground := Ground.phase }, { on := 9, ground := Ground.phase }, { on := 10, ground := Ground.phase }, { on := 11, ground := Ground.phase }], guard := none }) (v := .bool true) rfl (by kernel_rfl) (by kernel_rfl) (by kernel_rfl) (fun _ _ _ h => h) (Or.inl ⟨by rfl, fun w' hw' => by (clear hw'; go_simp)⟩) hHeld ?_
          simp only [Act.put, List.setIfInBounds_toArray, List.set_cons_zero, List.set_cons_succ]
          refine wpAnyH_done (by kernel_rfl) ?_ _
          clear hHeld
          go_wp2_with fail
          go_ret
          exact ⟨rfl, HBW.out.trans (HKA.out.toBelow'.mono HBW.out.size)⟩
        · have hdf : decide (x.1 = h) = false := decide_eq_false_iff_not.2 hxh
          rw [hdf] at hsq
          clear hdf
          have HN2 : Hid (∀ z ∈ s.take (k + 1), z.1 ≠ h) := fun z hz => by
            rw [List.take_add_one, HX.out] at hz
            rcases List.mem_append.1 hz with hz | hz
            · exact HNO.out z hz
            · have hz2 : z = x := by simpa using hz
              rw [hz2]
              exact hxh
          go_wp2_with fail
          go_round
          case rel => exact ⟨k + 1, by first | rfl | go_num, by omega, HK9.out, HN2.out⟩
          case measure => simp [intOf]; omega
    · have hltI : ¬ (k : Int) < (m : Int) := by omega
      have hltb : decide ((k : Int) < (m : Int)) = false := by simpa using hltI
      have hkn' : k = m := by omega
      have hbf : b = false := by
        cases b with
        | false => rfl
        | true =>
          obtain ⟨_, z, hz, hzh⟩ := HB1.out.1 rfl
          exact absurd hzh (HNO.out z (by rw [hkn', ← HM.out, List.take_length]; exact hz))
      subst hbf
      have hyz := HYF.out rfl
      subst hyz
      have HR9 := hid (HW1.out wr HKR.out).1
      have HBE : Hid (Below w.heap.size w wr) := HBW.out.trans (HKR.out.toBelow'.mono HBW.out.size)
      have hq : ∀ W, (Op.equalIn 10000 70 (.agg CY.toArray) (.agg CY.toArray)).run Try.prog W = .ok true W := fun W => by
        rw [← HCY.out]
        have := eqEntN zEn_ok zEn_ok W
        rwa [decide_eq_true rfl] at this
      have HB0 : Hid (Try.prog.built 70 [] = some CY.toArray) := by rw [Hid, ← HCY.out]; exact built0
      clear hkn' hkn
      go_wp2_with (refine wpList_bare (by rfl) ?_; first | (refine wpList_load_mid (by rfl) 70 _ (by rfl) w7.heap.size 0 (by rfl) CY _ HR9.out Try.underlying70 rfl HIY.out ?_) | (refine wpList_build0 (by rfl) 70 (by rfl) CY.toArray HB0.out ?_))
      refine (alive_any _).mono ?_
      rintro e wA ⟨rfl, hbA⟩
      have HBA := hid (HBE.out.trans (hbA.mono HBE.out.size))
      clear hbA
      go_wp2_with fail
      go_ret
      exact ⟨rfl, HBA.out⟩
end Go.Proofs.Ytenfahecnkdhaaa.Nd
end
