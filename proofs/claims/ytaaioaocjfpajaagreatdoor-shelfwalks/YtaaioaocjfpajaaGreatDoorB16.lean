/- Of the proof: the texts ShOwn, ShWalksM, ShLayN, ShWalksS, ShGet, ShNil2, ShRead, one behind the other. -/
import Derived.Test.YtaaioaocjfpajaaGreatDoorB14
import Derived.Test.YtaaioaocjfpajaaGreatDoorB7
import Derived.Test.YtaaioaocjfpajaaGreatDoorB13
import Derived.Test.YtaaioaocjfpajaaGreatDoorB15
import Derived.Test.YtaaioaocjfpajaaGreatDoorB3
import Derived.Test.YtaaioaocjfpajaaGreatDoorB12
import Derived.Test.YtaaioaocjfpajaaGreatDoorB10
section
/-
  law09's Own: records as the program's.
-/
namespace Go.Proofs.YtaaioaocjfpajaaGreatDoor.Sh
open Go.RowKit Go.Shelf
open Tlv (BySlS)
open Sim (hid Kp No Blk Row)

def elS (zs : List El) : List Value := zs.flatMap elC
theorem elS_snoc (zs : List El) (z : El) : elS (zs ++ [z]) = elS zs ++ elC z := by simp [elS]
theorem infoF : (Tryz.prog.info? 56).map (fun i => (i.zero, i.size, i.bytes)) = some (some (.agg zRec.toArray), 34, 64) := by kernel_rfl
theorem run_oneF (z : El) (hz : elOk z) (w : World) : (Instr.buildSlice 39 1 #[(0, .agg (elC z).toArray)]).run Tryz.prog w = .ok (.slice (some ⟨w.heap.size, 0, none⟩) 1 1) (w.alloc (.cells (elC z).toArray 56)) := by
  obtain ⟨⟨k, nmr, bs⟩, a, c⟩ := z
  have hn : nmr.length = 32 := hz.1
  show (Instr.buildSlice 39 1 #[(0, .agg (recA k nmr (.slice a bs.length c)).toArray)]).run Tryz.prog w = .ok (.slice (some ⟨w.heap.size, 0, none⟩) 1 1) (w.alloc (.cells (recA k nmr (.slice a bs.length c)).toArray 56))
  clear hz
  generalize bs.length = l
  obtain ⟨x0, x1, x2, x3, x4, x5, x6, x7, x8, x9, x10, x11, x12, x13, x14, x15, x16, x17, x18, x19, x20, x21, x22, x23, x24, x25, x26, x27, x28, x29, x30, x31, rfl⟩ := ex32 hn
  kernel_rfl
theorem elS_get (zs : List El) (hz : ∀ z ∈ zs, elOk z) : ∀ i z, zs[i]? = some z → ∀ j u, (elC z)[j]? = some u → (elS zs)[i * 34 + j]? = some u := by
  induction zs with
  | nil => intro i z h; simp at h
  | cons y zs ih =>
    intro i z h j u hu
    have hy := elC_length (hz y List.mem_cons_self)
    have e : elS (y :: zs) = elC y ++ elS zs := by simp [elS]
    rw [e]
    cases i with
    | zero =>
      simp at h
      subst h
      have hj := (List.getElem?_eq_some_iff.1 hu).1
      rw [Nat.zero_mul, Nat.zero_add, List.getElem?_append_left hj]
      exact hu
    | succ i =>
      rw [List.getElem?_append_right (by omega), hy, show (i + 1) * 34 + j - 34 = i * 34 + j by omega]
      exact ih (fun z hz' => hz z (List.mem_cons_of_mem _ hz')) i z (by simpa using h) j u hu
/-- A row of one's own, as records that are read. -/
theorem row_rv {S : Nat → Prop} {w : World} {u : Value} {zs : List El} (h : Row w 56 34 u zs.length (elS zs)) (hz : ∀ z ∈ zs, elOk z ∧ BySlS (fun g => S g ∧ g < w.heap.size) w (elV z) z.1.2.2) : RV (fun g => S g ∨ u.ownBlock = some g) w u zs := by
  obtain ⟨a, c, rfl, h1, h2, h3, h4⟩ := h.shape
  refine ⟨a, c, rfl, h1, h2, fun e => ⟨List.length_eq_zero_iff.1 (h3 e).1, (h3 e).2⟩, fun z hz' => ⟨(hz z hz').1, BySlS.mono (hz z hz').2 (S' := fun g' => (S g' ∨ (Value.slice a zs.length c).ownBlock = some g') ∧ g' < w.heap.size) (fun g hg => ⟨.inl hg.1, hg.2⟩)⟩, fun hne => ?_⟩
  cases a with
  | none => exact absurd (List.length_eq_zero_iff.1 (h3 rfl).1) hne
  | some x =>
    obtain ⟨g, o, sp⟩ := x
    obtain ⟨rfl, rfl⟩ : sp = none ∧ o = 0 := h4 _ rfl
    refine ⟨g, 0, rfl, .inr rfl, h.lt g rfl, fun i z hz' j v hv => ?_⟩
    have hj := elS_get zs (fun z hz => ((‹∀ z ∈ zs, elOk z ∧ _› z hz).1)) i z hz' j v hv
    rw [Nat.zero_add, h.cellAt _ (by have := (List.getElem?_eq_some_iff.1 hj).1; have := h.1; omega)]
    exact hj

/-- Records that are read, wherever their row ends. -/
def RW (S : Nat → Prop) (w : World) (v : Value) (zs : List El) : Prop :=
  ∃ a c, v = .slice a zs.length c ∧ (∀ z ∈ zs, elOk z ∧ BySlS (fun g => S g ∧ g < w.heap.size) w (elV z) z.1.2.2) ∧ (∀ i z, zs[i]? = some z → ∃ g o, a = some ⟨g, o, none⟩ ∧ S g ∧ g < w.heap.size ∧ w.rangeAt g (o + i * 34) (elC z))
theorem RV.rw {S : Nat → Prop} {w : World} {v : Value} {zs : List El} (h : RV S w v zs) : RW S w v zs := by
  obtain ⟨a, c, rfl, _, _, _, h4, h5⟩ := h
  refine ⟨a, c, rfl, h4, fun i z hz => ?_⟩
  obtain ⟨g, o, e, hg, hl, hr⟩ := h5 (fun e => by rw [e] at hz; simp at hz)
  exact ⟨g, o, e, hg, hl, hr i z hz⟩
theorem RW.kept {S : Nat → Prop} {w w' : World} {v : Value} {zs : List El} (h : RW S w v zs) (k : Kp No w w') : RW S w' v zs := by
  obtain ⟨a, c, rfl, h4, h5⟩ := h
  refine ⟨a, c, rfl, fun z hz => ⟨(h4 z hz).1, (h4 z hz).2.agree (fun g hg => k.block g hg.2 (fun e => e)) (fun g hg => ⟨hg.1, Nat.lt_of_lt_of_le hg.2 k.size⟩)⟩, fun i z hz => ?_⟩
  obtain ⟨g, o, e, hg, hl, hr⟩ := h5 i z hz
  exact ⟨g, o, e, hg, Nat.lt_of_lt_of_le hl k.size, rangeAt_below hr k.toBelow' hl⟩

set_option maxHeartbeats 4000000 in
set_option maxRecDepth 100000 in
theorem own9_any {S : Nat → Prop} (w : World) (v : Value) (zs : List El) (hv : RW S w v zs) (hl : zs.length ≤ 100000) :
    Calls Tryz.prog 11 #[v] w fun e w' => ∃ u, e = .returned u ∧ Row w' 56 34 u zs.length (elS zs) ∧ (∀ x, u.ownBlock = some x → w.heap.size ≤ x) ∧ Kp No w w' := by
  have HV := hid hv
  obtain ⟨a, c, rfl, _⟩ := hv
  obtain ⟨n, hn⟩ : ∃ n, zs.length = n := ⟨_, rfl⟩
  have HN := hid hn
  rw [hn] at HV hl ⊢
  clear hn
  go_enter Tryz.func11, Tryz.ntmps11
  go_wp2_with fail
  go_loopw [3, 4] (fun vo vi wr => ∃ (k : Nat) (ad : Option Addr) (cap : Nat), k ≤ n ∧ vi = .int .i64 (k : Int) ∧ vo = .slice ad k cap ∧ Hid (Row wr 56 34 (.slice ad k cap) k (elS (zs.take k)) ∧ (∀ x, (Value.slice ad k cap).ownBlock = some x → w.heap.size ≤ x) ∧ Kp No w wr)) (fun _ vi _ => n - (intOf vi).toNat)
  case atStart => exact ⟨0, none, 0, Nat.zero_le _, rfl, rfl, Sim.Row.nil _ _ _, by intro x hx; simp [Value.ownBlock] at hx, Kp.refl _ _⟩
  case round =>
    obtain ⟨k, ad, cap, hk, rfl, rfl, HS⟩ := hrel
    by_cases hlt : k < n
    · have hltI : (k : Int) < (n : Int) := by omega
      obtain ⟨z, hz⟩ : ∃ z, zs[k]? = some z := ⟨_, List.getElem?_eq_getElem (by rw [HN.out]; exact hlt)⟩
      have hvr := HV.out.kept HS.out.2.2
      obtain ⟨a', c', e', h4, h5⟩ := id hvr
      simp only [Value.slice.injEq] at e'
      obtain ⟨rfl, en, rfl⟩ := e'
      obtain ⟨g, o, rfl, _, hgl, hrg⟩ := h5 k z hz
      have HRG := hid hrg
      have hzo := (h4 z (List.mem_of_getElem? hz)).1
      have hcl := elC_length hzo
      have HOW := hid (fun V => own11_any z.1.1 z.1.2.1 z.2.1 z.1.2.2.length z.2.2 V hzo.1)
      have HN1 := hid (fun V => run_oneF z hzo V)
      have HO1 := hid (elC_one z)
      have HTK : Hid (elS (zs.take (k + 1)) = elS (zs.take k) ++ elC z) := by rw [Hid, List.take_add_one, hz]; exact elS_snoc _ _
      obtain ⟨cx, hcx⟩ : ∃ cx, elC z = cx := ⟨_, rfl⟩
      have hcx' : recA z.1.1 z.1.2.1 (.slice z.2.1 z.1.2.2.length z.2.2) = cx := hcx
      rw [hcx] at HRG HN1 HO1 hcl HTK
      rw [hcx'] at HOW
      have HI : Hid ((Tryz.prog.info? 68).map (·.size) = some cx.length) := by rw [Hid, hcl]; exact Tryz.info26
      clear en hz hvr h4 h5 hrg hzo hcx hcx'
      go_wp2_with (refine wpList_load_mid (by rfl) 68 _ (by rfl) g (o + k * 34) (by rfl) cx _ HRG.out Tryz.underlying68 rfl HI.out ?_)
      refine (HOW.out _).mono ?_
      rintro e w2 ⟨rfl, hB⟩
      have hk2 : Kp No wr w2 := Kp.below hB
      have hal : Kp No w2 (w2.alloc (.cells cx.toArray 56)) := (Kp.refl No w2).alloc _
      have HK2 := hid (And.intro hk2 hal)
      have HR5 := hid ((HS.out.1.kept hk2).kept hal)
      have HSRC : Hid (Sim.Src (w2.alloc (.cells cx.toArray 56)) (.slice (some ⟨w2.heap.size, 0, none⟩) 1 1) 1 34 cx) := Sim.Src.one w2 cx 34 56 hcl HO1.out
      clear hB hk2 hal HOW
      go_wp2_with (first
        | (refine wpList_val (by rfl) (exec_slice1 39 _ (by rfl) (.agg cx.toArray) _ (by rfl) (HN1.out _)) ?_)
        | (refine Sim.app_row _ (by rfl) _ _ 39 56 (.agg zRec.toArray) 34 64 (by rfl) Tryz.underlying39 infoF rfl (by omega) (.slice ad k cap) (.slice (some ⟨w2.heap.size, 0, none⟩) 1 1) k 1 (elS (zs.take k)) cx (by rfl) (by rfl) HR5.out HSRC.out (by omega) (by omega) ?_; intro ad2 cap2 w6 hrow6 hgr6 hown6))
      refine ⟨⟨k + 1, ad2, cap2, by omega, by go_num, rfl, ?_, ?_, ?_⟩, by simp [intOf]; omega⟩
      · rw [HTK.out]; exact hrow6
      · intro x hx
        have h1 := HK2.out.1.size
        have h2 := HK2.out.2.size
        have h3 := HS.out.2.2.size
        rcases hown6 with e | e
        · rw [e] at hx; exact HS.out.2.1 x hx
        · rw [e] at hx
          have : (w2.alloc (.cells cx.toArray 56)).heap.size = x := by simpa using hx
          omega
      · exact ((HS.out.2.2.andNone HK2.out.1).andNone HK2.out.2).grown hgr6 (fun x hx => .inr (HS.out.2.1 x hx))
    · have hltI : ¬ (k : Int) < (n : Int) := by omega
      have hkn : k = n := by omega
      subst hkn
      have HTK : Hid (zs.take k = zs) := by rw [← HN.out]; exact List.take_length
      go_wp2_with fail
      go_ret
      rw [HTK.out] at HS
      exact ⟨_, rfl, HS.out⟩

end Go.Proofs.YtaaioaocjfpajaaGreatDoor.Sh
end

section
/-
  ShelfWalks, purely: how many packs a Lay makes; what a walk tells, item by item.
-/
namespace Go.Proofs.YtaaioaocjfpajaaGreatDoor.Sh
open Go.RowKit Go.Shelf
open Tlv (BySlS)
open Sim (hid Kp No PS Blk nm Row)

theorem szE_ok {z : El} (h : okR z = true) : szE z ≤ 5049 := by
  unfold okR rightB at h
  simp at h
  unfold szE
  omega
theorem dl_two (zs : List El) (hz : ∀ z ∈ zs, szE z ≤ 5049) : 2 * (dl zs).1.length + (dl zs).2.length ≤ zs.length ∧ szs (dl zs).2 ≤ 5049 * (dl zs).2.length := by
  revert hz
  refine list_snoc (p := fun zs => (∀ z ∈ zs, szE z ≤ 5049) → 2 * (dl zs).1.length + (dl zs).2.length ≤ zs.length ∧ szs (dl zs).2 ≤ 5049 * (dl zs).2.length) zs (fun _ => by simp [dl, szs]) (fun zs z h hz => ?_)
  obtain ⟨h1, h2⟩ := h (fun y hy => hz y (by simp [hy]))
  have hzz := hz z (by simp)
  rw [dl_snoc, dlStep]
  split
  · simp only [List.length_append, List.length_singleton, szs_snoc]
    omega
  · rename_i hs
    have e : szs [z] = szE z := by simp [szs]
    simp only [List.length_append, List.length_singleton, e]
    omega
theorem parts_two (zs : List El) (h : zs.all okR = true) : 2 * (parts zs).length ≤ zs.length + 1 := by
  obtain ⟨h1, _⟩ := dl_two zs (fun z hz => szE_ok (List.all_eq_true.1 h z hz))
  unfold parts
  split
  · omega
  · rename_i hne
    have := List.length_pos_iff.2 hne
    rw [List.length_append, List.length_singleton]
    omega

/-- Behind a Lay, whatever came of it. -/
theorem lay_gi {P : Nat → Prop} {M m : Nat} {w w' : World} {h s b : Nat} {p0 : PS} {n0 : Int} {zs : List El} {u : Value} {φ : Nat} (hA : LayA (fun k p n => GI (m + k) p n) P M w w' h s b p0 n0 zs u φ) (h0 : GI m p0 n0) (hk : (parts zs).length ≤ 10) (hm : m + 10 < 100) :
    ∃ p n P', GI (m + 10) p n ∧ ShAt w' h s b n ∧ TabX w' b ∧ Sim.Sys P' M w' s p ∧ (∀ x, P' x → P x ∨ w.heap.size ≤ x) ∧ Kp (fun y => P y ∨ y = b ∨ y = h) w w' := by
  obtain ⟨hy, hn⟩ := hA
  by_cases hφ : φ = 0
  · obtain ⟨p, n, qs, P', h1, h2, h3, h4, h5, h6, h7, _⟩ := hy hφ
    exact ⟨p, n, P', h2.more (by omega), h3, h4, h5, h6, h7⟩
  · obtain ⟨_, ps, p, n, qs, i, x, z, P', h1, h2, h3, h4, h5, h6, h7, h8, h9, r, hr⟩ := hn hφ
    have hlen : ps.length + 1 ≤ (parts zs).length := by rw [hr, List.length_append, List.length_cons]; omega
    have g1 := GI.layR h0 h1 (by omega)
    rw [g1.max (by omega)] at h2
    have g2 := g1.2.2.1
    have g3 := g1.lpF i x z h2.symm (by omega)
    exact ⟨_, _, P', g3.1.more (by omega), h5, h6, h7, h8, h9⟩

/-! ### Items, one by one -/
theorem fs_split (X : List WI) {q K : Nat} (h : q ≤ K) : fsOf X K = fsOf X q ++ ((X.take K).drop q).filter okF := by
  unfold fsOf
  rw [← List.filter_append]
  congr 1
  have e : X.take q = (X.take K).take q := by rw [List.take_take, Nat.min_eq_left h]
  rw [e, List.take_append_drop]
theorem ls_split (X : List WI) {q K : Nat} (h : q ≤ K) : lsOf X K = lsOf X q ++ (((X.take K).drop q).filter fun y => !okF y).map fun y => (y.1 : Int) := by
  unfold lsOf
  rw [← List.map_append, ← List.filter_append]
  congr 2
  have e : X.take q = (X.take K).take q := by rw [List.take_take, Nat.min_eq_left h]
  rw [e, List.take_append_drop]
theorem fs_at {X : List WI} {q K : Nat} {y : WI} (hq : q < K) (hy : X[q]? = some y) (hf : y.2.1 = 0) : (fsOf X K)[(fsOf X q).length]? = some y := by
  rw [fs_split X (show q + 1 ≤ K by omega), (fsOf_yes hy hf).1, List.append_assoc, List.getElem?_append_right (Nat.le_refl _), Nat.sub_self]
  rfl
theorem ls_at {X : List WI} {q K : Nat} {y : WI} (hq : q < K) (hy : X[q]? = some y) (hf : y.2.1 ≠ 0) : (lsOf X K)[(lsOf X q).length]? = some (y.1 : Int) := by
  rw [ls_split X (show q + 1 ≤ K by omega), (fsOf_no hy hf).2, List.append_assoc, List.getElem?_append_right (Nat.le_refl _), Nat.sub_self]
  rfl
theorem fs_mono (X : List WI) {q K : Nat} (h : q ≤ K) : (fsOf X q).length ≤ (fsOf X K).length := by
  rw [fs_split X h, List.length_append]
  omega
/-- Where a walk ends. -/
def WD (X : List WI) (K M : Nat) : Prop := K ≤ X.length ∧ ((K = X.length ∧ (fsOf X K).length < M) ∨ ((fsOf X K).length = M ∧ (K = 0 ∨ ∃ y, X[K - 1]? = some y ∧ y.2.1 = 0)))
theorem WD.lt {X : List WI} {K M q : Nat} (h : WD X K M) (hq : q ≤ K) (hn : (fsOf X q).length < M) (hx : q < X.length) : q < K := by
  rcases Nat.lt_or_ge q K with e | e
  · exact e
  · obtain rfl : q = K := by omega
    rcases h.2 with ⟨h1, _⟩ | ⟨h1, _⟩
    · omega
    · omega
theorem WD.end' {X : List WI} {K M q : Nat} (h : WD X K M) (hq : q ≤ K) (hn : q = X.length ∨ M ≤ (fsOf X q).length) : q = K := by
  rcases Nat.lt_or_ge q K with e | e
  · exfalso
    have hK := h.1
    rcases hn with hn | hn
    · omega
    · have hm := fs_mono X (Nat.le_of_lt e)
      rcases h.2 with ⟨_, h2⟩ | ⟨h1, h2 | ⟨y, hy, hf⟩⟩
      · omega
      · omega
      · have hm2 := fs_mono X (show q ≤ K - 1 by omega)
        have h3 := (fsOf_yes hy hf).1
        rw [show K - 1 + 1 = K by omega] at h3
        rw [h3, List.length_append, List.length_singleton] at h1
        omega
  · omega

/-- What a walk leaves. -/
def WalkR (M b : Nat) (w W : World) (X : List WI) (u1 u2 : Value) : Prop :=
  ∃ (K : Nat) (Us : List UI), WD X K M ∧ Us.map (·.1) = fsOf X K ∧ Row W 58 37 u1 Us.length (fcs Us) ∧ RowZ W u2 (lsOf X K) ∧ (∀ z ∈ Us, nmOk z.1.2.2 ∧ BySlS (fun g => g ≠ b ∧ g < W.heap.size) W (uV z) (uB z)) ∧
    (∀ x, u1.ownBlock = some x → w.heap.size ≤ x) ∧ (∀ x, u2.ownBlock = some x → w.heap.size ≤ x) ∧ Kp (fun x => x = b) w W ∧ TabX W b
theorem Walked.r {m b : Nat} {w W : World} {X : List WI} {e : Ending} (h : Walked m b w W X e) : ∃ u1 u2, e = .returned (.tuple #[u1, u2]) ∧ WalkR m b w W X u1 u2 := by
  obtain ⟨K, Us, u1, u2, he, h1, h2, h3, h4, h5, h6, h7, h8, h9, h10⟩ := h
  have hl : Us.length = (fsOf X K).length := by rw [← h2, List.length_map]
  refine ⟨u1, u2, he, K, Us, ⟨h1, ?_⟩, h2, h3, h4, h5, h6, h7, h8, h9⟩
  rcases h10 with ⟨a, c⟩ | ⟨a, _, c⟩
  · exact .inl ⟨a, by omega⟩
  · exact .inr ⟨by omega, .inr c⟩
theorem WalkR.kp {M b : Nat} {w W V : World} {X : List WI} {u1 u2 : Value} (h : WalkR M b w W X u1 u2) (k : Kp (fun x => x = b) W V) (hx : TabX V b) (hb : b < w.heap.size) : WalkR M b w V X u1 u2 := by
  obtain ⟨K, Us, h1, h2, h3, h4, h5, h6, h7, h8, h9⟩ := h
  exact ⟨K, Us, h1, h2, Sim.Row.kp h3 k (fun x hx e => by have := h6 x hx; omega), Sim.Row.kp h4 k (fun x hx e => by have := h7 x hx; omega), fun z hz => ⟨(h5 z hz).1, (h5 z hz).2.agree (fun g hg => k.block g hg.2 hg.1) (fun g hg => ⟨hg.1, Nat.lt_of_lt_of_le hg.2 k.size⟩)⟩, h6, h7, h8.trans k (fun x hx => .inl hx), hx⟩

end Go.Proofs.YtaaioaocjfpajaaGreatDoor.Sh
end

section
/-
  Lay of records that are not right.
-/
namespace Go.Proofs.YtaaioaocjfpajaaGreatDoor.Sh
open Go.RowKit Go.Shelf
open Tlv (BySlS)
open Sim (hid Kp No PS Blk Row)

set_option maxHeartbeats 4000000 in
set_option maxRecDepth 100000 in
theorem lay_no {S : Nat → Prop} (w : World) (h s b : Nat) (n : Int) (v : Value) (zs : List El) (hH : ShAt w h s b n) (hv : RV S w v zs) (hok : zs.all okR = false) (hl : zs.length ≤ 1000000) :
    Calls Tryz.prog 10 #[.pointer (some ⟨h, 0, none⟩), v] w fun e w' => e = .returned (.tuple #[.slice none 0 0, .int .i64 1]) ∧ Kp No w w' := by
  have HNO := hid (fun V (hV' : Kp No w V) => none_any V h s b n (hH.kp hV' (fun x => x)))
  have HND := hid (fun V (hV' : Kp No w V) => need_no V v zs (hv.kept hV') hl hok)
  obtain ⟨a, c, rfl, _⟩ := hv
  generalize zs.length = m at *
  clear hok hH
  go_enter Tryz.func10, Tryz.ntmps10
  go_wp2_with fail
  have hk0 : Kp No w (w.alloc (.cells #[.pointer (some ⟨h, 0, none⟩)] 29)) := (Kp.refl No w).alloc _
  refine (HNO.out _ hk0).mono ?_
  rintro e w0 ⟨rfl, hw0⟩
  have HK0 : Hid (Kp No w w0) := by rw [hw0]; exact hk0
  clear hw0 hk0 HNO
  go_wp2_with fail
  refine (HND.out w0 HK0.out).mono ?_
  rintro e w1 ⟨rfl, hk1⟩
  have HK1 : Hid (Kp No w w1) := HK0.out.andNone hk1
  clear HND hk1 HK0
  go_wp2_with fail
  go_ret2
  exact ⟨rfl, HK1.out⟩

end Go.Proofs.YtaaioaocjfpajaaGreatDoor.Sh
end

section
/-
  ShelfWalks: the shelf's state through Lays and Flips, and the walk over it.
-/
namespace Go.Proofs.YtaaioaocjfpajaaGreatDoor.Sh
open Go.RowKit Go.Shelf
open Tlv (BySlS)
open Crc (Kept)
open Sim (hid Kp No PS Blk nm Row finds pBytes pList pFlip)

theorem nameZ_le (p : ByteArray) (hp : p.size ≤ 100) (z : Int) : (nameZ p z).size ≤ 20000000 := by
  by_cases h : idB z = true
  · have h' := h
    simp [idB] at h'
    obtain ⟨u, rfl⟩ := Int.eq_ofNat_of_zero_le (show 0 ≤ z by omega)
    have e : nameZ p ((u : Nat) : Int) = p ++ ⟨(Lib.decDigits u).toArray⟩ := nameZ_of (by omega) (by omega)
    have h6 := dec_six (u := u) (by omega)
    have e2 : (⟨(Lib.decDigits u).toArray⟩ : ByteArray).size = (Lib.decDigits u).length := by rw [Lib.size_eq]
    show (nameZ p ((u : Nat) : Int)).size ≤ _
    rw [e, ByteArray.size_append, e2]
    omega
  · rw [nameZ, if_neg h]
    decide

/-- The shelf h, of the files s, with the table b, all made since w. -/
def StP (w : World) (h s b m N : Nat) (V : World) (p : PS) (n : Int) (P : Nat → Prop) : Prop :=
  GI m p n ∧ ShAt V h s b n ∧ TabX V b ∧ Sim.Sys P N V s p ∧ (∀ x, P x → w.heap.size ≤ x) ∧ ¬ P b ∧ ¬ P h ∧ Kp No w V
def St (w : World) (h s b m N : Nat) (V : World) : Prop := ∃ p n P, StP w h s b m N V p n P
theorem StP.kept {w V W : World} {h s b m N : Nat} {p : PS} {n : Int} {P : Nat → Prop} (hs : StP w h s b m N V p n P) (k : Kp No V W) : StP w h s b m N W p n P := by
  obtain ⟨h1, h2, h3, h4, h5, h6, h7, h8⟩ := hs
  exact ⟨h1, h2.kp k (fun x => x), h3.kp k (fun x => x), h4.kept k, h5, h6, h7, h8.andNone k⟩
theorem StP.kb {w V W : World} {h s b m N : Nat} {p : PS} {n : Int} {P : Nat → Prop} (hs : StP w h s b m N V p n P) (k : Kp (fun x => x = b) V W) (hx : TabX W b) (hhb : h ≠ b) (hb : w.heap.size ≤ b) : StP w h s b m N W p n P := by
  obtain ⟨h1, h2, h3, h4, h5, h6, h7, h8⟩ := hs
  exact ⟨h1, h2.kp k hhb, hx, h4.kp k (fun x hx hp => h6 (hx ▸ hp)), h5, h6, h7, h8.trans k (fun x hx => .inr (by omega))⟩
theorem St.kept {w V W : World} {h s b m N : Nat} (hs : St w h s b m N V) (k : Kp No V W) : St w h s b m N W := by
  obtain ⟨p, n, P, h1⟩ := hs
  exact ⟨p, n, P, h1.kept k⟩
theorem St.kp {w V : World} {h s b m N : Nat} (hs : St w h s b m N V) : Kp No w V := by
  obtain ⟨p, n, P, _, _, _, _, _, _, _, h8⟩ := hs
  exact h8
theorem St.more {w V : World} {h s b m N m' N' : Nat} (hs : St w h s b m N V) (h1 : m ≤ m') (h2 : N ≤ N') (h3 : N' ≤ 1000) : St w h s b m' N' V := by
  obtain ⟨p, n, P, g1, g2, g3, g4, g5⟩ := hs
  exact ⟨p, n, P, g1.more h1, g2, g3, g4.more h2 h3, g5⟩

set_option maxHeartbeats 1000000 in
/-- A Lay, whatever comes of it. -/
theorem lay_st {w V0 V : World} {h s b m N : Nat} (hst : St w h s b m N V0) (k : Kp No V0 V) (hhb : h ≠ b) (hb : w.heap.size ≤ b) (hh : w.heap.size ≤ h) (hV : Vars w) (u : Value) (ys : List El) (hn : ys.length ≤ 20) (hrow : Row V 56 34 u ys.length (elS ys))
    (hown : ∀ x, u.ownBlock = some x → V0.heap.size ≤ x) (hz : ∀ z ∈ ys, elOk z ∧ BySlS (fun g => g < w.heap.size) V (elV z) z.1.2.2) (hm : m + 10 < 100) (hN : N + 120 ≤ 1000) :
    Calls Tryz.prog 10 #[.pointer (some ⟨h, 0, none⟩), u] V fun e w' => (∃ v φ, e = .returned (.tuple #[v, .int .i64 φ])) ∧ St w h s b (m + 10) (N + 120) w' := by
  obtain ⟨p, n, P, hG, hH, hT, hS, hP, hPb, hPh, hk⟩ := hst
  have hkV := hk.andNone k
  have hs0 := hk.size
  have hs1 := k.size
  have hPl := hS.lt
  have hbl := hT.lt
  have hhl := hH.lt
  have hrv := row_rv (S := fun g => g < w.heap.size) hrow (fun z hz' => ⟨(hz z hz').1, BySlS.mono (hz z hz').2 (fun g hg => ⟨hg, by omega⟩)⟩)
  have hnn := hG.2.1
  have hnm := hG.2.2.1
  by_cases hok : ys.all okR = true
  · have hp2 := parts_two ys hok
    obtain ⟨i, hi⟩ : ∃ i : Nat, (i : Int) = n + 1 := ⟨(n + 1).toNat, by omega⟩
    refine (lay_yes (P := P) (S := fun g => g < w.heap.size ∨ u.ownBlock = some g) (N := N) (K := 10) (G := fun k p n => GI (m + k) p n) V h s b n p i u ys (GI.pre m 10 hm) (by omega) hG (hH.kp k (fun x => x)) (hS.kept k) (hT.kp k (fun x => x)) hPb hPh hhb
      (fun V' k' => Vars.kept hV (hkV.trans k' (fun y hy => .inr (by
        rcases hy with hy | hy | hy
        · exact hP y hy
        · omega
        · omega)))) (fun x hx => by have := hG.nlen (by omega) x hx; omega) (by have := hG.ilen; omega) (by rw [hG.max (by omega)]; omega) (by omega) hrv (fun y hy => ?_) hok (by omega)).mono ?_
    · rcases hy with hy | hy
      · refine ⟨fun e => ?_, by omega⟩
        rcases e with e | e | e
        · have := hP y e; omega
        · omega
        · omega
      · have h1 := hown y hy
        have h2 := hrow.lt y hy
        refine ⟨fun e => ?_, h2⟩
        rcases e with e | e | e
        · have := hPl y e; omega
        · omega
        · omega
    · rintro e w' ⟨u', φ, rfl, hA⟩
      obtain ⟨p2, n2, P2, g1, g2, g3, g4, g5, g6⟩ := lay_gi hA hG (by omega) hm
      refine ⟨⟨_, _, rfl⟩, p2, n2, P2, g1, g2, g3, g4.more (by omega) hN, fun x hx => ?_, fun e => ?_, fun e => ?_, ?_⟩
      · rcases g5 x hx with e | e
        · exact hP x e
        · omega
      · rcases g5 b e with e | e
        · exact hPb e
        · omega
      · rcases g5 h e with e | e
        · exact hPh e
        · omega
      · exact hkV.trans g6 (fun y hy => .inr (by
          rcases hy with hy | hy | hy
          · exact hP y hy
          · omega
          · omega))
  · have hok' : ys.all okR = false := by simpa using hok
    refine (lay_no V h s b n u ys (hH.kp k (fun x => x)) hrv hok' (by omega)).mono ?_
    rintro e w' ⟨rfl, k2⟩
    refine ⟨⟨_, _, rfl⟩, St.more ⟨p, n, P, StP.kept ⟨hG, hH, hT, hS, hP, hPb, hPh, hk⟩ (k.andNone k2)⟩ (by omega) (by omega) hN⟩

/-- A Flip. -/
theorem flip_st {w V : World} {h s b m N : Nat} (hst : St w h s b m N V) (t : ByteArray) (ht : t.size ≤ 20000000) (hN : N + 1 ≤ 1000) :
    Calls Tryz.prog 12 #[.pointer (some ⟨s, 0, none⟩), .string t, .int .i64 10, .int .u8 1] V fun e w' => (∃ z, e = .returned (.int .i64 z)) ∧ St w h s b m (N + 1) w' := by
  obtain ⟨p, n, P, hG, hH, hT, hS, hP, hPb, hPh, hk⟩ := hst
  have hbl := hT.lt
  have hhl := hH.lt
  have hs0 := hk.size
  refine (Sim.flip_any V s p t 10 1 (by omega) ht hS hN).mono ?_
  rintro e w' ⟨rfl, P2, g1, g2, g3⟩
  refine ⟨⟨_, rfl⟩, (pFlip (nm t) 10 1 p).2, n, P2, hG.flip _ _ _, hH.kp g2 hPh, hT.kp g2 hPb, g1, fun x hx => ?_, fun e => ?_, fun e => ?_, hk.trans g2 (fun x hx => .inr (hP x hx))⟩
  · rcases g3 x hx with e | e
    · exact hP x e
    · omega
  · rcases g3 b e with e | e
    · exact hPb e
    · omega
  · rcases g3 h e with e | e
    · exact hPh e
    · omega

/-! ### The walk -/
def fP (p : PS) (id : Nat) : Nat := finds p (nm (nameP id))
def sP (p : PS) (id : Nat) : List Item × Nat × Int := scanF (ints (pBytes (nm (nameP id)) p))
def idsN (p : PS) : List Nat := (idsP p).map Int.toNat
theorem sys_bytes {P : Nat → Prop} {N : Nat} {w : World} {s : Nat} {p : PS} (h : Sim.Sys P N w s p) (n : Sim.Nm) : (∀ x ∈ pBytes n p, x < 256) ∧ (pBytes n p).length ≤ 20000000 := by
  have hI := h.inv
  obtain ⟨vs, vf, vc, u, h⟩ := h
  have hb := hI.big
  unfold pBytes
  split
  · simp
  · unfold Sim.fileAt
    cases hf : p.files (Sim.blockOf p n) with
    | none => simp
    | some f =>
      have h1 := (h.file _ f hf).2.1.byt
      have h2 := hI.lfile _ f hf
      exact ⟨h1, by show f.b.length ≤ _; omega⟩
theorem idsN_cast {m : Nat} {p : PS} {n : Int} (h : GI m p n) (hm : m < 100) : (idsN p).map (fun (i : Nat) => (i : Int)) = idsP p := by
  unfold idsN
  rw [List.map_map]
  conv => rhs; rw [← List.map_id (idsP p)]
  apply List.map_congr_left
  intro z hz
  have := h.ids hm z hz
  simp
  omega
theorem idsN_mem {m : Nat} {p : PS} {n : Int} (h : GI m p n) (hm : m < 100) : ∀ id ∈ idsN p, 1 ≤ id ∧ id < 100 := fun id hid => by
  obtain ⟨z, hz, rfl⟩ := List.mem_map.1 hid
  have h1 := h.ids hm z hz
  have h2 := h.2.2.1
  omega
theorem ints_len (l : List Nat) : (ints l).length = l.length := by simp [ints]
theorem sP_len {P : Nat → Prop} {N : Nat} {w : World} {s : Nat} {p : PS} (h : Sim.Sys P N w s p) (id : Nat) : (sP p id).1.length ≤ 20000000 := by
  have h1 := (sys_bytes h (nm (nameP id))).2
  have h2 := tl_length_le (ints (pBytes (nm (nameP id)) p)) (ints (pBytes (nm (nameP id)) p)).length 0 (by omega)
  have h3 : ∀ (L : List Item) (q : Nat), (scanR L q).1.length ≤ L.length := fun L => by
    induction L with
    | nil => intro q; simp [scanR]
    | cons x L ih =>
      intro q
      rw [scanR]
      split
      · have := ih (x.1 + x.2.2.2)
        simp only [List.length_cons]
        omega
      · simp
  have h4 := h3 (tl (ints (pBytes (nm (nameP id)) p)) 0) 0
  rw [ints_len] at h2
  unfold sP scanF
  omega
theorem allI_len (F : Nat → Nat) (S : Nat → List Item × Nat × Int) (B : Nat) (hB : 1 ≤ B) : ∀ ids : List Nat, (∀ id ∈ ids, (S id).1.length ≤ B) → (allI F S ids).length ≤ ids.length * B
  | [], _ => by simp [allI]
  | id :: r, h => by
    have ih := allI_len F S B hB r (fun i hi => h i (by simp [hi]))
    have h1 := h id (by simp)
    have e : allI F S (id :: r) = packI id (F id) (S id) ++ allI F S r := by simp [allI]
    have h2 : (packI id (F id) (S id)).length ≤ B := by
      unfold packI
      split
      · simpa using hB
      · split
        · simpa using hB
        · rw [List.length_map]; exact h1
    rw [e, List.length_append, List.length_cons, Nat.succ_mul]
    omega

/-- Load of a pack that is seen. -/
theorem load_st {w V : World} {h s b m N : Nat} {p : PS} {n : Int} {P : Nat → Prop} (hs : StP w h s b m N V p n P) (hm : m < 100) (id : Nat) (hid' : id ∈ idsN p) :
    Calls Tryz.prog 16 #[.pointer (some ⟨h, 0, none⟩), .int .i64 (id : Int)] V fun e W' => Loaded V W' b e (fP p id) (sP p id) := by
  obtain ⟨hG, hH, hT, hS, _⟩ := hs
  obtain ⟨h1, h2⟩ := idsN_mem hG hm id hid'
  exact sload_any V h s b n p id h1 h2 hH hS hT (sys_bytes hS _).1 (sys_bytes hS _).2

theorem walk_few (w : World) (h : Nat) (z : Int) (hz : z < 1) : Calls Tryz.prog 14 #[.pointer (some ⟨h, 0, none⟩), .int .i64 z] w fun e w' => e = .returned (.tuple #[.slice none 0 0, .slice none 0 0]) ∧ Kp No w w' := by
  go_enter Tryz.func14, Tryz.ntmps14
  go_wp2_with fail
  go_ret2
  exact ⟨rfl, (Kp.refl No w).alloc _⟩

theorem walk_st {w V : World} {h s b m N : Nat} {p : PS} {n : Int} {P : Nat → Prop} (hs : StP w h s b m N V p n P) (hm : m < 100) (hhb : h ≠ b) (hb : w.heap.size ≤ b) (hV : Vars w) (most : Int) (hmost : most ≤ 100) :
    Calls Tryz.prog 14 #[.pointer (some ⟨h, 0, none⟩), .int .i64 most] V fun e w' => ∃ u1 u2, e = .returned (.tuple #[u1, u2]) ∧ WalkR most.toNat b V w' (allI (fP p) (sP p) (idsN p)) u1 u2 ∧ StP w h s b m N w' p n P := by
  have hs' := hs
  obtain ⟨hG, hH, hT, hS, hP, hPb, hPh, hk⟩ := hs
  by_cases hm1 : most < 1
  · refine (walk_few V h most hm1).mono ?_
    rintro e w' ⟨rfl, k⟩
    refine ⟨_, _, rfl, ⟨0, [], ⟨Nat.zero_le _, .inr ⟨by simp [fsOf]; omega, .inl rfl⟩⟩, by simp [fsOf], Sim.Row.nil _ _ _, ?_, by simp, by simp [Value.ownBlock], by simp [Value.ownBlock], k.ofNo, hT.kp k (fun x => x)⟩, hs'.kept k⟩
    have e0 : lsOf (allI (fP p) (sP p) (idsN p)) 0 = [] := by simp [lsOf]
    rw [e0]
    exact Sim.Row.nil _ _ _
  · obtain ⟨M, hM⟩ : ∃ M : Nat, most = (M : Int) := ⟨most.toNat, by omega⟩
    subst hM
    have hil := hG.ilen
    have hlen : (idsN p).length ≤ 100 := by unfold idsN; rw [List.length_map]; omega
    have hXl := allI_len (fP p) (sP p) 20000000 (by omega) (idsN p) (fun id _ => sP_len hS id)
    refine (walk_over V h s b M n p P N (idsN p) (fP p) (sP p) (by omega) (by omega) hH hS hT hPb hhb (fun V' k' => ?_) (fun W id h1 h2 h3 h4 => ?_) (by omega) (fun id _ => sP_len hS id) (by omega)).mono ?_
    · rw [idsN_cast hG hm]
      exact ids_any V' h s b n p (hH.kp k' (fun x => x)) (hS.kept k') (Vars.kept hV (hk.andNone k')) (fun x hx => by have := hG.nlen hm x hx; omega)
    · obtain ⟨g1, g2⟩ := idsN_mem hG hm id h4
      exact sload_any W h s b n p id g1 g2 h1 h2 h3 (sys_bytes h2 _).1 (sys_bytes h2 _).2
    · intro e w' hw
      obtain ⟨u1, u2, rfl, hR⟩ := Walked.r hw
      refine ⟨u1, u2, rfl, hR, ?_⟩
      obtain ⟨K, Us, _, _, _, _, _, _, _, g8, g9⟩ := hR
      exact hs'.kb g8 g9 hhb hb

end Go.Proofs.YtaaioaocjfpajaaGreatDoor.Sh
end

section
/-
  What pack.Get answers, as one record and one fault.
-/
namespace Go.Proofs.YtaaioaocjfpajaaGreatDoor.Sh
open Go.RowKit Go.Shelf
open Tlv (BySlS)
open Sim (hid Kp No PS Blk nm finds pBytes)

/-- No record. -/
def zE : El := ((0, List.replicate 32 0, []), none, 0)
theorem zE_cells : elC zE = zRec := by rfl
theorem zE_ok : elOk zE := ⟨by rfl, fun y hy => by have := List.eq_of_mem_replicate hy; omega⟩
/-- F: whether the pack is found; its bytes; where: the record y, the fault f. -/
def GSpec (F : Nat) (bs : List Int) (z : Int) (y : El) (f : Nat) : Prop :=
  (F ≠ 0 ∧ f = F ∧ y = zE) ∨ (F = 0 ∧ (z < 0 ∨ (bs.length : Int) ≤ z) ∧ f = 1 ∧ y = zE) ∨ (∃ k : Nat, F = 0 ∧ z = k ∧ k < bs.length ∧ (takeF (bs.drop k)).1 ≠ 0 ∧ f = 4 ∧ y = zE) ∨
  (∃ k : Nat, F = 0 ∧ z = k ∧ k < bs.length ∧ (takeF (bs.drop k)).1 = 0 ∧ f = 0 ∧ y.1 = (takeF (bs.drop k)).2.1)

theorem get_one {P : Nat → Prop} {N : Nat} (w : World) (s b : Nat) (p : PS) (i : Nat) (z : Int) (h1 : 1 ≤ i) (h2 : i < 100) (h : Sim.Sys P N w s p) (hT : TabX w b) (hb : ∀ x ∈ pBytes (nm (nameP i)) p, x < 256) (hl : (pBytes (nm (nameP i)) p).length ≤ 20000000) :
    Calls Tryz.prog 43 #[.pointer (some ⟨s, 0, none⟩), .pointer (some ⟨b, 0, none⟩), .int .i64 (i : Int), .int .i64 z] w fun e w' =>
      ∃ (y : El) (f : Nat), e = .returned (.tuple #[.agg (elC y).toArray, .int .i64 (f : Int)]) ∧ elOk y ∧ BySlS (fun g => w.heap.size ≤ g ∧ g < w'.heap.size) w' (elV y) y.1.2.2 ∧ GSpec (finds p (nm (nameP i))) (ints (pBytes (nm (nameP i)) p)) z y f ∧ Crc.Kept b w w' ∧ TabX w' b := by
  refine (get_any w s b p i z h1 h2 h hT hb hl).mono ?_
  rintro e w' ⟨hc, hk, ht⟩
  rcases hc with ⟨hf, rfl⟩ | ⟨hf, hz, rfl⟩ | ⟨k, hf, hz, hk', hn, rfl⟩ | ⟨k, hf, hz, hk', h0, a, c, rfl, hb, ho⟩
  · exact ⟨zE, _, by rw [zE_cells], zE_ok, BySlS.none _ _, .inl ⟨hf, rfl, rfl⟩, hk, ht⟩
  · exact ⟨zE, 1, by rw [zE_cells]; rfl, zE_ok, BySlS.none _ _, .inr (.inl ⟨hf, hz, rfl, rfl⟩), hk, ht⟩
  · exact ⟨zE, 4, by rw [zE_cells]; rfl, zE_ok, BySlS.none _ _, .inr (.inr (.inl ⟨k, hf, hz, hk', hn, rfl, rfl⟩)), hk, ht⟩
  · exact ⟨((takeF ((ints (pBytes (nm (nameP i)) p)).drop k)).2.1, a, c), 0, rfl, ho, hb, .inr (.inr (.inr ⟨k, hf, hz, hk', h0, rfl, rfl⟩)), hk, ht⟩

end Go.Proofs.YtaaioaocjfpajaaGreatDoor.Sh
end

section
/-
  Read and Drop of no shelf.
-/
namespace Go.Proofs.YtaaioaocjfpajaaGreatDoor.Sh
open Go.RowKit Go.Shelf
open Sim (hid Kp No)
end Go.Proofs.YtaaioaocjfpajaaGreatDoor.Sh
end

section
/-
  Read of a shelf.
-/
namespace Go.Proofs.YtaaioaocjfpajaaGreatDoor.Sh
open Go.RowKit Go.Shelf
open Tlv (BySlS)
open Sim (hid Kp No PS Blk nm finds pBytes)
set_option linter.unusedSimpArgs false

theorem exec_storeE {P : Program} {o : Oper} {a : Act} {w : World} (ty : TypeId) (x y : Operand) (ho : o.op = .store ty x y) (b off : Nat) (cells : Array Value) (hx : a.eval x = .pointer (some ⟨b, off, none⟩)) (hy : a.eval y = .agg cells)
    (ht : w.there b off cells.size) (hi : (P.info? ty).map (·.size) = some cells.size) (h1 : cells.all (·.oneCell') = true) : (execOp a.eval o).run P w = .ok .skip (w.setCells b off cells.toList) := by
  unfold execOp
  simp only [ho, hx, hy, Instr.storeAt, Instr.sureAddr, Sem.run_bind, Sem.run_pure, Result.andThen_ok, run_storeVar_mid w b off ty cells ht hi h1]
theorem wp_skipE {P : Program} {o : Oper} {a : Act} {K : Act → World → Prop} {Q : Exit → Act → World → Prop} {w w' : World} (hr : (execOp a.eval o).run P w = .ok .skip w') (h : K (a.put o.dst undef) w') : Oper.wp P o a w K Q := by
  unfold Oper.wp
  rw [hr]
  exact h
theorem kp_bel {L : Nat → Prop} {u v w : World} (h : Kp L u v) (k : Below u.heap.size v w) : Kp L u w :=
  ⟨k.os.trans h.os, k.tape.trans h.tape, k.output.trans h.output, Nat.le_trans h.size k.size, fun i h1 h2 => (k.block i h1).trans (h.block i h1 h2)⟩
theorem kp_set {L : Nat → Prop} {u v : World} (h : Kp L u v) {g : Nat} (hg : L g ∨ u.heap.size ≤ g) (o : Nat) (cs : List Value) : Kp L u (v.setCells g o cs) := by
  induction cs generalizing v o with
  | nil => exact h
  | cons c cs ih => rw [World.setCells]; exact ih (h.setCell (p := ⟨g, o, none⟩) hg c) _
theorem bySlS_kp {S S' L : Nat → Prop} {w w' : World} {v : Value} {xs : List Int} (h : BySlS S w v xs) (k : Kp L w w') (hS : ∀ g, S g → ¬ L g ∧ g < w.heap.size ∧ S' g) : BySlS S' w' v xs := h.agree (fun g hg => k.block g (hS g hg).2.1 (hS g hg).1) (fun g hg => (hS g hg).2.2)
/-- What Take finds is right. -/
theorem takeF_right {bs : List Int} (h : (takeF bs).1 = 0) : rightB (takeF bs).2.1.1 (takeF bs).2.1.2.2.length = true := by
  cases hr : Tlv.rd 8 bs with
  | none => rw [takeF_none hr] at h; simp [noRec] at h
  | some x =>
    obtain ⟨t, m⟩ := x
    rw [takeF_some hr] at h ⊢
    by_cases h1 : bs.length - m < 4
    · rw [if_pos h1] at h; simp [noRec] at h
    · rw [if_neg h1] at h ⊢
      by_cases h2 : sumI (bs.take m) ≠ (bs.drop m).take 4
      · rw [if_pos h2] at h; simp [noRec] at h
      · rw [if_neg h2] at h ⊢
        cases hq : recOf t with
        | none => rw [hq] at h; simp [noRec] at h
        | some r =>
          dsimp only
          unfold recOf at hq
          split at hq
          · split at hq
            · rename_i hc
              obtain ⟨_, _, _, _, _, g1, g2, g3⟩ := hc
              cases hq
              simp only [rightB, Bool.and_eq_true, decide_eq_true_eq]
              omega
            · simp at hq
          · simp at hq
theorem gspec_ok {F : Nat} {bs : List Int} {z : Int} {y : El} (h : GSpec F bs z y 0) : okR y = true := by
  rcases h with ⟨h1, h2, _⟩ | ⟨_, _, h2, _⟩ | ⟨_, _, _, _, _, h2, _⟩ | ⟨k, _, _, _, h0, _, hy⟩
  · exact absurd h2.symm h1
  · simp at h2
  · simp at h2
  · rw [okR, hy]; exact takeF_right h0
/-- What Read answers: the record y, the fault f. -/
def ReadA (F : Nat) (bs : List Int) (z ln : Int) (y : El) (f : Nat) : Prop :=
  (ln < 1 ∧ f = 1 ∧ y = zE) ∨ (1 ≤ ln ∧ ∃ y0 f0, GSpec F bs z y0 f0 ∧ ((f0 ≠ 0 ∧ f = f0 ∧ y = zE) ∨ (f0 = 0 ∧ ((49 + y0.1.2.2.length : Nat) : Int) ≠ ln ∧ f = 4 ∧ y = zE) ∨ (f0 = 0 ∧ ((49 + y0.1.2.2.length : Nat) : Int) = ln ∧ f = 0 ∧ y = y0)))

set_option maxHeartbeats 8000000 in
set_option maxRecDepth 100000 in
theorem read_any {P : Nat → Prop} {N : Nat} (w : World) (h s b : Nat) (n : Int) (p : PS) (i : Nat) (z ln : Int) (h1 : 1 ≤ i) (h2 : i < 100) (hH : ShAt w h s b n) (hS : Sim.Sys P N w s p) (hT : TabX w b) (hhb : h ≠ b) (hb : ∀ x ∈ pBytes (nm (nameP i)) p, x < 256) (hl : (pBytes (nm (nameP i)) p).length ≤ 20000000) :
    Calls Tryz.prog 20 #[.pointer (some ⟨h, 0, none⟩), .agg #[.int .i64 (i : Int), .int .i64 z, .int .i64 ln]] w fun e w' =>
      ∃ (y : El) (f : Nat), e = .returned (.tuple #[.agg (elC y).toArray, .int .i64 (f : Int)]) ∧ elOk y ∧ BySlS (fun g => w.heap.size ≤ g ∧ g < w'.heap.size) w' (elV y) y.1.2.2 ∧ ReadA (finds p (nm (nameP i))) (ints (pBytes (nm (nameP i)) p)) z ln y f ∧ Kp (fun x => x = b) w w' ∧ TabX w' b := by
  have hz0 := zero35
  have hb0 := build35z
  obtain ⟨Z, hZ⟩ : ∃ Z, zRec = Z := ⟨_, rfl⟩
  have HZ := hid hZ
  have HZL : Hid (Z.length = 34) := by rw [← hZ]; exact zRec_length
  rw [hZ] at hz0 hb0
  clear hZ
  have HI2 : Hid ((Tryz.prog.info? 56).map (·.size) = some Z.toArray.size) := by rw [← HZ.out]; exact Tryz.info35
  have H1 : Hid (Z.toArray.all (·.oneCell') = true) := by rw [← HZ.out]; exact all_oneCell_toArray zRec_one
  have hhl := hH.lt
  have hbl := hT.lt
  obtain ⟨W0, hW0⟩ : ∃ W0, (w.alloc (.cells #[.int .i64 (i : Int), .int .i64 z, .int .i64 ln] 51)).alloc (.cells Z.toArray 56) = W0 := ⟨_, rfl⟩
  have k0 : Kp No w W0 := by rw [← hW0]; exact ((Kp.refl No w).alloc _).alloc _
  have HS0 : Hid (W0.heap.size = w.heap.size + 2) := by rw [Hid, ← hW0]; simp
  have HB0 : Hid (Blk W0 w.heap.size 51 [.int .i64 (i : Int), .int .i64 z, .int .i64 ln]) := by rw [Hid, ← hW0]; exact (Blk.new w _ _).kp ((Kp.refl No _).alloc _) (fun x => x)
  have HR0 : Hid (Blk W0 (w.heap.size + 1) 56 Z) := by
    rw [Hid, ← hW0]
    have e : w.heap.size + 1 = (w.alloc (.cells #[.int .i64 (i : Int), .int .i64 z, .int .i64 ln] 51)).heap.size := by simp
    rw [e]
    exact Blk.new _ _ _
  have HX : Hid (∀ V, Kp (fun x => x = b) W0 V → V.cell? ⟨h, 0, none⟩ = some (.pointer (some ⟨s, 0, none⟩)) ∧ V.cell? ⟨h, 1, none⟩ = some (.pointer (some ⟨b, 0, none⟩)) ∧ V.cell? ⟨w.heap.size, 0, none⟩ = some (.int .i64 (i : Int)) ∧ V.cell? ⟨w.heap.size, 1, none⟩ = some (.int .i64 z) ∧ V.cell? ⟨w.heap.size, 2, none⟩ = some (.int .i64 ln)) := fun V k => by
    have a := (hH.kp k0 (fun x => x)).kp k hhb
    have c := HB0.out.kp k (by omega)
    exact ⟨a.cell 0, a.cell 1, c.cell 0, c.cell 1, c.cell 2⟩
  have HRT : Hid (∀ V, Kp (fun x => x = b) W0 V → World.there V (w.heap.size + 1) 0 Z.toArray.size) := fun V k => by
    have c := HR0.out.kp k (by omega)
    exact there_of_block c 0 _ (by simp)
  have HGET := hid (fun V (k : Kp No W0 V) => get_one V s b p i z h1 h2 ((hS.kept k0).kept k) ((hT.kp k0 (fun x => x)).kp k (fun x => x)) hb hl)
  have HK0 := hid k0
  have HBL : Hid (b < W0.heap.size) := by have := HS0.out; rw [Hid]; omega
  have HN := hid (fun V (k : Kp No W0 V) => none_any V h s b n ((hH.kp k0 (fun x => x)).kp k (fun x => x)))
  have HT0 : Hid (TabX W0 b) := hT.kp k0 (fun x => x)
  obtain ⟨F, hF⟩ : ∃ F, finds p (nm (nameP i)) = F := ⟨_, rfl⟩
  obtain ⟨Y, hY⟩ : ∃ Y, ints (pBytes (nm (nameP i)) p) = Y := ⟨_, rfl⟩
  simp only [hF, hY] at HGET ⊢
  have HIC : Hid ((Tryz.prog.info? 56).map (·.size) = some 34) := Tryz.info35
  have HTA : Hid (∀ V : World, World.there (V.alloc (.cells Z.toArray 56)) V.heap.size 0 34) := fun V => by have h := there_new V Z 56; rwa [HZL.out] at h
  have HTB : Hid (∀ V : World, Kp (fun x => x = b) (W0.drew.alloc (.cells Z.toArray 56)) V → World.there V W0.heap.size 0 34) := fun V k => by
    have c : Blk (W0.drew.alloc (.cells Z.toArray 56)) W0.heap.size 56 Z := Blk.new W0.drew _ _
    exact there_of_block (c.kp k (by have := HBL.out; omega)) 0 34 (by have := HZL.out; simp [this])
  have q9 := HX.out W0 (Kp.refl _ _)
  obtain ⟨_, _, _, _, q9⟩ := q9
  clear hF hY hH hS hT hb hl k0
  go_enter Tryz.func20, Tryz.ntmps20
  go_wp2_with fail
  refine (HN.out _ (Kp.refl _ _)).mono ?_
  rintro e w9 ⟨rfl, hw9⟩
  rw [hw9]
  clear hw9
  clear HN hW0
  by_cases hln : ln < 1
  · go_wp2_with (refine wpList_store_mid (by rfl) 56 _ _ (by rfl) (w.heap.size + 1) 0 Z.toArray (by rfl) (by rfl) (HRT.out _ (Kp.refl _ _)) HI2.out H1.out ?_)
    have HR : Hid (World.rangeAt (W0.setCells (w.heap.size + 1) 0 Z) (w.heap.size + 1) 0 Z) := World.rangeAt_setCells_same _ _ _ _ (HRT.out _ (Kp.refl _ _))
    have hB : Below w.heap.size W0 (W0.setCells (w.heap.size + 1) 0 Z) := setCells_below (by omega) _ _ _
    refine bodyPost_ret (v := .tuple #[.agg Z.toArray, .int .i64 1]) (results_cell_mid2 Tryz.results20 _ _ (w.heap.size + 1) 0 _ _ rfl HR.out Tryz.underlying56 rfl HI2.out) rfl ?_
    refine ⟨zE, 1, ?_, zE_ok, BySlS.none _ _, .inl ⟨hln, rfl, rfl⟩, ?_, ?_⟩
    · rw [zE_cells, HZ.out]; rfl
    · exact kp_bel HK0.out.ofNo hB
    · exact HT0.out.kp (kp_set (Kp.refl (fun x => x = w.heap.size + 1) W0) (Or.inl rfl) _ _) (by omega)
  · go_wp2_with fail
    refine wp_region_held_drew (S := fun V => Kp (fun x => x = b) W0 V) (by kernel_rfl) ((Kp.refl _ _).drew) (fun hHeld => ?_)
    refine wpAnyH_take (i := 0) (oi := { dst := some 16, op := Op.move (Operand.tmp 0), type := 29, pos := "shelf.go:66", after := #[], guard := none }) (v := .pointer (some ⟨h, 0, none⟩)) rfl (by kernel_rfl) (by kernel_rfl) (by kernel_rfl) (fun _ _ _ h => h) (Or.inl ⟨by rfl, fun w' hw' => by (clear hw'; go_simp)⟩) hHeld ?_
    simp only [Act.put, List.setIfInBounds_toArray, List.set_cons_zero, List.set_cons_succ]
    refine wpAnyH_take (i := 1) (oi := { dst := some 17, op := Op.nilCheck (Operand.tmp 16), type := 0, pos := "shelf.go:66", after := #[{ on := 0, ground := Ground.data }], guard := none }) (v := .pointer (some ⟨h, 0, none⟩)) rfl (by kernel_rfl) (by kernel_rfl) (by kernel_rfl) (fun _ _ _ h => h) (Or.inl ⟨by rfl, fun w' hw' => by (clear hw'; go_simp)⟩) hHeld ?_
    simp only [Act.put, List.setIfInBounds_toArray, List.set_cons_zero, List.set_cons_succ]
    refine wpAnyH_take (i := 2) (oi := { dst := some 18, op := Op.fieldAddr 87 (Operand.tmp 17) 0, type := 0, pos := "shelf.go:66", after := #[{ on := 1, ground := Ground.data }], guard := none }) (v := .pointer (some ⟨h, 0, none⟩)) rfl (by kernel_rfl) (by kernel_rfl) (by kernel_rfl) (fun _ _ _ h => h) (Or.inl ⟨by rfl, fun w' hw' => by (clear hw'; go_simp)⟩) hHeld ?_
    simp only [Act.put, List.setIfInBounds_toArray, List.set_cons_zero, List.set_cons_succ]
    refine wpAnyH_take (i := 3) (oi := { dst := some 19, op := Op.load 25 (Operand.tmp 18), type := 25, pos := "shelf.go:66", after := #[{ on := 2, ground := Ground.data }], guard := none }) (v := .pointer (some ⟨s, 0, none⟩)) rfl (by kernel_rfl) (by kernel_rfl) (by kernel_rfl) (fun _ _ _ h => h) (Or.inl ⟨by rfl, fun w' hw' => by (obtain ⟨q0, q1, q2, q3, q4⟩ := HX.out w' hw'; clear hw'; go_simp)⟩) hHeld ?_
    simp only [Act.put, List.setIfInBounds_toArray, List.set_cons_zero, List.set_cons_succ]
    refine wpAnyH_take (i := 4) (oi := { dst := some 20, op := Op.move (Operand.tmp 0), type := 29, pos := "shelf.go:66", after := #[], guard := none }) (v := .pointer (some ⟨h, 0, none⟩)) rfl (by kernel_rfl) (by kernel_rfl) (by kernel_rfl) (fun _ _ _ h => h) (Or.inl ⟨by rfl, fun w' hw' => by (clear hw'; go_simp)⟩) hHeld ?_
    simp only [Act.put, List.setIfInBounds_toArray, List.set_cons_zero, List.set_cons_succ]
    refine wpAnyH_take (i := 5) (oi := { dst := some 21, op := Op.nilCheck (Operand.tmp 20), type := 0, pos := "shelf.go:66", after := #[{ on := 4, ground := Ground.data }], guard := none }) (v := .pointer (some ⟨h, 0, none⟩)) rfl (by kernel_rfl) (by kernel_rfl) (by kernel_rfl) (fun _ _ _ h => h) (Or.inl ⟨by rfl, fun w' hw' => by (clear hw'; go_simp)⟩) hHeld ?_
    simp only [Act.put, List.setIfInBounds_toArray, List.set_cons_zero, List.set_cons_succ]
    refine wpAnyH_take (i := 6) (oi := { dst := some 22, op := Op.fieldAddr 87 (Operand.tmp 21) 1, type := 0, pos := "shelf.go:66", after := #[{ on := 5, ground := Ground.data }], guard := none }) (v := .pointer (some ⟨h, 1, none⟩)) rfl (by kernel_rfl) (by kernel_rfl) (by kernel_rfl) (fun _ _ _ h => h) (Or.inl ⟨by rfl, fun w' hw' => by (clear hw'; go_simp)⟩) hHeld ?_
    simp only [Act.put, List.setIfInBounds_toArray, List.set_cons_zero, List.set_cons_succ]
    refine wpAnyH_take (i := 7) (oi := { dst := some 23, op := Op.load 32 (Operand.tmp 22), type := 32, pos := "shelf.go:66", after := #[{ on := 6, ground := Ground.data }], guard := none }) (v := .pointer (some ⟨b, 0, none⟩)) rfl (by kernel_rfl) (by kernel_rfl) (by kernel_rfl) (fun _ _ _ h => h) (Or.inl ⟨by rfl, fun w' hw' => by (obtain ⟨q0, q1, q2, q3, q4⟩ := HX.out w' hw'; clear hw'; go_simp)⟩) hHeld ?_
    simp only [Act.put, List.setIfInBounds_toArray, List.set_cons_zero, List.set_cons_succ]
    refine wpAnyH_take (i := 8) (oi := { dst := some 24, op := Op.fieldAddr 51 (Operand.tmp 3) 0, type := 0, pos := "shelf.go:66", after := #[], guard := none }) (v := .pointer (some ⟨w.heap.size, 0, none⟩)) rfl (by kernel_rfl) (by kernel_rfl) (by kernel_rfl) (fun _ _ _ h => h) (Or.inl ⟨by rfl, fun w' hw' => by (clear hw'; go_simp)⟩) hHeld ?_
    simp only [Act.put, List.setIfInBounds_toArray, List.set_cons_zero, List.set_cons_succ]
    refine wpAnyH_take (i := 9) (oi := { dst := some 25, op := Op.load 3 (Operand.tmp 24), type := 3, pos := "shelf.go:66", after := #[{ on := 8, ground := Ground.data }], guard := none }) (v := .int .i64 (i : Int)) rfl (by kernel_rfl) (by kernel_rfl) (by kernel_rfl) (fun _ _ _ h => h) (Or.inl ⟨by rfl, fun w' hw' => by (obtain ⟨q0, q1, q2, q3, q4⟩ := HX.out w' hw'; clear hw'; go_simp)⟩) hHeld ?_
    simp only [Act.put, List.setIfInBounds_toArray, List.set_cons_zero, List.set_cons_succ]
    refine wpAnyH_take (i := 10) (oi := { dst := some 26, op := Op.fieldAddr 51 (Operand.tmp 3) 1, type := 0, pos := "shelf.go:66", after := #[], guard := none }) (v := .pointer (some ⟨w.heap.size, 1, none⟩)) rfl (by kernel_rfl) (by kernel_rfl) (by kernel_rfl) (fun _ _ _ h => h) (Or.inl ⟨by rfl, fun w' hw' => by (clear hw'; go_simp)⟩) hHeld ?_
    simp only [Act.put, List.setIfInBounds_toArray, List.set_cons_zero, List.set_cons_succ]
    refine wpAnyH_take (i := 11) (oi := { dst := some 27, op := Op.load 3 (Operand.tmp 26), type := 3, pos := "shelf.go:66", after := #[{ on := 10, ground := Ground.data }], guard := none }) (v := .int .i64 z) rfl (by kernel_rfl) (by kernel_rfl) (by kernel_rfl) (fun _ _ _ h => h) (Or.inl ⟨by rfl, fun w' hw' => by (obtain ⟨q0, q1, q2, q3, q4⟩ := HX.out w' hw'; clear hw'; go_simp)⟩) hHeld ?_
    simp only [Act.put, List.setIfInBounds_toArray, List.set_cons_zero, List.set_cons_succ]
    refine wpAnyH_ready (rs := [12, 16]) (by kernel_rfl) (by simp) ?_
    refine (AllReadyH.cons (o := { dst := some 28, op := Op.call { callee := Callee.value (Operand.func 43), args := #[Operand.tmp 19, Operand.tmp 23, Operand.tmp 25, Operand.tmp 27], argTypes := #[25, 32, 3, 3] }, type := 65, pos := "shelf.go:66", after := #[{ on := 3, ground := Ground.data }, { on := 7, ground := Ground.data }, { on := 9, ground := Ground.data }, { on := 11, ground := Ground.data }], guard := none }) rfl (fun K hK => ?_) (AllReadyH.cons (o := { dst := some 6, op := Op.alloc 56, type := 0, pos := "shelf.go:66", after := #[], guard := none }) rfl (fun K hK => ?_) AllReadyH.nil))
    · go_simp
      refine (HGET.out (W0.drew) ((Kp.refl No W0).drew)).mono ?_
      rintro e w1 ⟨y, f, rfl, hyo, hyb, hsp, hk, ht⟩
      have HK1 : Hid (Kp (fun x => x = b) W0 w1) := ((Kp.refl (fun x => x = b) W0).drew).trans (kp_kept hk) (fun x hx => .inl hx)
      have HKV : Hid (Kp (fun x => x = b) (W0.drew) w1) := kp_kept hk
      have HY := hid (And.intro hyo (And.intro hsp ht))
      have HYB : Hid (BySlS (fun g => (W0.drew).heap.size ≤ g ∧ g < w1.heap.size) w1 (elV y) y.1.2.2) := hyb
      have HV1 : Hid ((W0.drew).heap.size ≤ w1.heap.size) := HKV.out.size
      have HCL : Hid ((elC y).length = 34) := elC_length hyo
      have HC1 : Hid ((elC y).toArray.all (·.oneCell') = true) := all_oneCell_toArray (elC_one y)
      obtain ⟨cy, hcy⟩ : ∃ cy, elC y = cy := ⟨_, rfl⟩
      have HCY := hid hcy
      rw [hcy] at HCL HC1
      have HICL : Hid ((Tryz.prog.info? 56).map (·.size) = some cy.length) := by rw [Hid, HCL.out]; exact HIC.out
      have HICA : Hid ((Tryz.prog.info? 56).map (·.size) = some cy.toArray.size) := HICL.out
      rw [hcy]
      clear hcy hyo hyb hsp hk ht HGET
      go_wp2_with fail
      refine hK.out _ _ (HK1.out) (fun hh => ?_)
      clear hK K hHeld
      have hHeld := hh
      clear hh
      try simp only [Act.put, List.setIfInBounds_toArray, List.set_cons_zero, List.set_cons_succ]
      refine wpAnyH_take (i := 13) (oi := { dst := some 15, op := Op.move (Operand.tmp 28), type := 65, pos := "shelf.go:66", after := #[{ on := 12, ground := Ground.data }], guard := none }) (v := .tuple #[.agg cy.toArray, .int .i64 (f : Int)]) rfl (by kernel_rfl) (by kernel_rfl) (by kernel_rfl) (fun _ _ _ h => h) (Or.inl ⟨by rfl, fun w' hw' => by (clear hw'; go_simp)⟩) hHeld ?_
      simp only [Act.put, List.setIfInBounds_toArray, List.set_cons_zero, List.set_cons_succ]
      refine wpAnyH_take (i := 14) (oi := { dst := some 29, op := Op.extract (Operand.tmp 15) 0, type := 56, pos := "shelf.go:66", after := #[{ on := 13, ground := Ground.data }], guard := none }) (v := .agg cy.toArray) rfl (by kernel_rfl) (by kernel_rfl) (by kernel_rfl) (fun _ _ _ h => h) (Or.inl ⟨by rfl, fun w' hw' => by (clear hw'; go_simp)⟩) hHeld ?_
      simp only [Act.put, List.setIfInBounds_toArray, List.set_cons_zero, List.set_cons_succ]
      refine wpAnyH_take (i := 15) (oi := { dst := some 30, op := Op.extract (Operand.tmp 15) 1, type := 26, pos := "shelf.go:66", after := #[{ on := 13, ground := Ground.data }, { on := 17, ground := Ground.gcOnly Departure.lateStores }], guard := none }) (v := .int .i64 (f : Int)) rfl (by kernel_rfl) (by kernel_rfl) (by kernel_rfl) (fun _ _ _ h => h) (Or.inl ⟨by rfl, fun w' hw' => by (clear hw'; go_simp)⟩) hHeld ?_
      simp only [Act.put, List.setIfInBounds_toArray, List.set_cons_zero, List.set_cons_succ]
      refine wpAnyH_ready (rs := [16]) (by kernel_rfl) (by simp) ?_
      refine (AllReadyH.cons (o := { dst := some 6, op := Op.alloc 56, type := 0, pos := "shelf.go:66", after := #[], guard := none }) rfl (fun K hK => ?_) AllReadyH.nil)
      go_simp
      refine hK.out _ _ (HK1.out.alloc _) (fun hh => ?_)
      clear hK K hHeld
      have hHeld := hh
      clear hh
      try simp only [Act.put, List.setIfInBounds_toArray, List.set_cons_zero, List.set_cons_succ]
      refine wpAnyH_ready (rs := [17]) (by kernel_rfl) (by simp) ?_
      refine (AllReadyH.cons (o := { dst := none, op := Op.store 56 (Operand.tmp 6) (Operand.tmp 29), type := 0, pos := "shelf.go:66", after := #[{ on := 16, ground := Ground.data }, { on := 14, ground := Ground.data }, { on := 12, ground := Ground.chain }, { on := 0, ground := Ground.phase }, { on := 1, ground := Ground.phase }, { on := 2, ground := Ground.phase }, { on := 3, ground := Ground.phase }, { on := 4, ground := Ground.phase }, { on := 5, ground := Ground.phase }, { on := 6, ground := Ground.phase }, { on := 7, ground := Ground.phase }, { on := 8, ground := Ground.phase }, { on := 9, ground := Ground.phase }, { on := 10, ground := Ground.phase }, { on := 11, ground := Ground.phase }, { on := 12, ground := Ground.phase }, { on := 13, ground := Ground.phase }, { on := 14, ground := Ground.phase }, { on := 15, ground := Ground.textOnly Departure.lateStores }, { on := 16, ground := Ground.phase }], guard := none }) rfl (fun K hK => ?_) AllReadyH.nil)
      refine wp_skipE (exec_storeE 56 _ _ rfl (w1.heap.size) 0 cy.toArray rfl rfl (by show World.there _ _ _ cy.length; rw [HCL.out]; exact HTA.out w1) HICA.out HC1.out) ?_
      try simp only [Act.put, List.setIfInBounds_toArray, List.set_cons_zero, List.set_cons_succ]
      refine hK.out _ _ (kp_set (HK1.out.alloc _) (Or.inr (by have a1 := HK1.out.size; have a2 := HBL.out; have a3 := HV1.out; first | omega | (simp at *; omega))) _ _) (fun hh => ?_)
      clear hK K hHeld
      have hHeld := hh
      clear hh
      try simp only [Act.put, List.setIfInBounds_toArray, List.set_cons_zero, List.set_cons_succ]
      refine wpAnyH_take (i := 18) (oi := { dst := some 7, op := Op.assign (Operand.tmp 30), type := 26, pos := "shelf.go:66", after := #[{ on := 15, ground := Ground.data }, { on := 17, ground := Ground.chain }, { on := 0, ground := Ground.phase }, { on := 1, ground := Ground.phase }, { on := 2, ground := Ground.phase }, { on := 3, ground := Ground.phase }, { on := 4, ground := Ground.phase }, { on := 5, ground := Ground.phase }, { on := 6, ground := Ground.phase }, { on := 7, ground := Ground.phase }, { on := 8, ground := Ground.phase }, { on := 9, ground := Ground.phase }, { on := 10, ground := Ground.phase }, { on := 11, ground := Ground.phase }, { on := 12, ground := Ground.phase }, { on := 13, ground := Ground.phase }, { on := 14, ground := Ground.phase }, { on := 15, ground := Ground.phase }, { on := 16, ground := Ground.phase }, { on := 17, ground := Ground.phase }], guard := none }) (v := .int .i64 (f : Int)) rfl (by kernel_rfl) (by kernel_rfl) (by kernel_rfl) (fun _ _ _ h => h) (Or.inl ⟨by rfl, fun w' hw' => by (clear hw'; go_simp)⟩) hHeld ?_
      simp only [Act.put, List.setIfInBounds_toArray, List.set_cons_zero, List.set_cons_succ]
      refine wpAnyH_done (by kernel_rfl) ?_ _
      clear hHeld
      have HK5 : Hid (Kp (fun x => x = b) W0 ((w1.alloc (.cells Z.toArray 56)).setCells (w1.heap.size) 0 cy)) := kp_set (HK1.out.alloc _) (Or.inr (by have a1 := HK1.out.size; have a2 := HBL.out; have a3 := HV1.out; first | omega | (simp at *; omega))) _ _
      have HR5 : Hid (((w1.alloc (.cells Z.toArray 56)).setCells (w1.heap.size) 0 cy).rangeAt (w1.heap.size) 0 cy) := World.rangeAt_setCells_same _ _ _ _ (by rw [HCL.out]; exact HTA.out w1)
      have HG5 : Hid (Kp (fun x => x = w1.heap.size) w1 ((w1.alloc (.cells Z.toArray 56)).setCells (w1.heap.size) 0 cy)) := kp_set ((Kp.refl (fun x => x = w1.heap.size) w1).alloc _) (Or.inl rfl) _ _
      have HT5 : Hid (TabX ((w1.alloc (.cells Z.toArray 56)).setCells (w1.heap.size) 0 cy) b) := HY.out.2.2.kp HG5.out (by have a1 := HK1.out.size; have a2 := HBL.out; have a3 := HV1.out; first | omega | (simp at *; omega))
      have HYB5 : Hid (BySlS (fun x => W0.heap.size ≤ x ∧ x < ((w1.alloc (.cells Z.toArray 56)).setCells (w1.heap.size) 0 cy).heap.size) ((w1.alloc (.cells Z.toArray 56)).setCells (w1.heap.size) 0 cy) (elV y) y.1.2.2) := bySlS_kp HYB.out HG5.out (fun x hx => by have := HG5.out.size; have a1 := HK1.out.size; have a2 := HBL.out; have a3 := HV1.out; first | omega | (simp at *; omega))
      have HG6 : Hid (W0.heap.size ≤ w1.heap.size ∧ w1.heap.size < ((w1.alloc (.cells Z.toArray 56)).setCells (w1.heap.size) 0 cy).heap.size) := by have := HG5.out.size; have a1 := HK1.out.size; have a2 := HBL.out; have a3 := HV1.out; rw [Hid, setCells_size]; first | omega | (simp at *; omega)
      clear HYB HG5 HV1 HKV HK1
      generalize (w1.alloc (.cells Z.toArray 56)).setCells (w1.heap.size) 0 cy = V5 at *
      obtain ⟨g6, hg6⟩ : ∃ x, x = w1.heap.size := ⟨_, rfl⟩
      rw [← hg6] at HR5 ⊢
      have HG7 : Hid (W0.heap.size ≤ g6 ∧ g6 < V5.heap.size) := by rw [hg6]; exact HG6.out
      clear HG6 hg6
      have HG6 := hid HG7.out
      clear HG7
      have HICL : Hid ((Tryz.prog.info? 56).map (·.size) = some cy.length) := by rw [Hid, HCL.out]; exact HIC.out
      have HICA : Hid ((Tryz.prog.info? 56).map (·.size) = some cy.toArray.size) := HICL.out
      have HZ2 : Hid (Z.toArray.size = 34) := HZL.out
      by_cases hf : f = 0
      · subst hf
        have HOK := hid (gspec_ok HY.out.2.1)
        have HSZ := hid (fun V (k : Kp No V5 V) => size_any y V HY.out.1 ((bySlS_kp HYB5.out k (S' := fun x => x < V.heap.size) (fun g hg => ⟨fun x => x, hg.2, Nat.lt_of_lt_of_le hg.2 k.size⟩)).to (fun g hg => hg)) HOK.out)
        rw [HCY.out] at HSZ
        have HQ5 : Hid (∀ V, Kp No V5 V → V.cell? ⟨w.heap.size, 2, none⟩ = some (.int .i64 ln)) := fun V k => (HX.out V (HK5.out.andNone k)).2.2.2.2
        obtain ⟨t, ht⟩ : ∃ t : Nat, 49 + y.1.2.2.length = t := ⟨_, rfl⟩
        have HTT := hid ht
        rw [ht] at HSZ
        clear ht
        by_cases hlt : (t : Int) = ln
        · have HLT := hid hlt
          go_wp2_with fail
          refine wp_region_held_drew (S := fun V => Kp No V5 V) (by kernel_rfl) ((Kp.refl _ _).drew) (fun hHeld => ?_)
          refine wpAnyH_take (i := 2) (oi := { dst := some 37, op := Op.fieldAddr 51 (Operand.tmp 3) 2, type := 0, pos := "shelf.go:70", after := #[], guard := none }) (v := .pointer (some ⟨w.heap.size, 2, none⟩)) rfl (by kernel_rfl) (by kernel_rfl) (by kernel_rfl) (fun _ _ _ h => h) (Or.inl ⟨by rfl, fun w' hw' => by (clear hw'; go_simp)⟩) hHeld ?_
          simp only [Act.put, List.setIfInBounds_toArray, List.set_cons_zero, List.set_cons_succ]
          refine wpAnyH_take (i := 0) (oi := { dst := some 35, op := Op.load 56 (Operand.tmp 6), type := 56, pos := "shelf.go:70", after := #[], guard := none }) (v := .agg cy.toArray) rfl (by kernel_rfl) (by kernel_rfl) (by kernel_rfl) (fun _ _ _ h => h) (yieldsIf_load_mid (by rfl) _ _ rfl g6 0 rfl cy _ (fun V hV => rangeAt_below HR5.out hV.toBelow' HG6.out.2) Tryz.underlying56 rfl HICL.out) hHeld ?_
          simp only [Act.put, List.setIfInBounds_toArray, List.set_cons_zero, List.set_cons_succ]
          refine wpAnyH_take (i := 3) (oi := { dst := some 38, op := Op.load 3 (Operand.tmp 37), type := 3, pos := "shelf.go:70", after := #[{ on := 2, ground := Ground.data }], guard := none }) (v := .int .i64 ln) rfl (by kernel_rfl) (by kernel_rfl) (by kernel_rfl) (fun _ _ _ h => h) (Or.inl ⟨by rfl, fun w' hw' => by (have q0 := HQ5.out w' hw'; clear hw'; go_simp)⟩) hHeld ?_
          simp only [Act.put, List.setIfInBounds_toArray, List.set_cons_zero, List.set_cons_succ]
          refine wpAnyH_ready (rs := [1]) (by kernel_rfl) (by simp) ?_
          refine (AllReadyH.cons (o := { dst := some 36, op := Op.call { callee := Callee.value (Operand.func 44), args := #[Operand.tmp 35], argTypes := #[56] }, type := 3, pos := "shelf.go:70", after := #[{ on := 0, ground := Ground.data }], guard := none }) rfl (fun K hK => ?_) AllReadyH.nil)
          go_simp
          refine (HSZ.out _ ((Kp.refl _ _).drew)).mono ?_
          rintro e w8 ⟨rfl, hb8⟩
          have HK8 : Hid (Kp No V5 w8) := kp_bel ((Kp.refl No V5).drew) hb8
          clear hb8
          go_wp2_with fail
          refine hK.out _ _ (HK8.out) (fun hh => ?_)
          clear hK K hHeld
          have hHeld := hh
          clear hh
          try simp only [Act.put, List.setIfInBounds_toArray, List.set_cons_zero, List.set_cons_succ]
          refine wpAnyH_take (i := 4) (oi := { dst := some 39, op := Op.binOp BinOp.neq 3 (Operand.tmp 36) (Operand.tmp 38) 3, type := 4, pos := "shelf.go:70", after := #[{ on := 1, ground := Ground.data }, { on := 3, ground := Ground.data }], guard := none }) (v := .bool false) rfl (by kernel_rfl) (by kernel_rfl) (by kernel_rfl) (fun _ _ _ h => h) (Or.inl ⟨by rfl, fun w' hw' => by (clear hw'; go_simp)⟩) hHeld ?_
          simp only [Act.put, List.setIfInBounds_toArray, List.set_cons_zero, List.set_cons_succ]
          refine wpAnyH_done (by kernel_rfl) ?_ _
          clear hHeld
          have HR8 : Hid (w8.rangeAt g6 0 cy) := rangeAt_below HR5.out HK8.out.toBelow' HG6.out.2
          clear hlt
          go_wp2_with (first | (refine wpList_load_mid (by rfl) 56 _ (by rfl) g6 0 (by rfl) cy _ HR8.out Tryz.underlying56 rfl HICL.out ?_) | (refine wpList_store_mid (by rfl) 56 _ _ (by rfl) (w.heap.size + 1) 0 cy.toArray (by rfl) (by rfl) (by have h := HRT.out _ (HK5.out.andNone HK8.out); rw [HZ2.out] at h; show World.there _ _ _ cy.length; rw [HCL.out]; exact h) HICA.out HC1.out ?_))
          have HR : Hid (World.rangeAt ((w8).setCells (w.heap.size + 1) 0 cy) (w.heap.size + 1) 0 cy) := World.rangeAt_setCells_same _ _ _ _ (by rw [HCL.out]; have h := HRT.out _ (HK5.out.andNone HK8.out); rwa [HZ2.out] at h)
          refine bodyPost_ret (v := .tuple #[.agg cy.toArray, .int .i64 0]) (results_cell_mid2 Tryz.results20 _ _ (w.heap.size + 1) 0 _ _ rfl HR.out Tryz.underlying56 rfl HICL.out) rfl ?_
          have hk9 : Kp (fun x => x = b) w ((w8).setCells (w.heap.size + 1) 0 cy) := kp_set (HK0.out.ofNo.trans (HK5.out.andNone HK8.out) (fun x hx => .inl hx)) (Or.inr (by omega)) _ _
          have ht9 : TabX ((w8).setCells (w.heap.size + 1) 0 cy) b := (HT5.out.kp (HK8.out) (fun x => x)).kp (kp_set (Kp.refl (fun x => x = w.heap.size + 1) _) (Or.inl rfl) _ _) (by omega)
          refine ⟨y, _, ?_, HY.out.1, ?_, .inr ⟨by omega, y, _, HY.out.2.1, .inr (.inr ⟨rfl, by rw [HTT.out]; exact HLT.out, rfl, rfl⟩)⟩, hk9, ht9⟩
          · (rw [HCY.out]) <;> rfl
          · refine bySlS_kp (L := fun x => x = w.heap.size + 1) HYB5.out ((Kp.below HK8.out.toBelow').trans (kp_set (Kp.refl (fun x => x = w.heap.size + 1) _) (Or.inl rfl) _ _) (fun x hx => .inl hx)) (fun g hg => ?_); have := HS0.out; have := HK8.out.size; rw [setCells_size]; omega
        · have HLT := hid hlt
          go_wp2_with fail
          refine wp_region_held_drew (S := fun V => Kp No V5 V) (by kernel_rfl) ((Kp.refl _ _).drew) (fun hHeld => ?_)
          refine wpAnyH_take (i := 2) (oi := { dst := some 37, op := Op.fieldAddr 51 (Operand.tmp 3) 2, type := 0, pos := "shelf.go:70", after := #[], guard := none }) (v := .pointer (some ⟨w.heap.size, 2, none⟩)) rfl (by kernel_rfl) (by kernel_rfl) (by kernel_rfl) (fun _ _ _ h => h) (Or.inl ⟨by rfl, fun w' hw' => by (clear hw'; go_simp)⟩) hHeld ?_
          simp only [Act.put, List.setIfInBounds_toArray, List.set_cons_zero, List.set_cons_succ]
          refine wpAnyH_take (i := 0) (oi := { dst := some 35, op := Op.load 56 (Operand.tmp 6), type := 56, pos := "shelf.go:70", after := #[], guard := none }) (v := .agg cy.toArray) rfl (by kernel_rfl) (by kernel_rfl) (by kernel_rfl) (fun _ _ _ h => h) (yieldsIf_load_mid (by rfl) _ _ rfl g6 0 rfl cy _ (fun V hV => rangeAt_below HR5.out hV.toBelow' HG6.out.2) Tryz.underlying56 rfl HICL.out) hHeld ?_
          simp only [Act.put, List.setIfInBounds_toArray, List.set_cons_zero, List.set_cons_succ]
          refine wpAnyH_take (i := 3) (oi := { dst := some 38, op := Op.load 3 (Operand.tmp 37), type := 3, pos := "shelf.go:70", after := #[{ on := 2, ground := Ground.data }], guard := none }) (v := .int .i64 ln) rfl (by kernel_rfl) (by kernel_rfl) (by kernel_rfl) (fun _ _ _ h => h) (Or.inl ⟨by rfl, fun w' hw' => by (have q0 := HQ5.out w' hw'; clear hw'; go_simp)⟩) hHeld ?_
          simp only [Act.put, List.setIfInBounds_toArray, List.set_cons_zero, List.set_cons_succ]
          refine wpAnyH_ready (rs := [1]) (by kernel_rfl) (by simp) ?_
          refine (AllReadyH.cons (o := { dst := some 36, op := Op.call { callee := Callee.value (Operand.func 44), args := #[Operand.tmp 35], argTypes := #[56] }, type := 3, pos := "shelf.go:70", after := #[{ on := 0, ground := Ground.data }], guard := none }) rfl (fun K hK => ?_) AllReadyH.nil)
          go_simp
          refine (HSZ.out _ ((Kp.refl _ _).drew)).mono ?_
          rintro e w8 ⟨rfl, hb8⟩
          have HK8 : Hid (Kp No V5 w8) := kp_bel ((Kp.refl No V5).drew) hb8
          clear hb8
          go_wp2_with fail
          refine hK.out _ _ (HK8.out) (fun hh => ?_)
          clear hK K hHeld
          have hHeld := hh
          clear hh
          try simp only [Act.put, List.setIfInBounds_toArray, List.set_cons_zero, List.set_cons_succ]
          refine wpAnyH_take (i := 4) (oi := { dst := some 39, op := Op.binOp BinOp.neq 3 (Operand.tmp 36) (Operand.tmp 38) 3, type := 4, pos := "shelf.go:70", after := #[{ on := 1, ground := Ground.data }, { on := 3, ground := Ground.data }], guard := none }) (v := .bool true) rfl (by kernel_rfl) (by kernel_rfl) (by kernel_rfl) (fun _ _ _ h => h) (Or.inl ⟨by rfl, fun w' hw' => by (clear hw'; go_simp)⟩) hHeld ?_
          simp only [Act.put, List.setIfInBounds_toArray, List.set_cons_zero, List.set_cons_succ]
          refine wpAnyH_done (by kernel_rfl) ?_ _
          clear hHeld
          clear hlt
          go_wp2_with (refine wpList_store_mid (by rfl) 56 _ _ (by rfl) (w.heap.size + 1) 0 Z.toArray (by rfl) (by rfl) (HRT.out _ (HK5.out.andNone HK8.out)) HI2.out H1.out ?_)
          have HR : Hid (World.rangeAt ((w8).setCells (w.heap.size + 1) 0 Z) (w.heap.size + 1) 0 Z) := World.rangeAt_setCells_same _ _ _ _ (HRT.out _ (HK5.out.andNone HK8.out))
          refine bodyPost_ret (v := .tuple #[.agg Z.toArray, .int .i64 4]) (results_cell_mid2 Tryz.results20 _ _ (w.heap.size + 1) 0 _ _ rfl HR.out Tryz.underlying56 rfl HI2.out) rfl ?_
          have hk9 : Kp (fun x => x = b) w ((w8).setCells (w.heap.size + 1) 0 Z) := kp_set (HK0.out.ofNo.trans (HK5.out.andNone HK8.out) (fun x hx => .inl hx)) (Or.inr (by omega)) _ _
          have ht9 : TabX ((w8).setCells (w.heap.size + 1) 0 Z) b := (HT5.out.kp (HK8.out) (fun x => x)).kp (kp_set (Kp.refl (fun x => x = w.heap.size + 1) _) (Or.inl rfl) _ _) (by omega)
          refine ⟨zE, _, ?_, zE_ok, ?_, .inr ⟨by omega, y, _, HY.out.2.1, .inr (.inl ⟨rfl, by rw [HTT.out]; exact HLT.out, rfl, rfl⟩)⟩, hk9, ht9⟩
          · (rw [zE_cells, HZ.out]) <;> rfl
          · exact BySlS.none _ _
      · have hfI : ¬ ((f : Int) = 0) := by omega
        have HF := hid hf
        clear hf
        go_wp2_with (refine wpList_store_mid (by rfl) 56 _ _ (by rfl) (w.heap.size + 1) 0 Z.toArray (by rfl) (by rfl) (HRT.out _ HK5.out) HI2.out H1.out ?_)
        have HR : Hid (World.rangeAt ((V5).setCells (w.heap.size + 1) 0 Z) (w.heap.size + 1) 0 Z) := World.rangeAt_setCells_same _ _ _ _ (HRT.out _ (HK5.out))
        refine bodyPost_ret (v := .tuple #[.agg Z.toArray, .int .i64 (f : Int)]) (results_cell_mid2 Tryz.results20 _ _ (w.heap.size + 1) 0 _ _ rfl HR.out Tryz.underlying56 rfl HI2.out) rfl ?_
        have hk9 : Kp (fun x => x = b) w ((V5).setCells (w.heap.size + 1) 0 Z) := kp_set (HK0.out.ofNo.trans (HK5.out) (fun x hx => .inl hx)) (Or.inr (by omega)) _ _
        have ht9 : TabX ((V5).setCells (w.heap.size + 1) 0 Z) b := (HT5.out.kp (Kp.refl No V5) (fun x => x)).kp (kp_set (Kp.refl (fun x => x = w.heap.size + 1) _) (Or.inl rfl) _ _) (by omega)
        refine ⟨zE, _, ?_, zE_ok, ?_, .inr ⟨by omega, y, _, HY.out.2.1, .inl ⟨HF.out, rfl, rfl⟩⟩, hk9, ht9⟩
        · (rw [zE_cells, HZ.out]) <;> rfl
        · exact BySlS.none _ _
    · go_simp
      refine hK.out _ _ (((Kp.refl (fun x => x = b) W0).drew).alloc _) (fun hh => ?_)
      clear hK K hHeld
      have hHeld := hh
      clear hh
      try simp only [Act.put, List.setIfInBounds_toArray, List.set_cons_zero, List.set_cons_succ]
      refine wpAnyH_ready (rs := [12]) (by kernel_rfl) (by simp) ?_
      refine (AllReadyH.cons (o := { dst := some 28, op := Op.call { callee := Callee.value (Operand.func 43), args := #[Operand.tmp 19, Operand.tmp 23, Operand.tmp 25, Operand.tmp 27], argTypes := #[25, 32, 3, 3] }, type := 65, pos := "shelf.go:66", after := #[{ on := 3, ground := Ground.data }, { on := 7, ground := Ground.data }, { on := 9, ground := Ground.data }, { on := 11, ground := Ground.data }], guard := none }) rfl (fun K hK => ?_) AllReadyH.nil)
      go_simp
      refine (HGET.out (W0.drew.alloc (.cells Z.toArray 56)) (((Kp.refl No W0).drew).alloc _)).mono ?_
      rintro e w1 ⟨y, f, rfl, hyo, hyb, hsp, hk, ht⟩
      have HK1 : Hid (Kp (fun x => x = b) W0 w1) := (((Kp.refl (fun x => x = b) W0).drew).alloc _).trans (kp_kept hk) (fun x hx => .inl hx)
      have HKV : Hid (Kp (fun x => x = b) (W0.drew.alloc (.cells Z.toArray 56)) w1) := kp_kept hk
      have HY := hid (And.intro hyo (And.intro hsp ht))
      have HYB : Hid (BySlS (fun g => (W0.drew.alloc (.cells Z.toArray 56)).heap.size ≤ g ∧ g < w1.heap.size) w1 (elV y) y.1.2.2) := hyb
      have HV1 : Hid ((W0.drew.alloc (.cells Z.toArray 56)).heap.size ≤ w1.heap.size) := HKV.out.size
      have HCL : Hid ((elC y).length = 34) := elC_length hyo
      have HC1 : Hid ((elC y).toArray.all (·.oneCell') = true) := all_oneCell_toArray (elC_one y)
      obtain ⟨cy, hcy⟩ : ∃ cy, elC y = cy := ⟨_, rfl⟩
      have HCY := hid hcy
      rw [hcy] at HCL HC1
      have HICL : Hid ((Tryz.prog.info? 56).map (·.size) = some cy.length) := by rw [Hid, HCL.out]; exact HIC.out
      have HICA : Hid ((Tryz.prog.info? 56).map (·.size) = some cy.toArray.size) := HICL.out
      rw [hcy]
      clear hcy hyo hyb hsp hk ht HGET
      go_wp2_with fail
      refine hK.out _ _ (HK1.out) (fun hh => ?_)
      clear hK K hHeld
      have hHeld := hh
      clear hh
      try simp only [Act.put, List.setIfInBounds_toArray, List.set_cons_zero, List.set_cons_succ]
      refine wpAnyH_take (i := 13) (oi := { dst := some 15, op := Op.move (Operand.tmp 28), type := 65, pos := "shelf.go:66", after := #[{ on := 12, ground := Ground.data }], guard := none }) (v := .tuple #[.agg cy.toArray, .int .i64 (f : Int)]) rfl (by kernel_rfl) (by kernel_rfl) (by kernel_rfl) (fun _ _ _ h => h) (Or.inl ⟨by rfl, fun w' hw' => by (clear hw'; go_simp)⟩) hHeld ?_
      simp only [Act.put, List.setIfInBounds_toArray, List.set_cons_zero, List.set_cons_succ]
      refine wpAnyH_take (i := 14) (oi := { dst := some 29, op := Op.extract (Operand.tmp 15) 0, type := 56, pos := "shelf.go:66", after := #[{ on := 13, ground := Ground.data }], guard := none }) (v := .agg cy.toArray) rfl (by kernel_rfl) (by kernel_rfl) (by kernel_rfl) (fun _ _ _ h => h) (Or.inl ⟨by rfl, fun w' hw' => by (clear hw'; go_simp)⟩) hHeld ?_
      simp only [Act.put, List.setIfInBounds_toArray, List.set_cons_zero, List.set_cons_succ]
      refine wpAnyH_take (i := 15) (oi := { dst := some 30, op := Op.extract (Operand.tmp 15) 1, type := 26, pos := "shelf.go:66", after := #[{ on := 13, ground := Ground.data }, { on := 17, ground := Ground.gcOnly Departure.lateStores }], guard := none }) (v := .int .i64 (f : Int)) rfl (by kernel_rfl) (by kernel_rfl) (by kernel_rfl) (fun _ _ _ h => h) (Or.inl ⟨by rfl, fun w' hw' => by (clear hw'; go_simp)⟩) hHeld ?_
      simp only [Act.put, List.setIfInBounds_toArray, List.set_cons_zero, List.set_cons_succ]
      refine wpAnyH_ready (rs := [17]) (by kernel_rfl) (by simp) ?_
      refine (AllReadyH.cons (o := { dst := none, op := Op.store 56 (Operand.tmp 6) (Operand.tmp 29), type := 0, pos := "shelf.go:66", after := #[{ on := 16, ground := Ground.data }, { on := 14, ground := Ground.data }, { on := 12, ground := Ground.chain }, { on := 0, ground := Ground.phase }, { on := 1, ground := Ground.phase }, { on := 2, ground := Ground.phase }, { on := 3, ground := Ground.phase }, { on := 4, ground := Ground.phase }, { on := 5, ground := Ground.phase }, { on := 6, ground := Ground.phase }, { on := 7, ground := Ground.phase }, { on := 8, ground := Ground.phase }, { on := 9, ground := Ground.phase }, { on := 10, ground := Ground.phase }, { on := 11, ground := Ground.phase }, { on := 12, ground := Ground.phase }, { on := 13, ground := Ground.phase }, { on := 14, ground := Ground.phase }, { on := 15, ground := Ground.textOnly Departure.lateStores }, { on := 16, ground := Ground.phase }], guard := none }) rfl (fun K hK => ?_) AllReadyH.nil)
      refine wp_skipE (exec_storeE 56 _ _ rfl (W0.heap.size) 0 cy.toArray rfl rfl (by show World.there _ _ _ cy.length; rw [HCL.out]; exact HTB.out w1 HKV.out) HICA.out HC1.out) ?_
      try simp only [Act.put, List.setIfInBounds_toArray, List.set_cons_zero, List.set_cons_succ]
      refine hK.out _ _ (kp_set (HK1.out) (Or.inr (by have a1 := HK1.out.size; have a2 := HBL.out; have a3 := HV1.out; first | omega | (simp at *; omega))) _ _) (fun hh => ?_)
      clear hK K hHeld
      have hHeld := hh
      clear hh
      try simp only [Act.put, List.setIfInBounds_toArray, List.set_cons_zero, List.set_cons_succ]
      refine wpAnyH_take (i := 18) (oi := { dst := some 7, op := Op.assign (Operand.tmp 30), type := 26, pos := "shelf.go:66", after := #[{ on := 15, ground := Ground.data }, { on := 17, ground := Ground.chain }, { on := 0, ground := Ground.phase }, { on := 1, ground := Ground.phase }, { on := 2, ground := Ground.phase }, { on := 3, ground := Ground.phase }, { on := 4, ground := Ground.phase }, { on := 5, ground := Ground.phase }, { on := 6, ground := Ground.phase }, { on := 7, ground := Ground.phase }, { on := 8, ground := Ground.phase }, { on := 9, ground := Ground.phase }, { on := 10, ground := Ground.phase }, { on := 11, ground := Ground.phase }, { on := 12, ground := Ground.phase }, { on := 13, ground := Ground.phase }, { on := 14, ground := Ground.phase }, { on := 15, ground := Ground.phase }, { on := 16, ground := Ground.phase }, { on := 17, ground := Ground.phase }], guard := none }) (v := .int .i64 (f : Int)) rfl (by kernel_rfl) (by kernel_rfl) (by kernel_rfl) (fun _ _ _ h => h) (Or.inl ⟨by rfl, fun w' hw' => by (clear hw'; go_simp)⟩) hHeld ?_
      simp only [Act.put, List.setIfInBounds_toArray, List.set_cons_zero, List.set_cons_succ]
      refine wpAnyH_done (by kernel_rfl) ?_ _
      clear hHeld
      have HK5 : Hid (Kp (fun x => x = b) W0 ((w1).setCells (W0.heap.size) 0 cy)) := kp_set (HK1.out) (Or.inr (by have a1 := HK1.out.size; have a2 := HBL.out; have a3 := HV1.out; first | omega | (simp at *; omega))) _ _
      have HR5 : Hid (((w1).setCells (W0.heap.size) 0 cy).rangeAt (W0.heap.size) 0 cy) := World.rangeAt_setCells_same _ _ _ _ (by rw [HCL.out]; exact HTB.out w1 HKV.out)
      have HG5 : Hid (Kp (fun x => x = W0.heap.size) w1 ((w1).setCells (W0.heap.size) 0 cy)) := kp_set (Kp.refl (fun x => x = W0.heap.size) w1) (Or.inl rfl) _ _
      have HT5 : Hid (TabX ((w1).setCells (W0.heap.size) 0 cy) b) := HY.out.2.2.kp HG5.out (by have a1 := HK1.out.size; have a2 := HBL.out; have a3 := HV1.out; first | omega | (simp at *; omega))
      have HYB5 : Hid (BySlS (fun x => W0.heap.size ≤ x ∧ x < ((w1).setCells (W0.heap.size) 0 cy).heap.size) ((w1).setCells (W0.heap.size) 0 cy) (elV y) y.1.2.2) := bySlS_kp HYB.out HG5.out (fun x hx => by have := HG5.out.size; have a1 := HK1.out.size; have a2 := HBL.out; have a3 := HV1.out; first | omega | (simp at *; omega))
      have HG6 : Hid (W0.heap.size ≤ W0.heap.size ∧ W0.heap.size < ((w1).setCells (W0.heap.size) 0 cy).heap.size) := by have := HG5.out.size; have a1 := HK1.out.size; have a2 := HBL.out; have a3 := HV1.out; rw [Hid, setCells_size]; first | omega | (simp at *; omega)
      clear HYB HG5 HV1 HKV HK1
      generalize (w1).setCells (W0.heap.size) 0 cy = V5 at *
      obtain ⟨g6, hg6⟩ : ∃ x, x = W0.heap.size := ⟨_, rfl⟩
      rw [← hg6] at HR5 ⊢
      have HG7 : Hid (W0.heap.size ≤ g6 ∧ g6 < V5.heap.size) := by rw [hg6]; exact HG6.out
      clear HG6 hg6
      have HG6 := hid HG7.out
      clear HG7
      have HICL : Hid ((Tryz.prog.info? 56).map (·.size) = some cy.length) := by rw [Hid, HCL.out]; exact HIC.out
      have HICA : Hid ((Tryz.prog.info? 56).map (·.size) = some cy.toArray.size) := HICL.out
      have HZ2 : Hid (Z.toArray.size = 34) := HZL.out
      by_cases hf : f = 0
      · subst hf
        have HOK := hid (gspec_ok HY.out.2.1)
        have HSZ := hid (fun V (k : Kp No V5 V) => size_any y V HY.out.1 ((bySlS_kp HYB5.out k (S' := fun x => x < V.heap.size) (fun g hg => ⟨fun x => x, hg.2, Nat.lt_of_lt_of_le hg.2 k.size⟩)).to (fun g hg => hg)) HOK.out)
        rw [HCY.out] at HSZ
        have HQ5 : Hid (∀ V, Kp No V5 V → V.cell? ⟨w.heap.size, 2, none⟩ = some (.int .i64 ln)) := fun V k => (HX.out V (HK5.out.andNone k)).2.2.2.2
        obtain ⟨t, ht⟩ : ∃ t : Nat, 49 + y.1.2.2.length = t := ⟨_, rfl⟩
        have HTT := hid ht
        rw [ht] at HSZ
        clear ht
        by_cases hlt : (t : Int) = ln
        · have HLT := hid hlt
          go_wp2_with fail
          refine wp_region_held_drew (S := fun V => Kp No V5 V) (by kernel_rfl) ((Kp.refl _ _).drew) (fun hHeld => ?_)
          refine wpAnyH_take (i := 2) (oi := { dst := some 37, op := Op.fieldAddr 51 (Operand.tmp 3) 2, type := 0, pos := "shelf.go:70", after := #[], guard := none }) (v := .pointer (some ⟨w.heap.size, 2, none⟩)) rfl (by kernel_rfl) (by kernel_rfl) (by kernel_rfl) (fun _ _ _ h => h) (Or.inl ⟨by rfl, fun w' hw' => by (clear hw'; go_simp)⟩) hHeld ?_
          simp only [Act.put, List.setIfInBounds_toArray, List.set_cons_zero, List.set_cons_succ]
          refine wpAnyH_take (i := 0) (oi := { dst := some 35, op := Op.load 56 (Operand.tmp 6), type := 56, pos := "shelf.go:70", after := #[], guard := none }) (v := .agg cy.toArray) rfl (by kernel_rfl) (by kernel_rfl) (by kernel_rfl) (fun _ _ _ h => h) (yieldsIf_load_mid (by rfl) _ _ rfl g6 0 rfl cy _ (fun V hV => rangeAt_below HR5.out hV.toBelow' HG6.out.2) Tryz.underlying56 rfl HICL.out) hHeld ?_
          simp only [Act.put, List.setIfInBounds_toArray, List.set_cons_zero, List.set_cons_succ]
          refine wpAnyH_take (i := 3) (oi := { dst := some 38, op := Op.load 3 (Operand.tmp 37), type := 3, pos := "shelf.go:70", after := #[{ on := 2, ground := Ground.data }], guard := none }) (v := .int .i64 ln) rfl (by kernel_rfl) (by kernel_rfl) (by kernel_rfl) (fun _ _ _ h => h) (Or.inl ⟨by rfl, fun w' hw' => by (have q0 := HQ5.out w' hw'; clear hw'; go_simp)⟩) hHeld ?_
          simp only [Act.put, List.setIfInBounds_toArray, List.set_cons_zero, List.set_cons_succ]
          refine wpAnyH_ready (rs := [1]) (by kernel_rfl) (by simp) ?_
          refine (AllReadyH.cons (o := { dst := some 36, op := Op.call { callee := Callee.value (Operand.func 44), args := #[Operand.tmp 35], argTypes := #[56] }, type := 3, pos := "shelf.go:70", after := #[{ on := 0, ground := Ground.data }], guard := none }) rfl (fun K hK => ?_) AllReadyH.nil)
          go_simp
          refine (HSZ.out _ ((Kp.refl _ _).drew)).mono ?_
          rintro e w8 ⟨rfl, hb8⟩
          have HK8 : Hid (Kp No V5 w8) := kp_bel ((Kp.refl No V5).drew) hb8
          clear hb8
          go_wp2_with fail
          refine hK.out _ _ (HK8.out) (fun hh => ?_)
          clear hK K hHeld
          have hHeld := hh
          clear hh
          try simp only [Act.put, List.setIfInBounds_toArray, List.set_cons_zero, List.set_cons_succ]
          refine wpAnyH_take (i := 4) (oi := { dst := some 39, op := Op.binOp BinOp.neq 3 (Operand.tmp 36) (Operand.tmp 38) 3, type := 4, pos := "shelf.go:70", after := #[{ on := 1, ground := Ground.data }, { on := 3, ground := Ground.data }], guard := none }) (v := .bool false) rfl (by kernel_rfl) (by kernel_rfl) (by kernel_rfl) (fun _ _ _ h => h) (Or.inl ⟨by rfl, fun w' hw' => by (clear hw'; go_simp)⟩) hHeld ?_
          simp only [Act.put, List.setIfInBounds_toArray, List.set_cons_zero, List.set_cons_succ]
          refine wpAnyH_done (by kernel_rfl) ?_ _
          clear hHeld
          have HR8 : Hid (w8.rangeAt g6 0 cy) := rangeAt_below HR5.out HK8.out.toBelow' HG6.out.2
          clear hlt
          go_wp2_with (first | (refine wpList_load_mid (by rfl) 56 _ (by rfl) g6 0 (by rfl) cy _ HR8.out Tryz.underlying56 rfl HICL.out ?_) | (refine wpList_store_mid (by rfl) 56 _ _ (by rfl) (w.heap.size + 1) 0 cy.toArray (by rfl) (by rfl) (by have h := HRT.out _ (HK5.out.andNone HK8.out); rw [HZ2.out] at h; show World.there _ _ _ cy.length; rw [HCL.out]; exact h) HICA.out HC1.out ?_))
          have HR : Hid (World.rangeAt ((w8).setCells (w.heap.size + 1) 0 cy) (w.heap.size + 1) 0 cy) := World.rangeAt_setCells_same _ _ _ _ (by rw [HCL.out]; have h := HRT.out _ (HK5.out.andNone HK8.out); rwa [HZ2.out] at h)
          refine bodyPost_ret (v := .tuple #[.agg cy.toArray, .int .i64 0]) (results_cell_mid2 Tryz.results20 _ _ (w.heap.size + 1) 0 _ _ rfl HR.out Tryz.underlying56 rfl HICL.out) rfl ?_
          have hk9 : Kp (fun x => x = b) w ((w8).setCells (w.heap.size + 1) 0 cy) := kp_set (HK0.out.ofNo.trans (HK5.out.andNone HK8.out) (fun x hx => .inl hx)) (Or.inr (by omega)) _ _
          have ht9 : TabX ((w8).setCells (w.heap.size + 1) 0 cy) b := (HT5.out.kp (HK8.out) (fun x => x)).kp (kp_set (Kp.refl (fun x => x = w.heap.size + 1) _) (Or.inl rfl) _ _) (by omega)
          refine ⟨y, _, ?_, HY.out.1, ?_, .inr ⟨by omega, y, _, HY.out.2.1, .inr (.inr ⟨rfl, by rw [HTT.out]; exact HLT.out, rfl, rfl⟩)⟩, hk9, ht9⟩
          · (rw [HCY.out]) <;> rfl
          · refine bySlS_kp (L := fun x => x = w.heap.size + 1) HYB5.out ((Kp.below HK8.out.toBelow').trans (kp_set (Kp.refl (fun x => x = w.heap.size + 1) _) (Or.inl rfl) _ _) (fun x hx => .inl hx)) (fun g hg => ?_); have := HS0.out; have := HK8.out.size; rw [setCells_size]; omega
        · have HLT := hid hlt
          go_wp2_with fail
          refine wp_region_held_drew (S := fun V => Kp No V5 V) (by kernel_rfl) ((Kp.refl _ _).drew) (fun hHeld => ?_)
          refine wpAnyH_take (i := 2) (oi := { dst := some 37, op := Op.fieldAddr 51 (Operand.tmp 3) 2, type := 0, pos := "shelf.go:70", after := #[], guard := none }) (v := .pointer (some ⟨w.heap.size, 2, none⟩)) rfl (by kernel_rfl) (by kernel_rfl) (by kernel_rfl) (fun _ _ _ h => h) (Or.inl ⟨by rfl, fun w' hw' => by (clear hw'; go_simp)⟩) hHeld ?_
          simp only [Act.put, List.setIfInBounds_toArray, List.set_cons_zero, List.set_cons_succ]
          refine wpAnyH_take (i := 0) (oi := { dst := some 35, op := Op.load 56 (Operand.tmp 6), type := 56, pos := "shelf.go:70", after := #[], guard := none }) (v := .agg cy.toArray) rfl (by kernel_rfl) (by kernel_rfl) (by kernel_rfl) (fun _ _ _ h => h) (yieldsIf_load_mid (by rfl) _ _ rfl g6 0 rfl cy _ (fun V hV => rangeAt_below HR5.out hV.toBelow' HG6.out.2) Tryz.underlying56 rfl HICL.out) hHeld ?_
          simp only [Act.put, List.setIfInBounds_toArray, List.set_cons_zero, List.set_cons_succ]
          refine wpAnyH_take (i := 3) (oi := { dst := some 38, op := Op.load 3 (Operand.tmp 37), type := 3, pos := "shelf.go:70", after := #[{ on := 2, ground := Ground.data }], guard := none }) (v := .int .i64 ln) rfl (by kernel_rfl) (by kernel_rfl) (by kernel_rfl) (fun _ _ _ h => h) (Or.inl ⟨by rfl, fun w' hw' => by (have q0 := HQ5.out w' hw'; clear hw'; go_simp)⟩) hHeld ?_
          simp only [Act.put, List.setIfInBounds_toArray, List.set_cons_zero, List.set_cons_succ]
          refine wpAnyH_ready (rs := [1]) (by kernel_rfl) (by simp) ?_
          refine (AllReadyH.cons (o := { dst := some 36, op := Op.call { callee := Callee.value (Operand.func 44), args := #[Operand.tmp 35], argTypes := #[56] }, type := 3, pos := "shelf.go:70", after := #[{ on := 0, ground := Ground.data }], guard := none }) rfl (fun K hK => ?_) AllReadyH.nil)
          go_simp
          refine (HSZ.out _ ((Kp.refl _ _).drew)).mono ?_
          rintro e w8 ⟨rfl, hb8⟩
          have HK8 : Hid (Kp No V5 w8) := kp_bel ((Kp.refl No V5).drew) hb8
          clear hb8
          go_wp2_with fail
          refine hK.out _ _ (HK8.out) (fun hh => ?_)
          clear hK K hHeld
          have hHeld := hh
          clear hh
          try simp only [Act.put, List.setIfInBounds_toArray, List.set_cons_zero, List.set_cons_succ]
          refine wpAnyH_take (i := 4) (oi := { dst := some 39, op := Op.binOp BinOp.neq 3 (Operand.tmp 36) (Operand.tmp 38) 3, type := 4, pos := "shelf.go:70", after := #[{ on := 1, ground := Ground.data }, { on := 3, ground := Ground.data }], guard := none }) (v := .bool true) rfl (by kernel_rfl) (by kernel_rfl) (by kernel_rfl) (fun _ _ _ h => h) (Or.inl ⟨by rfl, fun w' hw' => by (clear hw'; go_simp)⟩) hHeld ?_
          simp only [Act.put, List.setIfInBounds_toArray, List.set_cons_zero, List.set_cons_succ]
          refine wpAnyH_done (by kernel_rfl) ?_ _
          clear hHeld
          clear hlt
          go_wp2_with (refine wpList_store_mid (by rfl) 56 _ _ (by rfl) (w.heap.size + 1) 0 Z.toArray (by rfl) (by rfl) (HRT.out _ (HK5.out.andNone HK8.out)) HI2.out H1.out ?_)
          have HR : Hid (World.rangeAt ((w8).setCells (w.heap.size + 1) 0 Z) (w.heap.size + 1) 0 Z) := World.rangeAt_setCells_same _ _ _ _ (HRT.out _ (HK5.out.andNone HK8.out))
          refine bodyPost_ret (v := .tuple #[.agg Z.toArray, .int .i64 4]) (results_cell_mid2 Tryz.results20 _ _ (w.heap.size + 1) 0 _ _ rfl HR.out Tryz.underlying56 rfl HI2.out) rfl ?_
          have hk9 : Kp (fun x => x = b) w ((w8).setCells (w.heap.size + 1) 0 Z) := kp_set (HK0.out.ofNo.trans (HK5.out.andNone HK8.out) (fun x hx => .inl hx)) (Or.inr (by omega)) _ _
          have ht9 : TabX ((w8).setCells (w.heap.size + 1) 0 Z) b := (HT5.out.kp (HK8.out) (fun x => x)).kp (kp_set (Kp.refl (fun x => x = w.heap.size + 1) _) (Or.inl rfl) _ _) (by omega)
          refine ⟨zE, _, ?_, zE_ok, ?_, .inr ⟨by omega, y, _, HY.out.2.1, .inr (.inl ⟨rfl, by rw [HTT.out]; exact HLT.out, rfl, rfl⟩)⟩, hk9, ht9⟩
          · (rw [zE_cells, HZ.out]) <;> rfl
          · exact BySlS.none _ _
      · have hfI : ¬ ((f : Int) = 0) := by omega
        have HF := hid hf
        clear hf
        go_wp2_with (refine wpList_store_mid (by rfl) 56 _ _ (by rfl) (w.heap.size + 1) 0 Z.toArray (by rfl) (by rfl) (HRT.out _ HK5.out) HI2.out H1.out ?_)
        have HR : Hid (World.rangeAt ((V5).setCells (w.heap.size + 1) 0 Z) (w.heap.size + 1) 0 Z) := World.rangeAt_setCells_same _ _ _ _ (HRT.out _ (HK5.out))
        refine bodyPost_ret (v := .tuple #[.agg Z.toArray, .int .i64 (f : Int)]) (results_cell_mid2 Tryz.results20 _ _ (w.heap.size + 1) 0 _ _ rfl HR.out Tryz.underlying56 rfl HI2.out) rfl ?_
        have hk9 : Kp (fun x => x = b) w ((V5).setCells (w.heap.size + 1) 0 Z) := kp_set (HK0.out.ofNo.trans (HK5.out) (fun x hx => .inl hx)) (Or.inr (by omega)) _ _
        have ht9 : TabX ((V5).setCells (w.heap.size + 1) 0 Z) b := (HT5.out.kp (Kp.refl No V5) (fun x => x)).kp (kp_set (Kp.refl (fun x => x = w.heap.size + 1) _) (Or.inl rfl) _ _) (by omega)
        refine ⟨zE, _, ?_, zE_ok, ?_, .inr ⟨by omega, y, _, HY.out.2.1, .inl ⟨HF.out, rfl, rfl⟩⟩, hk9, ht9⟩
        · (rw [zE_cells, HZ.out]) <;> rfl
        · exact BySlS.none _ _

end Go.Proofs.YtaaioaocjfpajaaGreatDoor.Sh
end
