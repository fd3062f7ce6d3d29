/-
  What the function that hashes hands back tells, round by round; of a gear, and of none.
-/
import Derived.Test.YtbilecmclmlnpaaDoorRange
namespace Go.Proofs.YtbilecmclmlnpaaDoor
open Go.RowKit Go.Shelf
attribute [local go_sem] Oper.semAt_some

/-- v is a slice of the bytes bs, in blocks below B other than b. -/
def ByTo (B b : Nat) (w : World) (v : Value) (bs : List Nat) : Prop :=
  ∃ a cap, v = .slice a bs.length cap ∧ bs.length ≤ cap ∧ cap ≤ maxLen ∧ (a = none → bs = [] ∧ cap = 0) ∧ bs.length ≤ 140737488355328 ∧ (∀ x ∈ bs, x < 256) ∧
    (bs ≠ [] → ∃ g o, a = some ⟨g, o, none⟩ ∧ g ≠ b ∧ g < B ∧ ∀ i, i < bs.length → w.cell? ⟨g, o + i, none⟩ = some (.int .u8 (bs.getD i 0 : Nat)))

theorem BySl.to {b : Nat} {w : World} {v : Value} {bs : List Nat} (h : BySl b w v bs) : ByTo w.heap.size b w v bs := h
theorem ByTo.of {B b : Nat} {w : World} {v : Value} {bs : List Nat} (h : ByTo B b w v bs) (hB : B ≤ w.heap.size) : BySl b w v bs := by
  obtain ⟨a, cap, h1, h2, h3, h4, h5, h6, h7⟩ := h
  refine ⟨a, cap, h1, h2, h3, h4, h5, h6, fun hne => ?_⟩
  obtain ⟨g, o, e, hgb, hg, hc⟩ := h7 hne
  exact ⟨g, o, e, hgb, by omega, hc⟩
theorem ByTo.kept {B b : Nat} {w w' : World} {v : Value} {bs : List Nat} (h : ByTo B b w v bs) (k : KeptTo B b w w') : ByTo B b w' v bs := by
  obtain ⟨a, cap, h1, h2, h3, h4, h5, h6, h7⟩ := h
  refine ⟨a, cap, h1, h2, h3, h4, h5, h6, fun hne => ?_⟩
  obtain ⟨g, o, e, hgb, hg, hc⟩ := h7 hne
  exact ⟨g, o, e, hgb, hg, fun i hi => (k.cell (p := ⟨g, o + i, none⟩) hg hgb).trans (hc i hi)⟩

/-- A gear of seed s at b, its rows filled or not. -/
def GrX (w : World) (b s : Nat) : Prop := ∃ f, (f = 0 ∨ f = 1) ∧ Gr w b s f
theorem GrX.below {b s : Nat} {w w' : World} (h : GrX w b s) {B : Nat} (k : Below B w w') (hB : b < B) : GrX w' b s := by
  obtain ⟨f, hf, hg⟩ := h
  exact ⟨f, hf, hg.below k hB⟩
theorem GrX.lt {b s : Nat} {w : World} (h : GrX w b s) : b < w.heap.size := by
  obtain ⟨f, hf, hg⟩ := h
  exact hg.1

/-- The function's world: a gear at b, its rows filled or not; the bytes; both below B; the two boxes that it has taken along, at p and q. -/
def Tw (B b s p q : Nat) (v : Value) (bs : List Nat) (W : World) : Prop :=
  (B ≤ W.heap.size ∧ b < B ∧ p ≠ b ∧ q ≠ b) ∧ GrX W b s ∧ ByTo B b W v bs ∧ W.cell? ⟨p, 0, none⟩ = some (.pointer (some ⟨b, 0, none⟩)) ∧ W.cell? ⟨q, 0, none⟩ = some v

theorem Tw.below {B C b s p q : Nat} {v : Value} {bs : List Nat} {U V : World} (h : Tw B b s p q v bs U) (k : Below C U V) (hB : B ≤ C) (hp : p < C) (hq : q < C) : Tw B b s p q v bs V := by
  obtain ⟨⟨h1, h2, h5, h6⟩, hg, hv, hp', hq'⟩ := h
  exact ⟨⟨Nat.le_trans h1 k.size, h2, h5, h6⟩, hg.below k (by omega), hv.kept (.of_below (k.mono hB)), (k.cell (p := ⟨p, 0, none⟩) hp).trans hp', (k.cell (p := ⟨q, 0, none⟩) hq).trans hq'⟩
theorem Tw.rolled {B b s p q : Nat} {v : Value} {bs : List Nat} {U V : World} (h : Tw B b s p q v bs U) (k : Kept b U V) (g : Gr V b s 1) : Tw B b s p q v bs V := by
  obtain ⟨⟨h1, h2, h5, h6⟩, _, hv, hp, hq⟩ := h
  exact ⟨⟨Nat.le_trans h1 k.size, h2, h5, h6⟩, ⟨1, .inr rfl, g⟩, hv.kept (.of_kept k h1), (k.cell (p := ⟨p, 0, none⟩) (World.block_lt_of_cell? _ _ hp) h5).trans hp, (k.cell (p := ⟨q, 0, none⟩) (World.block_lt_of_cell? _ _ hq) h6).trans hq⟩
/-- The caller stores into a block of its own. -/
theorem Tw.set {B b s p q : Nat} {v : Value} {bs : List Nat} {U : World} (h : Tw B b s p q v bs U) (z : Nat) (x : Value) (hz : B ≤ z) (hp : z ≠ p) (hq : z ≠ q) : Tw B b s p q v bs (U.setCell ⟨z, 0, none⟩ x) := by
  have k : Below B U (U.setCell ⟨z, 0, none⟩ x) := (Below.refl B U).setCell (p := ⟨z, 0, none⟩) hz x
  obtain ⟨⟨h1, h2, h5, h6⟩, hg, hv, hp', hq'⟩ := h
  exact ⟨⟨by simpa using h1, h2, h5, h6⟩, hg.below k h2, hv.kept (.of_below k), (World.cell?_setCell_other _ _ _ _ (by simp only [ne_eq, Addr.mk.injEq, and_true]; omega)).trans hp', (World.cell?_setCell_other _ _ _ _ (by simp only [ne_eq, Addr.mk.injEq, and_true]; omega)).trans hq'⟩

theorem wide_d {n : Nat} : Fence.wide.depth.isSome = true → 1 ≤ n := fun h => by simp [Fence.wide] at h

/-- The values of round k. -/
def told (s : Nat) (bs : List Nat) (k : Nat) : Array Value := #[.int .i64 k, .int .u64 (hashOf s (bs.take (k + 1)) : Nat)]

set_option maxHeartbeats 2000000 in
set_option maxRecDepth 100000 in
theorem tells_of (T : World → Prop) (n b s p q : Nat) (v : Value) (bs : List Nat) (hTw : ∀ W, T W → GrX W b s ∧ BySl b W v bs ∧ W.cell? ⟨p, 0, none⟩ = some (.pointer (some ⟨b, 0, none⟩)) ∧ W.cell? ⟨q, 0, none⟩ = some v) (hTr : ∀ U V, T U → Kept b U V → Gr V b s 1 → T V) :
    Tells n 29 #[.pointer (some ⟨p, 0, none⟩), .pointer (some ⟨q, 0, none⟩)] b T (told s bs) bs.length := by
  intro l J Jx W hT hJ hY h0
  have HW := hid hTw
  have HR := hid hTr
  have HJ := hid hJ
  have HY := hid hY
  have H0 := hid h0
  have HT := hid hT
  obtain ⟨_, hv, hp, hq⟩ := hTw W hT
  obtain ⟨a, cap, rfl, h2, h3, h4, h5, h6, h7⟩ := hv
  have H6 := hid h6
  clear h6 h7 h4 hJ hY h0 hTw hTr hT
  refine callsIn_of_wp Tryd.func29 rfl trivial ?_ rfl
  simp only [Tryd.ntmps29, List.size_toArray, List.length_cons, List.length_nil, Nat.reduceAdd, Nat.reduceSub, Array.replicate_succ, Array.replicate_zero, List.push_toArray, List.append_toArray, List.nil_append, List.cons_append]
  gi_wp2
  clear hp hq
  gi_loopw [4, 11] (fun h i wr => ∃ k : Nat, k ≤ bs.length ∧ i = .int .i64 k ∧ h = .int .u64 (hashOf s (bs.take k) : Nat) ∧ Hid (J k wr) ∧ Hid (T wr)) (fun _ i _ => bs.length - (intOf i).toNat)
  case atStart => exact ⟨0, Nat.zero_le _, rfl, by rw [List.take_zero, hashOf, hashFrom_nil]; rfl, H0, HT⟩
  case round =>
    obtain ⟨k, hk, rfl, rfl, HJk, HTk⟩ := hrel
    by_cases hlt : k < bs.length
    · obtain ⟨⟨f, hf, hgr⟩, hv, hp, hq⟩ := HW.out wr HTk.out
      obtain ⟨a', cap', ev, _, _, _, _, _, h7⟩ := hv
      cases ev
      obtain ⟨g, o, rfl, _, _, hc⟩ := h7 (by intro e; subst e; simp at hlt)
      have c1 := hc k hlt
      clear hc h7 hq
      have hx := getD_lt H6.out hlt
      have HG := hid hgr
      clear hgr
      have hsn := hid (hashOf_succ s bs k hlt)
      have hki : (k : Int) < (bs.length : Int) := by omega
      generalize hc0 : bs.getD k 0 = c at *
      generalize hr0 : hashOf s (bs.take k) = r at *
      have HC := hid hc0
      have HRR := hid hr0
      clear hc0 hr0
      gi_wp2_with fail
      refine ⟨trivial, wide_d, (callsIn_wide.2 (roll12_any b s f r c hx _ hf HG.out)).mono ?_⟩
      rintro e W2 ⟨rfl, hk2, hg2⟩
      have HT2 := hid (HR.out _ _ HTk.out hk2 hg2)
      have HJ2 := hid (HJ.out k _ _ HJk.out HT2.out hk2)
      clear hk2 hg2 hp c1
      obtain ⟨fn, tmps, assign, body, hy, hR⟩ := HY.out k W2 hlt HJ2.out HT2.out
      rw [told, hsn.out] at hy
      generalize hx0 : roll s r c = x at *
      have HX := hid hx0
      clear hx0
      gi_wp2
      refine ⟨wide_d, hR.mono ?_⟩
      rintro e W3 (⟨rfl, hJ3, hT3⟩ | ⟨rfl, hJx3⟩)
      · gi_wp2
        go_roundw
        case rel => exact ⟨k + 1, by omega, by go_num, by rw [hsn.out], hJ3, hT3⟩
        case measure => simp [intOf]; omega
      · gi_wp2
        refine bodyPost_ret (results_none rfl _ _ _) rfl ?_
        exact ⟨⟨_, rfl⟩, .inr ⟨k + 1, by omega, hJx3⟩⟩
    · obtain rfl : k = bs.length := by omega
      gi_wp2
      go_end0
      exact ⟨⟨_, rfl⟩, .inl ⟨HJk.out, HTk.out⟩⟩

theorem tells_any (n B b s p q : Nat) (v : Value) (bs : List Nat) :
    Tells n 29 #[.pointer (some ⟨p, 0, none⟩), .pointer (some ⟨q, 0, none⟩)] b (Tw B b s p q v bs) (told s bs) bs.length :=
  tells_of (Tw B b s p q v bs) n b s p q v bs (fun _ h => ⟨h.2.1, h.2.2.1.of h.1.1, h.2.2.2⟩) (fun _ _ h k g => h.rolled k g)

/-- Of no gear: nothing. -/
theorem tells_nil (n b p : Nat) (x : Value) (vs : Nat → Array Value) :
    Tells n 29 #[.pointer (some ⟨p, 0, none⟩), x] b (fun W => W.cell? ⟨p, 0, none⟩ = some (.pointer none)) vs 0 := by
  intro l J Jx W hT _ _ h0
  have H0 := hid h0
  clear h0
  refine callsIn_of_wp Tryd.func29 rfl trivial ?_ rfl
  simp only [Tryd.ntmps29, List.size_toArray, List.length_cons, List.length_nil, Nat.reduceAdd, Nat.reduceSub, Array.replicate_succ, Array.replicate_zero, List.push_toArray, List.append_toArray, List.nil_append, List.cons_append]
  gi_wp2
  first | go_end0 | refine bodyPost_ret (results_none rfl _ _ _) rfl ?_
  exact ⟨⟨_, rfl⟩, .inl ⟨H0.out, hT⟩⟩

/-- hashes. -/
theorem hashes_any (g : Option Addr) (a : Option Addr) (len cap : Nat) (w : World) :
    Calls Tryd.prog 22 #[.pointer g, .slice a len cap] w fun e w' => e = .returned (.func (.func 29) #[] #[.pointer (some ⟨w.heap.size, 0, none⟩), .pointer (some ⟨w.heap.size + 1, 0, none⟩)]) ∧
      w' = (w.alloc (.cells #[.pointer g] 25)).alloc (.cells #[.slice a len cap] 23) := by
  have hmf : ∀ (fn : Fn) (first cap : Array Value) (w : World), (Instr.makeFunc fn first cap).run Tryd.prog w = .ok (.func fn first cap) w := fun _ _ _ _ => rfl
  go_enter Tryd.func22, Tryd.ntmps22
  go_wp2
  go_ret
  exact ⟨rfl, rfl⟩

end Go.Proofs.YtbilecmclmlnpaaDoor
