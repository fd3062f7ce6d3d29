/-
  GearEach.
-/
import Derived.Test.YtbilecmclmlnpaaDoorEachA
import Derived.Test.YtbilecmclmlnpaaDoorQuietR
namespace Go.Proofs.YtbilecmclmlnpaaDoor
open Go.RowKit Go.Shelf
attribute [local go_sem] Oper.semAt_some
theorem wide_fn (f : FuncId) : Fence.wide.fn f = True := rfl
attribute [local go_sem] wide_fn
theorem k1_nonneg (k : Nat) : 0 ≤ (k : Int) + 1 := by omega
theorem k1_le (k n : Nat) (h : k + 1 ≤ n) : (k : Int) + 1 ≤ (n : Int) := by omega

/-- GearEach's own boxes: the seed, the bytes, where to stop, the answer. -/
structure EB (w : World) (s : Nat) (v : Value) (st : Int) (W : World) : Prop where
  seed : Boxed W w.heap.size 22 (.int .u64 s)
  bytes : Boxed W (w.heap.size + 1) 23 v
  stop : Boxed W (w.heap.size + 1 + 1) 3 (.int .i64 st)
  ans : Boxed W (w.heap.size + 1 + 1 + 1) 4 (.bool false)
  bel : Below w.heap.size w W
  size : w.heap.size + 4 ≤ W.heap.size

theorem EB.same {w U V : World} {s : Nat} {v : Value} {st : Int} (h : EB w s v st U) (k : ∀ i, i < w.heap.size + 4 → V.heap[i]? = U.heap[i]?) (hb : Below w.heap.size U V) : EB w s v st V :=
  ⟨(k _ (by omega)).trans h.seed, (k _ (by omega)).trans h.bytes, (k _ (by omega)).trans h.stop, (k _ (by omega)).trans h.ans, h.bel.trans hb, Nat.le_trans h.size hb.size⟩
theorem EB.below {w U V : World} {s : Nat} {v : Value} {st : Int} (h : EB w s v st U) {B : Nat} (k : Below B U V) (hB : w.heap.size + 4 ≤ B) : EB w s v st V := h.same (fun i hi => k.block i (by omega)) (k.mono (by omega))
theorem EB.made (w : World) (s : Nat) (v : Value) (st : Int) : EB w s v st ((((w.alloc (.cells #[.int .u64 s] 22)).alloc (.cells #[v] 23)).alloc (.cells #[.int .i64 st] 3)).alloc (.cells #[.bool false] 4)) := by
  have b0 := (((Boxed.new w 22 (.int .u64 s)).alloc (.cells #[v] 23)).alloc (.cells #[.int .i64 st] 3)).alloc (.cells #[.bool false] 4)
  have b1 := ((Boxed.new (w.alloc (.cells #[.int .u64 s] 22)) 23 v).alloc (.cells #[.int .i64 st] 3)).alloc (.cells #[.bool false] 4)
  have b2 := (Boxed.new ((w.alloc (.cells #[.int .u64 s] 22)).alloc (.cells #[v] 23)) 3 (.int .i64 st)).alloc (.cells #[.bool false] 4)
  have b3 := Boxed.new (((w.alloc (.cells #[.int .u64 s] 22)).alloc (.cells #[v] 23)).alloc (.cells #[.int .i64 st] 3)) 4 (.bool false)
  simp only [World.size_alloc] at b1 b2 b3
  exact ⟨b0, b1, b2, b3, ((((Below.refl _ w).alloc (Nat.le_refl _) _).alloc (by simp) _).alloc (by simp; omega) _).alloc (by simp; omega) _, by simp⟩

set_option maxHeartbeats 2000000 in
theorem each_main (s : Nat) (st : Int) (hs : s < M64) (hst : -9223372036854775808 ≤ st ∧ st ≤ 9223372036854775807) (v : Value) (bs : List Nat) (w : World) (hv : BySl w.heap.size w v bs) (hl : bs.length ≤ 300) (hT : Tab w) :
    Calls Tryd.prog 4 #[.int .u64 s, v, .int .i64 st] w fun e w' => e = .returned (.bool true) ∧ Below w.heap.size w w' := by
  have H := hid hv
  have HT := hid hT
  obtain ⟨a, cap, rfl, h2, h3, h4, h5, h6, h7⟩ := hv
  clear hT h4 h6 h7
  have h1 : 1 < w.heap.size := HT.out.lt
  refine (callsIn_wide (n := 3)).1 ?_
  refine callsIn_of_wp_marks Tryd.func4 rfl trivial ?_ rfl
  simp only [Tryd.ntmps4, List.size_toArray, List.length_cons, List.length_nil, Nat.reduceAdd, Nat.reduceSub, Array.replicate_succ, Array.replicate_zero, List.push_toArray, List.append_toArray, List.nil_append, List.cons_append]
  gi_wp2_with fail
  have E0 := hid (EB.made w s (.slice a bs.length cap) st)
  generalize (((w.alloc (.cells #[.int .u64 s] 22)).alloc (.cells #[.slice a bs.length cap] 23)).alloc (.cells #[.int .i64 st] 3)).alloc (.cells #[.bool false] 4) = W0 at *
  refine (callsIn_wide.2 (alive_any _ (HT.out.below E0.out.bel h1))).mono ?_
  rintro e w1 ⟨rfl, hb⟩
  have E1 := hid (E0.out.below hb E0.out.size)
  clear hb E0
  have c3 := E1.out.seed.cell
  have c4 := E1.out.bytes.cell
  gi_wp2_with fail
  refine (callsIn_wide.2 (new_any s hs _)).mono ?_
  rintro e w2 ⟨rfl, hb, hsz, hg⟩
  have E2 := hid (E1.out.below hb E1.out.size)
  have G2 := hid (gr_x hg (.inl rfl))
  have HB2 := hid hb
  have S1 := hid E1.out.size
  clear hb hg c3 c4 E1
  have E3 := hid (E2.out.below ((Below.refl w2.heap.size w2).alloc (Nat.le_refl _) (.cells #[.int .i64 0] 3)) E2.out.size)
  have G3 := hid (G2.out.below ((Below.refl w2.heap.size w2).alloc (Nat.le_refl _) (.cells #[.int .i64 0] 3)) G2.out.lt)
  have N3 := hid (Boxed.new w2 3 (.int .i64 0))
  have c4 := E3.out.bytes.cell
  rw [hsz] at N3
  clear E2 G2 HB2
  gi_wp2_with fail
  generalize w2.alloc (.cells #[.int .i64 0] 3) = w3 at *
  have V0 := hid (H.out.other (c := w1.heap.size) (by have := S1.out; omega))
  clear H c4
  generalize w1.heap.size = b at *
  refine (callsIn_wide.2 (each17_any b s _ bs _ G3.out (V0.out.below E3.out.bel) (by omega))).mono ?_
  rintro e w4 ⟨v', p, q, rfl, hb4, hte⟩
  have hbz : b + 1 < w3.heap.size := N3.out.lt
  have E4 := hid (E3.out.below hb4 E3.out.size)
  have N4 : Hid (Boxed w4 (b + 1) 3 (.int .i64 0)) := (hb4.block _ hbz).trans N3.out
  have T4 := hid hte
  have HZ := hid hbz
  have HS := hid hb4.size
  clear hb4 hte hbz E3 N3 G3
  generalize w3.heap.size = lo at *
  gi_wp2_with fail
  have hd : decide ((300 : Int) < (bs.length : Int)) = false := by simp; omega
  simp only [hd]
  clear hd
  have hmix : Tryd.prog.follows .mixedOrders = true := by kernel_rfl
  have S4 := T4.out.1
  refine over_func (gf := 29) (lb := #[.pointer (some ⟨p, 0, none⟩), .pointer (some ⟨q, 0, none⟩)]) rfl (enters_of Tryd.func29 (by kernel_rfl) rfl)
    (tells_each 2 lo w4.heap.size b s p q v' bs) (fun _ => rfl) (by omega) (fun U V h k => h.below k (Nat.le_refl _)) T4.out
    (fun k W => EB w s (.slice a bs.length cap) st W ∧ Boxed W (b + 1) 3 (.int .i64 k) ∧ ∀ j : Nat, j < k → (j : Int) ≠ st)
    (fun c k W => c = .exit 0 ∧ EB w s (.slice a bs.length cap) st W ∧ Boxed W (b + 1) 3 (.int .i64 k) ∧ ∃ j : Nat, k = j + 1 ∧ (j : Int) = st ∧ j < bs.length)
    (fun k U V h kk => ⟨h.1.same (fun i hi => kk.block i (by have := S1.out; omega) (by have := S1.out; omega)) ⟨kk.os, kk.tape, kk.output, kk.size, fun i hi => kk.block i (by have := S1.out; omega) (by have := S1.out; omega)⟩, boxed_to h.2.1 kk (by have := HZ.out; omega) (by omega), h.2.2⟩)
    (fun c k U V h kk => ⟨h.1, h.2.1.below kk (by have := S1.out; have := HZ.out; omega), (kk.block _ (by have := HZ.out; omega)).trans h.2.2.1, h.2.2.2⟩)
    ⟨E4.out, N4.out, fun j hj => absurd hj (by omega)⟩
    (fun k => { tmps := #[.int .u64 s, .slice a bs.length cap, .int .i64 st, .pointer (some ⟨w.heap.size, 0, none⟩), .pointer (some ⟨w.heap.size + 1, 0, none⟩), .pointer (some ⟨w.heap.size + 1 + 1, 0, none⟩), .pointer (some ⟨w.heap.size + 1 + 1 + 1, 0, none⟩), .pointer (some ⟨b, 0, none⟩), .pointer (some ⟨b + 1, 0, none⟩), .int .i64 k, .int .u64 (hashOf s (bs.take (k + 1)) : Nat), undef, .slice a bs.length cap, .int .i64 bs.length, .bool false, .bool false, .bool true, .bool false, .bool false, undef, .int .u64 s, .pointer (some ⟨b, 0, none⟩), .pointer (some ⟨b, 0, none⟩), .slice a bs.length cap, .func (.func 29) #[] #[.pointer (some ⟨p, 0, none⟩), .pointer (some ⟨q, 0, none⟩)], .int .i64 k, .int .u64 (hashOf s (bs.take (k + 1)) : Nat), undef, undef, undef, undef, undef, undef, undef, undef, undef, undef, undef, undef, undef, undef, undef, undef, undef, undef, undef, undef, undef, undef, undef, undef, undef, undef, undef, undef, undef, undef, undef, undef, undef, undef, undef, undef], defers := [] }) ?assign ?body ?done ?stop
  case assign =>
    intro l k W K _ hK
    rw [told]
    generalize hashOf s (bs.take (k + 1)) = x at *
    gi_wp2
    exact hK
  case body =>
    rintro l k W hk ⟨hE, hz, hN⟩ hT
    have c3 := hE.seed.cell
    have c4 := hE.bytes.cell
    have c5 := hE.stop.cell
    have c8 := hz.cell
    have f8 := hz.frozen
    have HF := hid ((V0.out.below hE.bel).front (k + 1) (by omega))
    have HE := hid hE
    have HN := hid hN
    have hkc : k + 1 ≤ cap := by omega
    have hk300 : k < 1000 := by omega
    have hk2 := k1_le k cap hkc
    have hk0 := k1_nonneg k
    have hkk : ((k : Int) != (k : Int)) = false := by simp
    clear hE hN
    obtain ⟨g, o, rfl⟩ : ∃ g o, a = some ⟨g, o, none⟩ := by
      obtain ⟨a', cap', ev, _, _, _, _, _, h7⟩ := V0.out
      cases ev
      obtain ⟨g, o, e, _⟩ := h7 (by intro e; subst e; simp at hk)
      exact ⟨g, o, e⟩
    generalize hx : hashOf s (bs.take (k + 1)) = x at *
    have HX := hid hx
    clear hx
    have hxx : ((x : Int) != (x : Int)) = false := by simp
    gi_wp2_with fail
    have HQ : Hid (∀ n, BySl b (W.drewN n) (.slice (some ⟨g, o, none⟩) (k + 1) cap) (bs.take (k + 1))) := fun n => HF.out.below (below_drewN (Below.refl _ _) n)
    refine quiet_round l rfl (by kernel_rfl) (by kernel_rfl) (by kernel_rfl) ?_
    repeat (gi_big_quiet_step (first | (gi_at_call 14; exact CallsIn.quiet_of_same (callsIn_wide.2 (refHash_any b s hs _ (bs.take (k + 1)) _ (HQ.out _))))))
    refine wpQuietIn_nil ?_
    intro _ hw'
    obtain ⟨nq, hw''⟩ := hw'
    subst hw''
    simp only [HX.out, hxx]
    have kd : Below w4.heap.size W (W.drewN nq) := below_drewN (Below.refl _ _) nq
    have HZ' := HZ.out
    have S1' := S1.out
    have E5 := hid (HE.out.below (B := w.heap.size + 4) (kd.mono (by omega)) (Nat.le_refl _))
    have N5 : Hid (Boxed (W.drewN nq) (b + 1) 3 (.int .i64 k)) := (kd.block _ (by omega)).trans hz
    have T5 := hid (hT.below kd (Nat.le_refl _))
    have K5 : Hid (KeepsFrom w4.heap.size W (W.drewN nq)) := ⟨by simp, fun k o _ h _ => (Below.block (below_drewN (Below.refl W.heap.size W) nq) k (Array.getElem?_eq_some_iff.1 h).1).trans h⟩
    clear hz hT kd c3 c4 c5 c8 f8 HF HQ HE hk2 hk0
    have c5 := E5.out.stop.cell
    have c8 := N5.out.cell
    have f8 := N5.out.frozen
    generalize W.drewN nq = V at *
    by_cases hq : (k : Int) = st
    · have hqb : ((k : Int) == st) = true := by simpa using hq
      have HQ := hid hq
      clear hq
      gi_wp2
      have kz : Below (w.heap.size + 4) V (V.setCell ⟨b + 1, 0, none⟩ (.int .i64 ((k : Int) + 1))) := (Below.refl _ _).setCell (p := ⟨b + 1, 0, none⟩) (by simp; omega) _
      exact ⟨K5.out.trans ((KeepsOthers.setCell _ _ _).from _), rfl, E5.out.below kz (Nat.le_refl _), N5.out.set _, k, rfl, HQ.out, hk⟩
    · have hqb : ((k : Int) == st) = false := by simpa using hq
      have HQ := hid hq
      clear hq
      gi_wp2
      have kz : Below (w.heap.size + 4) V (V.setCell ⟨b + 1, 0, none⟩ (.int .i64 ((k : Int) + 1))) := (Below.refl _ _).setCell (p := ⟨b + 1, 0, none⟩) (by simp; omega) _
      exact ⟨K5.out.trans ((KeepsOthers.setCell _ _ _).from _), ⟨E5.out.below kz (Nat.le_refl _), N5.out.set _, fun j hj => by
        by_cases e : j = k
        · subst e; exact HQ.out
        · exact HN.out j (by omega)⟩, T5.out.set _ _ (by omega) (by omega)⟩
  case done =>
    rintro D W hD ⟨hE, hz, hN⟩ hT hd
    have c4 := hE.bytes.cell
    have c5 := hE.stop.cell
    have c8 := hz.cell
    have hDW := (Array.getElem?_eq_some_iff.1 hd).1
    have HE := hid hE
    have HD := hid hd
    have hll : ((bs.length : Int) == (bs.length : Int)) = true := by simp
    have hcase : (st < 0) ∨ (0 ≤ st ∧ (bs.length : Int) ≤ st) := by
      by_cases h0 : st < 0
      · exact .inl h0
      · refine .inr ⟨by omega, ?_⟩
        apply Int.not_lt.1
        intro h
        exact hN st.toNat (by omega) (by omega)
    clear hE hz hT hN hd
    rcases hcase with h0 | ⟨h0, h00⟩
    all_goals
      gi_wp2_with fail
      refine (callsIn_wide.2 (alive_any _ (HT.out.below HE.out.bel h1))).mono ?_
      rintro e w5 ⟨rfl, hb⟩
      have E5 := hid (HE.out.below hb HE.out.size)
      have hd5 : w5.heap[D]? = some (.deferred (some [])) := (hb.block D hDW).trans HD.out
      have HD5 := hid hd5
      clear hb hd5
      have c6 := E5.out.ans.cell
      have f6 := E5.out.ans.frozen
      gi_wp2_with fail
      have hd' := (KeepsOthers.setCell w5 ⟨w.heap.size + 1 + 1 + 1, 0, none⟩ (.bool true)).same D _ HD5.out rfl
      have hz' := E5.out.ans.set (.bool true)
      have S1' := S1.out
      have HZ' := HZ.out
      have hc5 := ((shut hd' (n := w.heap.size + 4) (by omega) (.deferred none)).cell (p := ⟨w.heap.size + 1 + 1 + 1, 0, none⟩) (by simp)).trans hz'.cell
      refine ⟨by simp, .inl ⟨_, _, rfl, run_takeDeferred hd', ?_⟩⟩
      exact ⟨.bool true, by simp [results, Tryd.f4, go_sem, hc5], rfl, (E5.out.bel.setCell (p := ⟨w.heap.size + 1 + 1 + 1, 0, none⟩) (by simp; omega) _).trans (shut hd' (by omega) _)⟩
  case stop =>
    rintro D c k W hD hk ⟨rfl, hE, hz, j, rfl, rfl, hj⟩ hd
    have c4 := hE.bytes.cell
    have c5 := hE.stop.cell
    have c8 := hz.cell
    have hDW := (Array.getElem?_eq_some_iff.1 hd).1
    have HE := hid hE
    have HD := hid hd
    have hj0 : (0 : Int) ≤ j := by omega
    have hjl : (j : Int) < (bs.length : Int) := by omega
    have hll : ((j : Int) + 1 == (j : Int) + 1) = true := by simp
    clear hE hz hd
    gi_wp2_with fail
    refine (callsIn_wide.2 (alive_any _ (HT.out.below HE.out.bel h1))).mono ?_
    rintro e w5 ⟨rfl, hb⟩
    have E5 := hid (HE.out.below hb HE.out.size)
    have hd5 : w5.heap[D]? = some (.deferred (some [])) := (hb.block D hDW).trans HD.out
    have HD5 := hid hd5
    clear hb hd5
    have c6 := E5.out.ans.cell
    have f6 := E5.out.ans.frozen
    gi_wp2_with fail
    have hd' := (KeepsOthers.setCell w5 ⟨w.heap.size + 1 + 1 + 1, 0, none⟩ (.bool true)).same D _ HD5.out rfl
    have hz' := E5.out.ans.set (.bool true)
    have S1' := S1.out
    have HZ' := HZ.out
    have hc5 := ((shut hd' (n := w.heap.size + 4) (by omega) (.deferred none)).cell (p := ⟨w.heap.size + 1 + 1 + 1, 0, none⟩) (by simp)).trans hz'.cell
    refine ⟨by simp, .inl ⟨_, _, rfl, run_takeDeferred hd', ?_⟩⟩
    exact ⟨.bool true, by simp [results, Tryd.f4, go_sem, hc5], rfl, (E5.out.bel.setCell (p := ⟨w.heap.size + 1 + 1 + 1, 0, none⟩) (by simp; omega) _).trans (shut hd' (by omega) _)⟩

set_option maxHeartbeats 1000000 in
theorem each_other (s : Nat) (st : Int) (a : Option Addr) (len cap : Nat) (w : World) (hl : 300 < len) (hl2 : len ≤ 9223372036854775807) (hT : Tab w) :
    Calls Tryd.prog 4 #[.int .u64 s, .slice a len cap, .int .i64 st] w fun e w' => e = .returned (.bool true) ∧ Below w.heap.size w w' := by
  have HT := hid hT
  clear hT
  have h1 : 1 < w.heap.size := HT.out.lt
  refine (callsIn_wide (n := 3)).1 ?_
  refine callsIn_of_wp_marks Tryd.func4 rfl trivial ?_ rfl
  simp only [Tryd.ntmps4, List.size_toArray, List.length_cons, List.length_nil, Nat.reduceAdd, Nat.reduceSub, Array.replicate_succ, Array.replicate_zero, List.push_toArray, List.append_toArray, List.nil_append, List.cons_append]
  gi_wp2_with fail
  have E0 := hid (EB.made w s (.slice a len cap) st)
  generalize (((w.alloc (.cells #[.int .u64 s] 22)).alloc (.cells #[.slice a len cap] 23)).alloc (.cells #[.int .i64 st] 3)).alloc (.cells #[.bool false] 4) = W0 at *
  refine (callsIn_wide.2 (alive_any _ (HT.out.below E0.out.bel h1))).mono ?_
  rintro e w1 ⟨rfl, hb⟩
  have E1 := hid (E0.out.below hb E0.out.size)
  clear hb E0
  have c6 := E1.out.ans.cell
  have f6 := E1.out.ans.frozen
  gi_wp2_with fail
  have hz' := (E1.out.ans.set (.bool true)).cell
  exact ⟨.bool true, by simp [results, Tryd.f4, go_sem, hz'], rfl, E1.out.bel.setCell (p := ⟨w.heap.size + 1 + 1 + 1, 0, none⟩) (by simp; omega) _⟩

end Go.Proofs.YtbilecmclmlnpaaDoor
