/-
  Bytes laid behind bytes: append to a row of the call's own, bytes.Clone, slices.Grow of nil, slices.Concat of two, the reference's Seal.
-/
import Derived.Test.YthbhdbjjobfchaaCrcSmall
import Derived.Lib.AppendZerosOnto
namespace Go.Proofs.Ythbhdbjjobfchaa.Crc
open Go.RowKit

theorem Try.info5 : (Try.prog.info? 5).map (fun i => (i.zero, i.size, i.bytes)) = some (some (.int .u8 0), 1, 1) := by kernel_rfl

/-- Bytes as cells. -/
def cl (xs : List Nat) : List Value := xs.map fun x : Nat => .int .u8 (x : Int)
theorem cl_length (xs : List Nat) : (cl xs).length = xs.length := by simp [cl]
theorem cl_append (xs ys : List Nat) : cl (xs ++ ys) = cl xs ++ cl ys := by simp [cl]
theorem cl_at (xs : List Nat) (i : Nat) (h : i < xs.length) : (cl xs)[i]? = some (.int .u8 (xs.getD i 0 : Nat)) := by simp [cl, List.getElem?_eq_getElem h]

/-- v is a row of the call's own, from block base on, of the bytes xs. -/
def Own (w : World) (base : Nat) (v : Value) (xs : List Nat) : Prop := w.ownsRow base 5 1 v xs.length (cl xs)

theorem Own.ge {w : World} {base : Nat} {v : Value} {xs : List Nat} (h : Own w base v xs) : ∀ k, v.ownBlock = some k → base ≤ k := by
  intro k hk
  rcases h.2 with ⟨rfl, _⟩ | ⟨g, cap, cur, rfl, hb, _⟩
  · simp [Value.ownBlock] at hk
  · simp [Value.ownBlock] at hk
    omega

theorem Own.mono {w : World} {base base' : Nat} {v : Value} {xs : List Nat} (h : Own w base v xs) (hb : base' ≤ base) : Own w base' v xs := by
  refine ⟨h.1, ?_⟩
  rcases h.2 with h | ⟨g, cap, cur, rfl, hg, r⟩
  · exact .inl h
  · exact .inr ⟨g, cap, cur, rfl, by omega, r⟩

theorem Own.bySl {w : World} {base b : Nat} {v : Value} {xs : List Nat} (h : Own w base v xs) (hb : b < base) (hl : xs.length ≤ 100000) (hx : ∀ x ∈ xs, x < 256) : BySl b w v xs := by
  rcases h.2 with ⟨rfl, h0⟩ | ⟨g, cap, cur, rfl, hg, hh, hn, hc, hs, ht⟩
  · have : xs = [] := List.length_eq_zero_iff.1 h0
    subst this
    exact BySl.none _ _
  · refine ⟨_, cap, rfl, hn, hc, by simp, by omega, hx, fun _ => ⟨g, 0, rfl, by omega, (Array.getElem?_eq_some_iff.1 hh).1, fun i hi => ?_⟩⟩
    have h1 : w.ownsRow base 5 1 (.slice (some ⟨g, 0, none⟩) xs.length cap) xs.length (cl xs) := h
    rw [Nat.zero_add, h1.cellAt i (by omega)]
    exact cl_at xs i hi

theorem addr_add (g o i : Nat) : (⟨g, o, none⟩ : Addr).add i = ⟨g, o + i, none⟩ := by unfold Addr.add; split <;> simp_all

/-- append(v, x...), v of the call's own. -/
theorem app_bytes {ops : Array Oper} {rest : List Oper} {o : Oper} {a : Act} {Q : Exit → Act → World → Prop} (w : World) (hgd : o.guard = none) (s x : Operand)
    (ho : o.op = .call { callee := .builtin .append, args := #[s, x], argTypes := #[24, 24] }) (base b : Nat) (v vx : Value) (xs ys : List Nat) (hs : a.eval s = v) (hx : a.eval x = vx)
    (hown : Own w base v xs) (hy : BySl b w vx ys) (hlen : xs.length + ys.length ≤ 100000) (hbase : base ≤ w.heap.size)
    (h : ∀ v' w', Own w' base v' (xs ++ ys) → Below base w w' → wpList Try.prog ops Q rest (a.put o.dst v') w') : wpList Try.prog ops Q (o :: rest) a w := by
  obtain ⟨i0, hi, hz0, hz1, hz2⟩ := info_parts Try.info5
  obtain ⟨ad, cap, rfl, h2, h3, h4, h5, h6, h7⟩ := hy
  cases ad with
  | none =>
    obtain ⟨rfl, rfl⟩ := h4 rfl
    refine wpList_append_own_none hgd s x 24 ho base 5 i0 1 Try.underlying24 hi v xs.length (cl xs) hs hown hx ?_
    exact h v w (by rw [List.append_nil]; exact hown) (Below.refl _ _)
  | some ad =>
    refine wpList_append_own w hgd s x 24 ho base 5 i0 (.int .u8 0) 1 1 Try.underlying24 hi hz0 hz1 hz2 rfl (by decide) v xs.length (cl xs) hs hown ad ys.length cap (cl ys) hx ?_ ?_ ?_ ?_ ?_ hbase ?_
    · rw [cl_length, Nat.mul_one]
    · intro j u hj
      have hjn : j < ys.length := by
        have := (List.getElem?_eq_some_iff.1 hj).1
        rwa [cl_length] at this
      obtain ⟨g, o, e, _, hb, hc⟩ := h7 (by intro e; subst e; simp at hjn)
      simp only [Option.some.injEq] at e
      subst e
      rw [addr_add, hc j hjn, ← cl_at ys j hjn]
      exact hj
    · intro u hu; obtain ⟨x, _, rfl⟩ := List.mem_map.1 hu; rfl
    · unfold maxLen; omega
    · omega
    · intro v' w' h8 h9 _
      refine h v' w' ?_ ((Below.refl _ w).grown h9 hbase hown.ge)
      unfold Own
      rw [cl_append, List.length_append]
      exact h8

theorem Try.nilEq (w : World) (a : Option Addr) (n c n' c' : Nat) : (binOp .eql 24 (.slice a n c) (.slice none n' c')).run Try.prog w = .ok (.bool a.isNone) w :=
  Lib.run_eql_slice_nil w _ _ a n c n' c' Try.underlying24

theorem own_empty (w : World) : Own (w.alloc (.cells #[] 5)) w.heap.size (.slice (some ⟨w.heap.size, 0, none⟩) 0 0) [] := World.ownsRow_made w #[] 0 (Nat.le_refl _) (Nat.zero_le _) rfl

set_option maxHeartbeats 1000000 in
theorem clone_any (b : Nat) (v : Value) (bs : List Nat) (w : World) (hb : b < w.heap.size) (h : BySl b w v bs) (hl : bs.length ≤ 100000) :
    Calls Try.prog 52 #[v] w fun e w' => ∃ v', e = .returned v' ∧ BySl b w' v' bs ∧ Below w.heap.size w w' := by
  have q22 := Try.nilEq
  have H := hid h
  obtain ⟨a, cap, rfl, h2, h3, h4, h5, h6, h7⟩ := h
  have H6 := hid h6
  clear h6 h7
  cases a with
  | none =>
    obtain ⟨rfl, rfl⟩ := h4 rfl
    go_enter Try.func52, Try.ntmps52
    go_wp2
    go_ret
    exact ⟨_, rfl, BySl.none _ _, Below.refl _ _⟩
  | some ad =>
    clear h4
    go_enter Try.func52, Try.ntmps52
    go_wp2_with (at_builtin; refine app_bytes _ rfl _ _ rfl w.heap.size b _ _ [] bs rfl rfl (own_empty w) (H.out.kept ((Kept.refl _ _).alloc _)) (by simpa using hl) (by simp) ?_; intro v' w' hown hbel)
    go_wp2
    go_ret
    exact ⟨v', rfl, Own.bySl hown hb hl H6.out, ((Below.refl _ w).alloc (Nat.le_refl _) _).trans hbel⟩

/-- slices.Grow of nil. -/
theorem own_grown (w : World) (n G : Nat) (hG : n ≤ G) (hm : G ≤ maxLen) : Own (w.drew.alloc (.cells (Builtin.zeroCells (Value.int .u8 0).cells n ++ Builtin.zeroCells (Value.int .u8 0).cells (G - n)) 5)) w.heap.size (.slice (some ⟨w.heap.size, 0, none⟩) 0 G) [] := by
  exact World.ownsRow_made w.drew _ G (Nat.le_refl _) hm (by rw [Array.size_append, size_zeroCells, size_zeroCells]; simp [Value.cells]; omega)

set_option maxHeartbeats 1000000 in
theorem grow_any (n : Nat) (w : World) (h0 : 0 < n) (hn : n ≤ 100000) :
    Calls Try.prog 60 #[.slice none 0 0, .int .i64 n] w fun e w' => ∃ v, e = .returned v ∧ Own w' w.heap.size v [] ∧ Below w.heap.size w w' := by
  obtain ⟨i0, hi, hz0, hz1, hz2⟩ := info_parts Try.info5
  have hrz : ∀ ty, (Builtin.append_ #[24, 3] ty #[.slice none 0 0, .int .i64 n]).run Try.prog w = _ := fun ty => Lib.run_append_nil_zeros w 24 3 ty 5 i0 (.int .u8 0) .i64 .i64 Try.underlying24 Try.underlying3 hi hz0 n h0 (by omega) (by omega) (by rw [hz2]; omega)
  have hGn : n ≤ grownCap w n 0 5 := grownCap_ge w _ _ _
  have hGm := grownCap_le_maxLen w n 0 5 (by unfold maxLen; omega)
  generalize grownCap w n 0 5 = G at *
  have hG63 : G ≤ 9223372036854775807 := by unfold maxLen at hGm; omega
  have HG := hid hGm
  clear hGm hz0 hz1 hz2 hi
  have hnn : ¬ ((n : Int) < 0) := by omega
  have hn2 : (n : Int) > 0 := by omega
  go_enter Try.func60, Try.ntmps60
  go_wp2_with (at_builtin; refine Lib.wpList_append_run _ rfl _ _ _ _ rfl _ _ rfl rfl _ _ (hrz _) ?_)
  all_goals (go_ret; exact ⟨_, rfl, own_grown w n G hGn HG.out, (Below.refl _ _).drew.alloc (Nat.le_refl _) _⟩)

theorem grow_int (z : Int) (n : Nat) (w : World) (hz : z = n) (h0 : 0 < n) (hn : n ≤ 100000) :
    Calls Try.prog 60 #[.slice none 0 0, .int .i64 z] w fun e w' => ∃ v, e = .returned v ∧ Own w' w.heap.size v [] ∧ Below w.heap.size w w' := by
  subst hz
  exact grow_any n w h0 hn

set_option maxHeartbeats 2000000 in
set_option maxRecDepth 100000 in
/-- slices.Concat of two. -/
theorem concat_any (b g : Nat) (v1 v2 : Value) (xs ys : List Nat) (w : World) (c0 : w.cell? ⟨g, 0, none⟩ = some v1) (c1 : w.cell? ⟨g, 1, none⟩ = some v2) (hg : g < w.heap.size) (h1 : BySl b w v1 xs) (h2 : BySl b w v2 ys) (hpos : 0 < ys.length) (hl : xs.length + ys.length ≤ 100000) :
    Calls Try.prog 47 #[.slice (some ⟨g, 0, none⟩) 2 2] w fun e w' => ∃ v, e = .returned v ∧ Own w' w.heap.size v (xs ++ ys) ∧ Below w.heap.size w w' := by
  have H1 := hid h1
  have H2 := hid h2
  obtain ⟨a1, k1, rfl, r1⟩ := h1
  obtain ⟨a2, k2, rfl, r2⟩ := h2
  clear r1 r2
  obtain ⟨L1, hL1⟩ : ∃ L, xs.length = L := ⟨_, rfl⟩
  obtain ⟨L2, hL2⟩ : ∃ L, ys.length = L := ⟨_, rfl⟩
  rw [hL1] at H1 c0 hl
  rw [hL2] at H2 c1 hl hpos
  have HL1 := hid hL1
  have HL2 := hid hL2
  clear hL1 hL2
  go_enter Try.func47, Try.ntmps47
  go_wp2
  refine wp_loop_rounds 3 ?_
  rw [rounds_succ]
  go_wp2
  rw [rounds_succ]
  go_wp2
  rw [rounds_succ]
  go_wp2_with fail
  refine (grow_int _ (L1 + L2) w (by omega) (by omega) hl).mono ?_
  rintro e w1 ⟨v, rfl, hown, hbel⟩
  have HO := hid hown
  have HB := hid hbel
  have hs1 := hbel.size
  have d0 : w1.cell? ⟨g, 0, none⟩ = some (.slice a1 L1 k1) := (hbel.cell (p := ⟨g, 0, none⟩) hg).trans c0
  have d1 : w1.cell? ⟨g, 1, none⟩ = some (.slice a2 L2 k2) := (hbel.cell (p := ⟨g, 1, none⟩) hg).trans c1
  clear hown hbel c0 c1
  go_wp2
  refine wp_loop_rounds 3 ?_
  rw [rounds_succ]
  go_wp2_with (at_builtin; refine app_bytes _ rfl _ _ rfl w.heap.size b _ _ [] xs rfl rfl HO.out (H1.out.kept (Kept.below HB.out)) (by have := HL1.out; simp; omega) hs1 ?_; intro v' w2 hown2 hbel2)
  have HO2 := hid hown2
  have HB2 := hid (HB.out.trans hbel2)
  have hs2 := hbel2.size
  have e0 : w2.cell? ⟨g, 0, none⟩ = some (.slice a1 L1 k1) := (hbel2.cell (p := ⟨g, 0, none⟩) hg).trans d0
  have e1 : w2.cell? ⟨g, 1, none⟩ = some (.slice a2 L2 k2) := (hbel2.cell (p := ⟨g, 1, none⟩) hg).trans d1
  clear hown2 hbel2 d0 d1 HO HB
  go_wp2
  rw [rounds_succ]
  go_wp2_with (at_builtin; refine app_bytes _ rfl _ _ rfl w.heap.size b _ _ ([] ++ xs) ys rfl rfl HO2.out (H2.out.kept (Kept.below HB2.out)) (by have := HL1.out; have := HL2.out; simp; omega) (by omega) ?_; intro v'' w3 hown3 hbel3)
  have HO3 := hid hown3
  have HB3 := hid (HB2.out.trans hbel3)
  clear hown3 hbel3 e0 e1 HO2 HB2
  go_wp2
  rw [rounds_succ]
  go_wp2
  go_ret
  exact ⟨_, rfl, by simpa using HO3.out, HB3.out⟩

/-- A sum in four bytes, the lowest first. -/
def le4 (s : Nat) : List Nat := [s % 256, s / 256 % 256, s / 65536 % 256, s / 16777216]
theorem le4_lt {s : Nat} (hs : s < 4294967296) : ∀ x ∈ le4 s, x < 256 := by
  intro x hx
  simp only [le4, List.mem_cons, List.not_mem_nil, or_false] at hx
  omega
theorem le4_len (s : Nat) : (le4 s).length = 4 := rfl

theorem Own.alloc {w : World} {base : Nat} {v : Value} {xs : List Nat} (h : Own w base v xs) (o : Obj) : Own (w.alloc o) base v xs :=
  World.ownsRow.kept h (World.grownBy_alloc w o none) (by cases v.ownBlock <;> simp)

theorem bySl_le4 (b : Nat) (w : World) (hb : b < w.heap.size) {s : Nat} (hs : s < 4294967296) (t : TypeId) :
    BySl b (w.alloc (.cells #[.int .u8 ((s : Int) % 256), .int .u8 ((s : Int) / 256 % 256), .int .u8 ((s : Int) / 65536 % 256), .int .u8 ((s : Int) / 16777216)] t)) (.slice (some ⟨w.heap.size, 0, none⟩) 4 4) (le4 s) := by
  refine ⟨_, 4, rfl, by simp [le4_len], by decide, by simp, by simp [le4_len], le4_lt hs, fun _ => ⟨w.heap.size, 0, rfl, by omega, by simp, fun i hi => ?_⟩⟩
  rw [le4_len] at hi
  rw [Nat.zero_add, World.cell?_alloc_at _ _ _ _ rfl]
  have : i = 0 ∨ i = 1 ∨ i = 2 ∨ i = 3 := by omega
  rcases this with rfl | rfl | rfl | rfl <;> rfl

set_option maxHeartbeats 400000 in
theorem sumBytes_any (s : Nat) (hs : s < 4294967296) (w : World) :
    Calls Try.prog 45 #[.int .u32 s] w fun e w' => e = .returned (.agg #[.int .u8 ((s : Int) % 256), .int .u8 ((s : Int) / 256 % 256), .int .u8 ((s : Int) / 65536 % 256), .int .u8 ((s : Int) / 16777216)]) ∧ Below w.heap.size w w' := by
  go_enter Try.func45, Try.ntmps45
  go_wp2
  exact bodyPost_ret (v := .agg #[.int .u8 ((s : Int) % 256), .int .u8 ((s : Int) / 256 % 256), .int .u8 ((s : Int) / 65536 % 256), .int .u8 ((s : Int) / 16777216)]) (by simp [results, Try.results45, go_sem]) rfl ⟨rfl, (Below.refl _ _).alloc (Nat.le_refl _) _⟩

set_option maxHeartbeats 2000000 in
set_option maxRecDepth 100000 in
theorem refSeal_any (b : Nat) (v : Value) (bs : List Nat) (w : World) (hb : b < w.heap.size) (h : BySl b w v bs) (hl : bs.length ≤ 80000) :
    Calls Try.prog 31 #[v] w fun e w' => ∃ v', e = .returned v' ∧ Own w' w.heap.size v' (bs ++ le4 (more 0 bs)) ∧ Below w.heap.size w w' := by
  have H := hid h
  obtain ⟨a, cap, rfl, r⟩ := h
  clear r
  have hm := more_lt 0 bs
  obtain ⟨s, hs⟩ : ∃ s, more 0 bs = s := ⟨_, rfl⟩
  have HS := hid hs
  rw [hs] at hm ⊢
  clear hs
  go_enter Try.func31, Try.ntmps31
  go_wp2_with fail
  refine (refSum_any b _ bs _ H.out).mono ?_
  rintro e w1 ⟨rfl, hw⟩
  subst w1
  rw [HS.out]
  go_wp2_with (at_builtin; first | (refine app_bytes _ rfl _ _ rfl w.heap.size b _ _ [] bs rfl rfl (own_empty w) (H.out.kept ((Kept.refl _ _).alloc _)) (by simp; omega) (by simp) ?_; intro v' w' hown hbel) | (refine app_bytes _ rfl _ _ rfl w.heap.size b _ _ ([] ++ bs) (le4 s) rfl rfl (hown.alloc _) (bySl_le4 b w' (by have := hbel.size; simp at this; omega) hm 5) (by simp [le4_len]; omega) (by have := hbel.size; simp at this; simp; omega) ?_; intro v'' w'' hown2 hbel2))
  go_ret
  have hz := hbel.size
  simp at hz
  exact ⟨_, rfl, by simpa using hown2, ((((Below.refl _ w).alloc (Nat.le_refl _) _).trans hbel).alloc (by omega) _).trans hbel2⟩

set_option maxHeartbeats 2000000 in
set_option maxRecDepth 100000 in
theorem seal_any (b f : Nat) (n : Int) (v : Value) (bs : List Nat) (w : World) (hf : f = 0 ∨ f = 1) (ht : Tab w b f n) (h : BySl b w v bs) (hl : bs.length ≤ 80000) :
    Calls Try.prog 29 #[.pointer (some ⟨b, 0, none⟩), v] w fun e w' => ∃ v', e = .returned v' ∧ Own w' w.heap.size v' (bs ++ le4 (more 0 bs)) ∧ Kept b w w' ∧ Tab w' b 1 (wrap64 (n + bs.length)) := by
  have H := hid h
  have T := hid ht
  obtain ⟨a, cap, rfl, r⟩ := h
  clear r ht
  have hm := more_lt 0 bs
  obtain ⟨s, hs⟩ : ∃ s, more 0 bs = s := ⟨_, rfl⟩
  have HS := hid hs
  rw [hs] at hm ⊢
  clear hs
  go_enter Try.func29, Try.ntmps29
  go_wp2_with fail
  refine (sum_any b f n _ bs _ hf T.out H.out).mono ?_
  rintro e w1 ⟨rfl, hk1, ht1⟩
  rw [HS.out]
  have HK1 := hid hk1
  have HT1 := hid ht1
  clear hk1 ht1
  go_wp2_with fail
  refine (sumBytes_any s hm _).mono ?_
  rintro e w2 ⟨rfl, hb2⟩
  have HB2 := hid hb2
  clear hb2
  go_wp2_with fail
  have hz1 := HK1.out.size
  have hz2 := HB2.out.size
  have hbw : b < w.heap.size := T.out.1
  have hk2 := HK1.out.trans (Kept.below (b := b) HB2.out)
  refine (concat_any b (w2.heap.size + 1) _ _ bs (le4 s) _ (by rw [World.cell?_alloc_at _ _ _ _ (by simp)]; rfl) (by rw [World.cell?_alloc_at _ _ _ _ (by simp)]; rfl) (by simp)
    (H.out.kept ((hk2.alloc _).alloc _)) ((bySl_le4 b w2 (by omega) hm 116).kept ((Kept.refl _ _).alloc _)) (by simp [le4_len]) (by simp [le4_len]; omega)).mono ?_
  rintro e w3 ⟨v, rfl, hown, hbel⟩
  have HO := hid hown
  have HB := hid hbel
  clear hown hbel hz1 hz2
  go_wp2_with fail
  go_ret
  refine ⟨_, rfl, HO.out.mono (by have := hk2.size; simp; omega), ((hk2.alloc _).alloc _).trans (Kept.below HB.out), (((HT1.out.below HB2.out).below ((Below.refl _ _).alloc (Nat.le_refl _) _)).below ((Below.refl _ _).alloc (Nat.le_refl _) _)).below HB.out⟩

end Go.Proofs.Ythbhdbjjobfchaa.Crc
