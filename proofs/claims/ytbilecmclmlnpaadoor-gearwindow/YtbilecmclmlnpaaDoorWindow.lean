/-
  GearWindow.
-/
import Derived.Test.YtbilecmclmlnpaaDoorEachA
namespace Go.Proofs.YtbilecmclmlnpaaDoor
open Go.RowKit Go.Shelf

/-- What GearWindow keeps: the answer's box, the gear, the second bytes, all of them. -/
structure WB (w : World) (b s : Nat) (vb va : Value) (ys al : List Nat) (W : World) : Prop where
  bel : Below w.heap.size w W
  box : Boxed W w.heap.size 4 (.bool false)
  gear : GrX W b s
  last : BySl b W vb ys
  all : BySl b W va al
  lt : w.heap.size + 1 ≤ b

theorem WB.kept {w U V : World} {b s : Nat} {vb va : Value} {ys al : List Nat} (h : WB w b s vb va ys al U) (k : Kept b U V) (g : GrX V b s) : WB w b s vb va ys al V :=
  ⟨Kept.toBelow h.bel k (by have := h.lt; omega), (k.block _ h.box.lt (by have := h.lt; omega)).trans h.box, g, h.last.kept k, h.all.kept k, h.lt⟩
theorem WB.below {w U V : World} {b s : Nat} {vb va : Value} {ys al : List Nat} (h : WB w b s vb va ys al U) (k : Below U.heap.size U V) : WB w b s vb va ys al V :=
  ⟨h.bel.trans (k.mono h.bel.size), (k.block _ h.box.lt).trans h.box, h.gear.below k h.gear.lt, h.last.below k, h.all.below k, h.lt⟩

/-- The bytes of a slice behind the first n. -/
theorem BySl.back {b : Nat} {w : World} {a : Option Addr} {cap : Nat} {bs : List Nat} (h : BySl b w (.slice a bs.length cap) bs) (n : Nat) (hn : n ≤ bs.length) :
    BySl b w (.slice (Option.map (fun x => x.add n) a) (bs.length - n) (cap - n)) (bs.drop n) := by
  obtain ⟨a', cap', e, h2, h3, h4, h5, h6, h7⟩ := h
  cases e
  have hl : (bs.drop n).length = bs.length - n := List.length_drop
  refine ⟨_, cap - n, by rw [hl], by omega, by omega, fun e => ?_, by omega, fun x hx => h6 x (List.mem_of_mem_drop hx), fun hne => ?_⟩
  · obtain ⟨rfl, rfl⟩ := h4 (by cases a with
      | none => rfl
      | some x => simp at e)
    exact ⟨by simp, by simp⟩
  · have hb : bs ≠ [] := fun e => hne (by rw [e]; simp)
    obtain ⟨g, o, e, hg, hg', hc⟩ := h7 hb
    subst e
    refine ⟨g, o + n, by rw [Option.map_some, addr_add], hg, hg', fun i hi => ?_⟩
    rw [Nat.add_assoc, hc (n + i) (by omega)]
    have : (bs.drop n).getD i 0 = bs.getD (n + i) 0 := by simp
    rw [this]

theorem hash_back (s : Nat) (al : List Nat) (h : 64 < al.length) : hashOf s (al.drop (al.length - 64)) = hashOf s al := by
  have e : hashOf s al = hashOf s (al.take (al.length - 64) ++ al.drop (al.length - 64)) := by rw [List.take_append_drop]
  rw [e, hashOf_last s _ _ (by rw [List.length_drop]; omega)]

set_option maxHeartbeats 2000000 in
set_option maxRecDepth 100000 in
theorem window_main (s : Nat) (hs : s < M64) (va vb : Value) (xs ys : List Nat) (w : World) (hva : BySl w.heap.size w va xs) (hvb : BySl w.heap.size w vb ys) (hla : xs.length ≤ 300) (hlb : ys.length ≤ 300) (hT : Tab w) :
    Calls Tryd.prog 6 #[.int .u64 s, va, vb] w fun e w' => e = .returned (.bool true) ∧ Below w.heap.size w w' := by
  have HA := hid hva
  have HB := hid hvb
  have HT := hid hT
  have HXa := hid (show ∀ x ∈ xs, x < 256 by obtain ⟨_, _, _, _, _, _, _, h6, _⟩ := hva; exact h6)
  have HXb := hid (show ∀ x ∈ ys, x < 256 by obtain ⟨_, _, _, _, _, _, _, h6, _⟩ := hvb; exact h6)
  obtain ⟨aa, ca, rfl, ra⟩ := hva
  obtain ⟨ab, cb, rfl, rb⟩ := hvb
  have h1 : 1 < w.heap.size := HT.out.lt
  clear ra rb hT
  have hda : decide ((300 : Int) < (xs.length : Int)) = false := by simp; omega
  have hdb : decide ((300 : Int) < (ys.length : Int)) = false := by simp; omega
  refine (callsIn_wide (n := 3)).1 ?_
  refine callsIn_of_wp_marks Tryd.func6 rfl trivial ?_ rfl
  refine wpIn_wide.2 ?_
  simp only [Tryd.ntmps6, List.size_toArray, List.length_cons, List.length_nil, Nat.reduceAdd, Nat.reduceSub, Array.replicate_succ, Array.replicate_zero, List.push_toArray, List.append_toArray, List.nil_append, List.cons_append]
  go_wp2_with fail
  have B0 := hid ((Below.refl w.heap.size w).alloc (Nat.le_refl _) (.cells #[.bool false] 4))
  have R0 := hid (Boxed.new w 4 (.bool false))
  have S0 : Hid (w.heap.size + 1 ≤ (w.alloc (.cells #[.bool false] 4)).heap.size) := by simp [Hid]
  generalize w.alloc (.cells #[.bool false] 4) = W0 at *
  refine (alive_any _ (HT.out.below B0.out h1)).mono ?_
  rintro e w1 ⟨rfl, hb⟩
  have B1 := hid (B0.out.trans (hb.mono B0.out.size))
  have R1 : Hid (Boxed w1 w.heap.size 4 (.bool false)) := (hb.block _ R0.out.lt).trans R0.out
  have S1 := hid (Nat.le_trans S0.out hb.size)
  clear hb B0 R0 S0
  go_wp2_with fail
  refine (new_any s hs _).mono ?_
  rintro e w2 ⟨rfl, hb, hsz, hg⟩
  have B2 := hid (B1.out.trans (hb.mono B1.out.size))
  have R2 : Hid (Boxed w2 w.heap.size 4 (.bool false)) := (hb.block _ R1.out.lt).trans R1.out
  have G2 := hid (gr_x hg (.inl rfl))
  have HS := hid hsz
  clear hb hg B1 R1 hsz
  have VA := hid ((HA.out.other (c := w1.heap.size) (by have := S1.out; omega)).below B2.out)
  have VB := hid ((HB.out.other (c := w1.heap.size) (by have := S1.out; omega)).below B2.out)
  generalize w1.heap.size = b at *
  go_wp2_with (first | (at_builtin; refine app_bytes _ rfl _ _ rfl w2.heap.size b _ _ [] xs rfl rfl (own_empty w2) (VA.out.below ((Below.refl _ _).alloc (Nat.le_refl _) _)) (by simp; omega) (by simp) ?_; intro v1 w3 ho1 hb1) | (at_builtin; refine app_bytes _ rfl _ _ rfl w2.heap.size b _ _ xs ys rfl rfl ho1 (VB.out.below (((Below.refl _ w2).alloc (Nat.le_refl _) _).trans hb1)) (by omega) (by have := hb1.size; simp at this; omega) ?_; intro v2 w4 ho2 hb2))
  have k24 : Below w2.heap.size w2 w4 := (((Below.refl _ w2).alloc (Nat.le_refl _) _).trans hb1).trans hb2
  have A4 := ho2.bySl (b := b) G2.out.lt (by rw [List.length_append]; omega) (fun x hx => (List.mem_append.1 hx).elim (HXa.out x) (HXb.out x))
  have W4 : Hid (WB w b s (.slice ab ys.length cb) v2 ys (xs ++ ys) w4) := ⟨B2.out.trans (k24.mono B2.out.size), (k24.block _ R2.out.lt).trans R2.out, G2.out.below k24 G2.out.lt, VB.out.below k24, A4, S1.out⟩
  have V4 := hid (VA.out.below k24)
  obtain ⟨a2, c2, rfl, ha2, hc2, _⟩ := id A4
  clear k24 A4 ho2 ho1 hb1 hb2 VA VB G2 R2 B2 HA HB
  have HAl := hid (show (xs ++ ys).length ≤ 600 by rw [List.length_append]; omega)
  generalize hal : xs ++ ys = al at *
  have HAL := hid hal
  clear hal
  refine (hash13_any b s _ xs _ W4.out.gear V4.out).mono ?_
  rintro e w5 ⟨rfl, hk, hg⟩
  have W5 := hid (W4.out.kept hk hg)
  clear hk hg W4 V4
  go_wp2_with fail
  go_loopw [9, 10] (fun h i wr => ∃ k : Nat, k ≤ ys.length ∧ i = .int .i64 k ∧ h = .int .u64 (hashFrom s (hashOf s xs) (ys.take k) : Nat) ∧ Hid (WB w b s (.slice ab ys.length cb) (.slice a2 al.length c2) ys al wr)) (fun _ i _ => ys.length - (intOf i).toNat)
  case atStart => exact ⟨0, Nat.zero_le _, rfl, by rw [List.take_zero, hashFrom_nil], W5⟩
  case round =>
    obtain ⟨k, hk, rfl, rfl, WR⟩ := hrel
    by_cases hlt : k < ys.length
    · obtain ⟨f, hf, hgr⟩ := WR.out.gear
      obtain ⟨a', c', ev, _, _, _, _, _, h7⟩ := WR.out.last
      cases ev
      obtain ⟨g, o, rfl, _, _, hc⟩ := h7 (by intro e; subst e; simp at hlt)
      have c1 := hc k hlt
      clear hc h7
      have hx := getD_lt HXb.out hlt
      have HG := hid hgr
      clear hgr
      have hsn := hid (hashFrom_succ s (hashOf s xs) ys k hlt)
      have hki : (k : Int) < (ys.length : Int) := by omega
      generalize ys.getD k 0 = c at *
      generalize hashFrom s (hashOf s xs) (ys.take k) = r at *
      go_wp2_with fail
      refine (roll12_any b s f r c hx _ hf HG.out).mono ?_
      rintro e W2 ⟨rfl, hk2, hg2⟩
      have W6 := hid (WR.out.kept hk2 (gr_x hg2 (.inr rfl)))
      clear hk2 hg2
      go_wp2_with fail
      go_roundw
      case rel => exact ⟨k + 1, by omega, by go_num, by rw [hsn.out], W6.out⟩
      case measure => simp [intOf]; omega
    · obtain rfl : k = ys.length := by omega
      rw [List.take_length]
      have hh : Hid (hashFrom s (hashOf s xs) ys = hashOf s al) := by rw [Hid, ← HAL.out, hashOf_app]
      rw [hh.out]
      clear hh
      have hne : (((hashOf s al : Nat) : Int) != ((hashOf s al : Nat) : Int)) = false := by simp
      go_wp2_with fail
      refine (hash13_any b s _ al _ WR.out.gear WR.out.all).mono ?_
      rintro e w6 ⟨rfl, hk, hg⟩
      have W6 := hid (WR.out.kept hk hg)
      clear hk hg WR
      generalize hH : hashOf s al = H at *
      have HH := hid hH
      clear hH
      have hLL : (Hid (64 < al.length) ∧ decide ((64 : Int) < (al.length : Int)) = true) ∨ decide ((64 : Int) < (al.length : Int)) = false := by
        by_cases hL : 64 < al.length
        · exact .inl ⟨hL, by simp; omega⟩
        · exact .inr (by simp; omega)
      rcases hLL with ⟨hL, hLb⟩ | hLb
      · have hL' := hL.out
        go_wp2_with fail
        refine (hash13_any b s _ (al.drop (al.length - 64)) _ W6.out.gear (W6.out.all.back (al.length - 64) (by omega))).mono ?_
        rintro e w7 ⟨rfl, hk, hg⟩
        have W7 := hid (W6.out.kept hk hg)
        clear hk hg W6
        rw [hash_back s al hL', HH.out]
        clear hL'
        go_wp2_with fail
        refine (each17_nil b _ al _ W7.out.all (by have := HAl.out; omega)).mono ?_
        rintro e w8 ⟨p, q, rfl, hb8, ⟨hp1, hp2, hq1, hq2⟩, hpc⟩
        have HPC := hid hpc
        have HB8 := hid hb8
        clear hpc hb8
        go_wp2_with fail
        refine wpIn_wide.1 (over_func (n := 3) (gf := 29) (lb := #[.pointer (some ⟨p, 0, none⟩), .pointer (some ⟨q, 0, none⟩)]) rfl (enters_of Tryd.func29 (by kernel_rfl) rfl)
          (tells_nil 2 q p _ (fun _ => #[undef, undef])) (fun _ => rfl) hq2 (fun U V h k => (k.cell (p := ⟨p, 0, none⟩) hp2).trans h) HPC.out
          (fun _ W => Below w7.heap.size w7 W) (fun _ _ _ => False)
          (fun k U V h kk => h.trans ⟨kk.os, kk.tape, kk.output, kk.size, fun i hi => kk.block i (by omega) (by omega)⟩) (fun _ _ _ _ h _ => h)
          HB8.out
          (fun _ => { tmps := #[], defers := [] }) ?assign ?body ?done ?stop)
        case assign =>
          intro l k W K hk _
          exact absurd hk (by omega)
        case body =>
          intro l k W hk
          exact absurd hk (by omega)
        case stop =>
          intro D c k W _ _ h _
          exact h.elim
        case done =>
          rintro D W hD hbW _ hd
          have hDW := (Array.getElem?_eq_some_iff.1 hd).1
          have X0 := hid (W7.out.below hbW)
          have D0 := hid hd
          have hDs : w.heap.size + 1 ≤ D := by have := X0.out.lt; have := W7.out.gear.lt; have := hbW.size; omega
          have HDS := hid hDs
          clear hd hbW hD HB8 HPC hp1 hp2 hq1 hq2 W7 hDs
          go_wp2_with fail
          refine (row10_nil 1 _).mono ?_
          rintro e W1 ⟨rfl, hw⟩
          subst W1
          go_wp2_with fail
          refine (roll12_nil 5 1 _).mono ?_
          rintro e W1 ⟨rfl, hw⟩
          subst W1
          go_wp2_with fail
          refine (hash13_nil _ _ _ _).mono ?_
          rintro e W1 ⟨rfl, hb⟩
          have X1 := hid (X0.out.below hb)
          have D1 : Hid (W1.heap[D]? = some (.deferred (some []))) := (hb.block D hDW).trans D0.out
          have hD1 : D < W1.heap.size := Nat.lt_of_lt_of_le hDW hb.size
          clear hb X0 D0 hDW
          go_wp2_with fail
          refine (find15_nil _ _ _ 0 _).mono ?_
          rintro e W2 ⟨rfl, hb⟩
          have X2 := hid (X1.out.below hb)
          have D2 : Hid (W2.heap[D]? = some (.deferred (some []))) := (hb.block D hD1).trans D1.out
          have hD2 : D < W2.heap.size := Nat.lt_of_lt_of_le hD1 hb.size
          clear hb X1 D1 hD1
          go_wp2_with fail
          refine (alive_any _ (HT.out.below X2.out.bel h1)).mono ?_
          rintro e W3 ⟨rfl, hb⟩
          have X3 := hid (X2.out.below hb)
          have D3 : Hid (W3.heap[D]? = some (.deferred (some []))) := (hb.block D hD2).trans D2.out
          clear hb X2 D2 hD2
          have c6 := X3.out.box.cell
          have f6 := X3.out.box.frozen
          go_wp2_with fail
          have hd' := (KeepsOthers.setCell W3 ⟨w.heap.size, 0, none⟩ (.bool true)).same D _ D3.out rfl
          have hz' := X3.out.box.set (.bool true)
          have hDs := HDS.out
          have hc5 := ((shut hd' (n := w.heap.size + 1) hDs (.deferred none)).cell (p := ⟨w.heap.size, 0, none⟩) (by simp)).trans hz'.cell
          refine ⟨by simp, .inl ⟨_, _, rfl, run_takeDeferred hd', ?_⟩⟩
          exact ⟨.bool true, by simp [results, Tryd.f6, go_sem, hc5], rfl, (X3.out.bel.setCell (p := ⟨w.heap.size, 0, none⟩) (by simp) _).trans (shut hd' (by omega) _)⟩
      · go_wp2_with fail
        refine (each17_nil b _ al _ W6.out.all (by have := HAl.out; omega)).mono ?_
        rintro e w8 ⟨p, q, rfl, hb8, ⟨hp1, hp2, hq1, hq2⟩, hpc⟩
        have HPC := hid hpc
        have HB8 := hid hb8
        clear hpc hb8
        go_wp2_with fail
        refine wpIn_wide.1 (over_func (n := 3) (gf := 29) (lb := #[.pointer (some ⟨p, 0, none⟩), .pointer (some ⟨q, 0, none⟩)]) rfl (enters_of Tryd.func29 (by kernel_rfl) rfl)
          (tells_nil 2 q p _ (fun _ => #[undef, undef])) (fun _ => rfl) hq2 (fun U V h k => (k.cell (p := ⟨p, 0, none⟩) hp2).trans h) HPC.out
          (fun _ W => Below w6.heap.size w6 W) (fun _ _ _ => False)
          (fun k U V h kk => h.trans ⟨kk.os, kk.tape, kk.output, kk.size, fun i hi => kk.block i (by omega) (by omega)⟩) (fun _ _ _ _ h _ => h)
          HB8.out
          (fun _ => { tmps := #[], defers := [] }) ?assign ?body ?done ?stop)
        case assign =>
          intro l k W K hk _
          exact absurd hk (by omega)
        case body =>
          intro l k W hk
          exact absurd hk (by omega)
        case stop =>
          intro D c k W _ _ h _
          exact h.elim
        case done =>
          rintro D W hD hbW _ hd
          have hDW := (Array.getElem?_eq_some_iff.1 hd).1
          have X0 := hid (W6.out.below hbW)
          have D0 := hid hd
          have hDs : w.heap.size + 1 ≤ D := by have := X0.out.lt; have := W6.out.gear.lt; have := hbW.size; omega
          have HDS := hid hDs
          clear hd hbW hD HB8 HPC hp1 hp2 hq1 hq2 W6 hDs
          go_wp2_with fail
          refine (row10_nil 1 _).mono ?_
          rintro e W1 ⟨rfl, hw⟩
          subst W1
          go_wp2_with fail
          refine (roll12_nil 5 1 _).mono ?_
          rintro e W1 ⟨rfl, hw⟩
          subst W1
          go_wp2_with fail
          refine (hash13_nil _ _ _ _).mono ?_
          rintro e W1 ⟨rfl, hb⟩
          have X1 := hid (X0.out.below hb)
          have D1 : Hid (W1.heap[D]? = some (.deferred (some []))) := (hb.block D hDW).trans D0.out
          have hD1 : D < W1.heap.size := Nat.lt_of_lt_of_le hDW hb.size
          clear hb X0 D0 hDW
          go_wp2_with fail
          refine (find15_nil _ _ _ 0 _).mono ?_
          rintro e W2 ⟨rfl, hb⟩
          have X2 := hid (X1.out.below hb)
          have D2 : Hid (W2.heap[D]? = some (.deferred (some []))) := (hb.block D hD1).trans D1.out
          have hD2 : D < W2.heap.size := Nat.lt_of_lt_of_le hD1 hb.size
          clear hb X1 D1 hD1
          go_wp2_with fail
          refine (alive_any _ (HT.out.below X2.out.bel h1)).mono ?_
          rintro e W3 ⟨rfl, hb⟩
          have X3 := hid (X2.out.below hb)
          have D3 : Hid (W3.heap[D]? = some (.deferred (some []))) := (hb.block D hD2).trans D2.out
          clear hb X2 D2 hD2
          have c6 := X3.out.box.cell
          have f6 := X3.out.box.frozen
          go_wp2_with fail
          have hd' := (KeepsOthers.setCell W3 ⟨w.heap.size, 0, none⟩ (.bool true)).same D _ D3.out rfl
          have hz' := X3.out.box.set (.bool true)
          have hDs := HDS.out
          have hc5 := ((shut hd' (n := w.heap.size + 1) hDs (.deferred none)).cell (p := ⟨w.heap.size, 0, none⟩) (by simp)).trans hz'.cell
          refine ⟨by simp, .inl ⟨_, _, rfl, run_takeDeferred hd', ?_⟩⟩
          exact ⟨.bool true, by simp [results, Tryd.f6, go_sem, hc5], rfl, (X3.out.bel.setCell (p := ⟨w.heap.size, 0, none⟩) (by simp) _).trans (shut hd' (by omega) _)⟩

set_option maxHeartbeats 1000000 in
set_option maxRecDepth 100000 in
theorem window_other (s : Nat) (aa ab : Option Addr) (la lb ca cb : Nat) (w : World) (hl : 300 < la ∨ 300 < lb) (hla : la ≤ 9223372036854775807) (hlb : lb ≤ 9223372036854775807) (hT : Tab w) :
    Calls Tryd.prog 6 #[.int .u64 s, .slice aa la ca, .slice ab lb cb] w fun e w' => e = .returned (.bool true) ∧ Below w.heap.size w w' := by
  have HT := hid hT
  clear hT
  have h1 : 1 < w.heap.size := HT.out.lt
  have hd : decide ((300 : Int) < (la : Int)) = true ∨ (decide ((300 : Int) < (la : Int)) = false ∧ decide ((300 : Int) < (lb : Int)) = true) := by
    by_cases h : 300 < la
    · exact .inl (by simp; omega)
    · exact .inr ⟨by simp; omega, by simp; omega⟩
  refine (callsIn_wide (n := 3)).1 ?_
  refine callsIn_of_wp_marks Tryd.func6 rfl trivial ?_ rfl
  refine wpIn_wide.2 ?_
  simp only [Tryd.ntmps6, List.size_toArray, List.length_cons, List.length_nil, Nat.reduceAdd, Nat.reduceSub, Array.replicate_succ, Array.replicate_zero, List.push_toArray, List.append_toArray, List.nil_append, List.cons_append]
  clear hl
  rcases hd with hd | ⟨hd, hd2⟩
  all_goals
    go_wp2_with fail
    have B0 := hid ((Below.refl w.heap.size w).alloc (Nat.le_refl _) (.cells #[.bool false] 4))
    have R0 := hid (Boxed.new w 4 (.bool false))
    generalize w.alloc (.cells #[.bool false] 4) = W0 at *
    refine (alive_any _ (HT.out.below B0.out h1)).mono ?_
    rintro e w1 ⟨rfl, hb⟩
    have B1 := hid (B0.out.trans (hb.mono B0.out.size))
    have R1 : Hid (Boxed w1 w.heap.size 4 (.bool false)) := (hb.block _ R0.out.lt).trans R0.out
    clear hb B0 R0
    have c6 := R1.out.cell
    have f6 := R1.out.frozen
    go_wp2_with fail
    have hz' := (R1.out.set (.bool true)).cell
    exact ⟨.bool true, by simp [results, Tryd.f6, go_sem, hz'], rfl, B1.out.setCell (p := ⟨w.heap.size, 0, none⟩) (Nat.le_refl _) _⟩

end Go.Proofs.YtbilecmclmlnpaaDoor
