/- Of the proof: the texts FrRecord, CrcOpen, FrTake, FrRange, FrScanM, one behind the other. -/
import Derived.Test.YtaaioaocjfpajaaGreatDoorB7
import Derived.Deep.RegionLaw
import Derived.Deep.RegionHeld3
import Derived.Test.YtaaioaocjfpajaaGreatDoorB6
import Derived.Deep.DeepCutAuto
import Derived.Laws.Cover3
import Derived.Deep.RegionWith
import Derived.RangeFuncNested
import Derived.RangeFuncBound
import Derived.RangeFuncCalls
import Derived.RangeFuncLeaves
import Derived.Shelf.Abstract
import Derived.Shelf.RegionOpen
import Derived.OwnWalkIn
import Derived.TacticsInMore
import Derived.LoopNIn
import Derived.LoopIn
section
/-
  The record whose value a tree is, as the program finds it.
-/
namespace Go.Proofs.YtaaioaocjfpajaaGreatDoor
open Go.RowKit
open Tlv (Tr BySlS AgreeS Agree)
open Crc (hid Kept Tab)

theorem step_copy {P : Program} {ops : Array Oper} {o : Oper} {a : Act} {K : Act → World → Prop} {Q : Exit → Act → World → Prop} {E : Prop} (w : World) (hgd : o.guard = none) (d s : Operand) (dT sT : TypeId)
    (ho : o.op = .call { callee := .builtin .copy, args := #[d, s], argTypes := #[dT, sT] }) (elem : TypeId) (hu : P.underlying dT = some (.slice elem)) (hsz : (P.info? elem).map (·.size) = some 1)
    (g off dLen dCap : Nat) (ad : Addr) (sLen sCap : Nat) (hd : a.eval d = .slice (some ⟨g, off, none⟩) dLen dCap) (hs : a.eval s = .slice (some ad) sLen sCap)
    (cs : List Value) (hn : cs.length = Nat.min sLen dLen)
    (hsrc : ∀ j v, cs[j]? = some v → w.cell? (ad.add j) = some v) (ht : w.there g off cs.length) (h1 : ∀ v ∈ cs, v.oneCell' = true)
    (h : K (a.put o.dst (goInt cs.length)) (w.setCells g off cs)) : if Region.wanted o (yielded ops a.tmps) = true then Oper.wp P o a w K Q else E := by
  have hw : Region.wanted o (yielded ops a.tmps) = true := by simp [Region.wanted, hgd]
  rw [if_pos hw]
  have hrun := run_copy_cells (P := P) w dT sT o.type elem g off dLen dCap ad sLen sCap cs hu hsz hn hsrc (fun j hj => (ht j hj).1) (fun j hj => (ht j hj).2) h1
  unfold Oper.wp
  simp [execOp, ho, resolve, invoke, builtin, hd, hs, hrun, Result.andThen]
  exact h

theorem yields_build2 {P : Program} {ops : Array Oper} {S : World → Prop} {o : Oper} {a : Act} (hw : Region.wanted o (yielded ops a.tmps) = true) (t : TypeId) (i j : Nat) (x y : Operand) (ho : o.op = .build t #[(i, x), (j, y)])
    (vx vy : Value) (hx : a.eval x = vx) (hy : a.eval y = vy) (C : Array Value) (hb : P.built t [(i, vx), (j, vy)] = some C) : YieldsIf P ops S o (.agg C) a :=
  .inl ⟨hw, fun w _ => by
    have e : P.built t ((#[(i, x), (j, y)] : Array (Nat × Operand)).map fun (i, x) => (i, a.eval x)).toList = some C := by
      rw [← hb]
      simp only [List.map_toArray, List.map_cons, List.map_nil, hx, hy]
    unfold execOp
    simp only [ho, Sem.run_bind, run_build w t _ C e, Result.andThen_ok]
    rfl⟩

theorem built35b (k : Int) (a : Option Addr) (l c : Nat) : Tryz.prog.built 56 [(0, .int .i64 k), (2, .slice a l c)] = some (recA k (List.replicate 32 0) (.slice a l c)).toArray := by kernel_rfl

/-- What lies at g: a record of kind k, of no name yet, with the body v. -/
def Half (w W : World) (k : Int) (nm : List Int) (v : Value) (g : Nat) : Prop := Below w.heap.size w W ∧ w.heap.size ≤ g ∧ g < W.heap.size ∧ W.rangeAt g 0 (recA k nm v) ∧ W.there g 0 34

theorem Half.drew {w W : World} {k : Int} {nm : List Int} {v : Value} {g : Nat} (h : Half w W k nm v g) : Half w W.drew k nm v g := by
  obtain ⟨h1, h2, h3, h4, h5⟩ := h
  exact ⟨h1.drew, h2, h3, by rwa [World.rangeAt_drew], by rwa [World.there_drew]⟩

theorem app_right {A A0 T : List Value} {i : Nat} (h : A.length = A0.length) (hi : A.length ≤ i) : (A ++ T)[i]? = (A0 ++ T)[i]? := by
  rw [List.getElem?_append_right hi, List.getElem?_append_right (by omega), h]

theorem Half.named {w W : World} {k : Int} {bn : List Int} {v : Value} {g : Nat} (h : Half w W k (List.replicate 32 0) v g) (ht : W.there g 1 (u8s (bn.take 32)).length) : Half w (W.setCells g 1 (u8s (bn.take 32))) k (pad32 bn) v g := by
  obtain ⟨h1, h2, h3, h4, h5⟩ := h
  refine ⟨h1.trans (setCells_below h2 _ _ _), h2, by rw [setCells_size]; exact h3, fun j u hj => ?_, World.there_setCells h5 _ _ _⟩
  have hl : (u8s (bn.take 32)).length = (bn.take 32).length := u8s_length _
  have hl2 : (bn.take 32).length ≤ 32 := by rw [List.length_take]; omega
  have key : j = 0 ∨ (1 ≤ j ∧ j < 1 + (bn.take 32).length) ∨ 1 + (bn.take 32).length ≤ j := by omega
  rcases key with rfl | ⟨j1, j2⟩ | j3
  · rw [Nat.zero_add, World.cell?_setCells_out g _ 1 W ⟨g, 0, none⟩ (fun _ _ => .inl (by simp))]
    exact h4 0 u hj
  · obtain ⟨i, rfl⟩ : ∃ i, j = 1 + i := ⟨j - 1, by omega⟩
    have hi : i < (u8s (bn.take 32)).length := by omega
    rw [Nat.zero_add, World.cell?_setCells_in g _ 1 W (fun i hi => (ht i hi).1) i hi, ← hj, recA, Nat.add_comm, List.getElem?_cons_succ, show u8s (pad32 bn) = u8s (bn.take 32) ++ u8s (List.replicate (32 - bn.length) 0) by simp [pad32, u8s], List.append_assoc, List.getElem?_append_left hi]
    exact (List.getElem?_eq_getElem hi).symm
  · rw [Nat.zero_add, World.cell?_setCells_out g _ 1 W ⟨g, j, none⟩ (fun _ _ => .inr (by show 1 + _ ≤ j; omega))]
    have h6 := h4 j u (by
      rw [← hj]
      obtain ⟨i, rfl⟩ : ∃ i, j = i + 1 := ⟨j - 1, by omega⟩
      rw [recA, recA, List.getElem?_cons_succ, List.getElem?_cons_succ]
      have e1 : u8s (pad32 bn) = u8s (bn.take 32) ++ u8s (List.replicate (32 - bn.length) 0) := by simp [pad32, u8s]
      have e2 : u8s (List.replicate 32 0) = u8s (List.replicate (bn.take 32).length 0) ++ u8s (List.replicate (32 - bn.length) 0) := by
        simp only [u8s, List.map_replicate, List.replicate_append_replicate]
        congr 1
        rw [List.length_take]
        omega
      rw [e1, e2, List.append_assoc, List.append_assoc]
      exact app_right (by rw [u8s_length, u8s_length]; simp) (by rw [u8s_length, List.length_replicate]; omega))
    rw [Nat.zero_add] at h6
    exact h6

set_option maxHeartbeats 4000000 in
set_option maxRecDepth 100000 in
theorem record_any (t : Tr 9) (sb sk : Value) (L B : Nat) (w : World) (h : Tlv.Rep L B w 9 t sb sk) (hB : B ≤ w.heap.size) (hr : (Tlv.bsz 9 t 65535 8).2 = true) :
    Calls Tryz.prog 133 #[.agg #[.int .i64 t.hd.1, .int .u64 t.hd.2.1, sb, sk]] w fun e w' => ((recOf t = none ∧ e = .returned (.tuple #[.agg zRec.toArray, .bool false])) ∨
      (∃ k nm bs a c, recOf t = some (k, nm, bs) ∧ e = .returned (.tuple #[.agg (recA k nm (.slice a bs.length c)).toArray, .bool true]) ∧ Tlv.BySl L B w' (.slice a bs.length c) bs ∧ nm.length = 32 ∧ ∀ x ∈ nm, 0 ≤ x ∧ x ≤ 255)) ∧ Below w.heap.size w w' := by
  have HREP := hid h
  obtain ⟨hn0, hn1, hby, hks⟩ := h
  obtain ⟨ab, cb, rfl, _⟩ := id hby
  obtain ⟨ak, ck, rfl, hk2, hk3, _, hkl, hk7⟩ := id hks
  have hz := zero35
  obtain ⟨Z, hZ⟩ : ∃ Z, zRec = Z := ⟨_, rfl⟩
  have HZ := hid hZ
  rw [hZ] at hz
  clear hZ
  by_cases h3 : t.kd.length = 3
  rotate_left
  · have hne : ((t.kd.length : Int) != 3) = true := by simp; omega
    have HRN : Hid (recOf t = none) := by
      rw [Hid, recOf]
      match hq : t.kd with
      | [] => rfl
      | [_] => rfl
      | [_, _] => rfl
      | [a, b, c] => rw [hq] at h3; simp at h3
      | _ :: _ :: _ :: _ :: _ => rfl
    clear hk7 hby hks h3 hr
    generalize t.kd.length = KL at *
    generalize t.hd.2.2 = bs at *
    generalize t.hd.2.1 = num at *
    generalize t.hd.1 = tag at *
    have HT : Hid (World.there ((w.alloc (.cells #[.int .i64 tag, .int .u64 num, .slice ab bs.length cb, .slice ak KL ck] 156)).alloc (.cells Z.toArray 56)) (w.heap.size + 1) 0 Z.toArray.size) := by
      have h := there_new (w.alloc (.cells #[.int .i64 tag, .int .u64 num, .slice ab bs.length cb, .slice ak KL ck] 156)) Z 56
      rw [Hid]
      simpa using h
    have HI2 : Hid ((Tryz.prog.info? 56).map (·.size) = some Z.toArray.size) := by rw [← HZ.out]; exact Tryz.info35
    have H1 : Hid (Z.toArray.all (·.oneCell') = true) := by rw [← HZ.out]; exact all_oneCell_toArray zRec_one
    go_enter Tryz.func133, Tryz.ntmps133
    go_wp2_with (refine wpList_store_mid (by rfl) 56 _ _ (by rfl) (w.heap.size + 1) 0 Z.toArray (by rfl) (by rfl) ?ht HI2.out H1.out ?_; (case ht => exact HT.out))
    have hr : World.rangeAt (((w.alloc (.cells #[.int .i64 tag, .int .u64 num, .slice ab bs.length cb, .slice ak KL ck] 156)).alloc (.cells Z.toArray 56)).setCells (w.heap.size + 1) 0 Z) (w.heap.size + 1) 0 Z := World.rangeAt_setCells_same _ _ _ _ HT.out
    refine bodyPost_ret (v := .tuple #[.agg Z.toArray, .bool false]) ?_ rfl ⟨.inl ⟨HRN.out, by rw [HZ.out]⟩, ?_⟩
    · exact results_cell_mid2 Tryz.results133 _ _ (w.heap.size + 1) 0 _ _ rfl hr Tryz.underlying56 rfl HI2.out
    · exact (((Below.refl _ _).alloc (Nat.le_refl _) _).alloc (by simp) _).trans (setCells_below (by omega) _ _ _)
  · obtain ⟨ka, kb, kc, hkd⟩ : ∃ ka kb kc, t.kd = [ka, kb, kc] := by
      match hq : t.kd with
      | [a, b, c] => exact ⟨a, b, c, rfl⟩
      | [] => rw [hq] at h3; simp at h3
      | [_] => rw [hq] at h3; simp at h3
      | [_, _] => rw [hq] at h3; simp at h3
      | _ :: _ :: _ :: _ :: _ => rw [hq] at h3; simp at h3
    obtain ⟨bk, ok, rfl, hbL, hbB, hcell⟩ := hk7 (by rw [hkd]; simp)
    have HREP3 : Hid (Tlv.Rep L B w 9 t (.slice ab t.hd.2.2.length cb) (.slice (some ⟨bk, ok, none⟩) 3 ck)) := by
      have h := HREP.out
      rwa [h3] at h
    obtain ⟨sa, ska, a0, a1, a2, a3, ra⟩ := hcell 0 ka (by rw [hkd]; rfl)
    obtain ⟨sbb, skb, b0, b1, b2, b3, rb⟩ := hcell 1 kb (by rw [hkd]; rfl)
    obtain ⟨sc, skc, c0, c1, c2, c3, rc⟩ := hcell 2 kc (by rw [hkd]; rfl)
    simp only [Nat.zero_mul, Nat.reduceMul, Nat.add_zero] at a1 b2 c2
    obtain ⟨an0, an1, _, _⟩ := ra
    obtain ⟨_, _, bby, _⟩ := rb
    obtain ⟨_, _, cby, _⟩ := rc
    obtain ⟨k, hk⟩ : ∃ k, wrap64 ka.hd.2.1 = k := ⟨_, rfl⟩
    have HEQ := hid (recOf_eq hkd hr an0 an1 hk.symm)
    have HCB := hid cby
    have HBB := hid bby
    obtain ⟨abb, cbb, rfl, hbb2, hbb3, hbb4, hbb5, hbb6, hbb7⟩ := id bby
    obtain ⟨ac, cc, rfl, _⟩ := id cby
    have HB7 := hid hbb7
    have HB4 := hid hbb4
    clear hcell a0 a2 a3 b0 b1 b3 c0 c1 c3 hbb7 hbb4 hk7 hby hks cby bby h3 hbb6
    rw [hkd]
    simp only [List.length_cons, List.length_nil, Nat.zero_add, Nat.reduceAdd]
    have HKB : Hid (bk < w.heap.size) := by rw [Hid]; omega
    have hK := HKB.out
    generalize hbn : kb.hd.2.2 = bn at *
    generalize hcs : kc.hd.2.2 = cs at *
    generalize hka : ka.hd.2.1 = num0 at *
    generalize hT2 : t.hd.2.2 = bs at *
    generalize hT1 : t.hd.2.1 = num at *
    generalize hT0 : t.hd.1 = tag at *
    have HK := hid hk
    have HH := hid (And.intro hT0 (And.intro hT1 hT2))
    clear hT0 hT1 hT2 hka hcs hbn
    go_enter Tryz.func133, Tryz.ntmps133
    go_wp2_with fail
    obtain ⟨W0, hW0⟩ : ∃ W0, (w.alloc (.cells #[.int .i64 tag, .int .u64 num, .slice ab bs.length cb, .slice (some ⟨bk, ok, none⟩) 3 ck] 156)).alloc (.cells Z.toArray 56) = W0 := ⟨_, rfl⟩
    have hbel : Below w.heap.size w W0 := by rw [← hW0]; exact ((Below.refl _ _).alloc (Nat.le_refl _) _).alloc (by simp) _
    have HBEL := hid hbel
    have d0 : W0.cell? ⟨w.heap.size, 0, none⟩ = some (.int .i64 tag) := by rw [← hW0, World.cell?_alloc_lt _ _ _ (by simp), World.cell?_alloc_at _ _ _ _ rfl]; rfl
    have d1 : W0.cell? ⟨w.heap.size, 1, none⟩ = some (.int .u64 num) := by rw [← hW0, World.cell?_alloc_lt _ _ _ (by simp), World.cell?_alloc_at _ _ _ _ rfl]; rfl
    have d2 : W0.cell? ⟨w.heap.size, 2, none⟩ = some (.slice ab bs.length cb) := by rw [← hW0, World.cell?_alloc_lt _ _ _ (by simp), World.cell?_alloc_at _ _ _ _ rfl]; rfl
    have d3 : W0.cell? ⟨w.heap.size, 3, none⟩ = some (.slice (some ⟨bk, ok, none⟩) 3 ck) := by rw [← hW0, World.cell?_alloc_lt _ _ _ (by simp), World.cell?_alloc_at _ _ _ _ rfl]; rfl
    have HTR : Hid (W0.there (w.heap.size + 1) 0 34) := by
      have h := there_new (w.alloc (.cells #[.int .i64 tag, .int .u64 num, .slice ab bs.length cb, .slice (some ⟨bk, ok, none⟩) 3 ck] 156)) Z 56
      rw [hW0, ← HZ.out, zRec_length] at h
      rw [Hid]
      simpa using h
    have HD := hid (And.intro d0 (And.intro d1 (And.intro d2 d3)))
    have hz0 : w.heap.size + 1 < W0.heap.size := by rw [← hW0]; simp
    have hz1 : w.heap.size < W0.heap.size := by omega
    have hz2 : bk < W0.heap.size := by omega
    replace a1 := (hbel.cell (p := ⟨bk, ok + 1, none⟩) hK).trans a1
    replace b2 := (hbel.cell (p := ⟨bk, ok + 4 + 2, none⟩) hK).trans b2
    replace c2 := (hbel.cell (p := ⟨bk, ok + 8 + 2, none⟩) hK).trans c2
    rw [hW0]
    clear hW0 hbel
    go_cut [4] (fun p wx => ∃ g, p = .pointer (some ⟨g, 0, none⟩) ∧ Hid (Half W0 wx k (List.replicate 32 0) (.slice ac cs.length cc) g))
    case first =>
      obtain ⟨C0, hC0⟩ : ∃ C0, recA k (List.replicate 32 0) (.slice ac cs.length cc) = C0 := ⟨_, rfl⟩
      have HC0L : Hid (C0.length = 34) := by rw [← hC0]; exact recA_length _ _ _ (by simp)
      have HBU : Hid (Tryz.prog.built 56 [(0, .int .i64 k), (2, .slice ac cs.length cc)] = some C0.toArray) := by rw [← hC0]; exact built35b _ _ _ _
      have HI0 : Hid ((Tryz.prog.info? 56).map (·.size) = some C0.toArray.size) := by rw [Hid, show C0.toArray.size = 34 from HC0L.out]; exact Tryz.info35
      have H10 : Hid (C0.toArray.all (·.oneCell') = true) := by rw [← hC0]; exact all_oneCell_toArray (recA_one _ _ _ _ _)
      have HT0 : Hid (World.there (W0.drew.alloc (.cells Z.toArray 56)) W0.heap.size 0 C0.toArray.size) := by
        have h := there_new W0.drew Z 56
        rw [← HZ.out, zRec_length] at h
        rw [Hid, show C0.toArray.size = 34 from HC0L.out, ← HZ.out]
        exact h
      have HS1 : Hid (Below W0.heap.size W0 (W0.drew.alloc (.cells Z.toArray 56))) := (Below.refl _ _).drew.alloc (Nat.le_refl _) _
      have HS2 : Hid (Below W0.heap.size W0 ((W0.drew.alloc (.cells Z.toArray 56)).setCells W0.heap.size 0 C0)) := HS1.out.trans (setCells_below (Nat.le_refl _) _ _ _)
      have HALF : Hid (Half W0 ((W0.drew.alloc (.cells Z.toArray 56)).setCells W0.heap.size 0 C0) k (List.replicate 32 0) (.slice ac cs.length cc) W0.heap.size) := by
        refine ⟨HS2.out, Nat.le_refl _, by rw [setCells_size]; simp, ?_, ?_⟩
        · rw [hC0]
          exact World.rangeAt_setCells_same _ _ _ _ HT0.out
        · have h := World.there_setCells HT0.out W0.heap.size 0 C0
          rwa [show C0.toArray.size = 34 from HC0L.out] at h
      clear hC0
      have hkw : IntKind.i64.wrap num0 = k := by have h := hk; unfold wrap64 at h; rw [IntKind.wrap_i64]; exact h
      refine wp_region_held_drew (S := fun V => Below W0.heap.size W0 V) (by kernel_rfl) (Below.refl _ _).drew (fun hHeld => ?_)
      refine wpAnyH_take (i := 0) (oi := { dst := some 10, op := Op.fieldAddr 156 (Operand.tmp 1) 3, type := 0, pos := "frame.go:108", after := #[], guard := none }) (v := .pointer (some ⟨w.heap.size, 3, none⟩)) rfl (by kernel_rfl) (by kernel_rfl) (by kernel_rfl) (fun _ _ _ h => h) (Or.inl ⟨by rfl, fun w' hw' => by (clear hw'; go_simp)⟩) hHeld ?_
      simp only [Act.put, List.setIfInBounds_toArray, List.set_cons_zero, List.set_cons_succ]
      refine wpAnyH_take (i := 1) (oi := { dst := some 11, op := Op.load 154 (Operand.tmp 10), type := 154, pos := "frame.go:108", after := #[{ on := 0, ground := Ground.data }], guard := none }) (v := .slice (some ⟨bk, ok, none⟩) 3 ck) rfl (by kernel_rfl) (by kernel_rfl) (by kernel_rfl) (fun _ _ _ h => h) (Or.inl ⟨by rfl, fun w' hw' => by (have q := (hw'.cell (p := ⟨w.heap.size, 3, none⟩) hz1).trans d3; clear hw'; go_simp)⟩) hHeld ?_
      simp only [Act.put, List.setIfInBounds_toArray, List.set_cons_zero, List.set_cons_succ]
      refine wpAnyH_take (i := 2) (oi := { dst := some 12, op := Op.indexAddr 154 (Operand.tmp 11) (Operand.const (Value.int IntKind.i64 0)), type := 0, pos := "frame.go:108", after := #[{ on := 1, ground := Ground.data }], guard := none }) (v := .pointer (some ⟨bk, ok, none⟩)) rfl (by kernel_rfl) (by kernel_rfl) (by kernel_rfl) (fun _ _ _ h => h) (Or.inl ⟨by rfl, fun w' hw' => by (clear hw'; go_simp)⟩) hHeld ?_
      simp only [Act.put, List.setIfInBounds_toArray, List.set_cons_zero, List.set_cons_succ]
      refine wpAnyH_take (i := 3) (oi := { dst := some 13, op := Op.fieldAddr 156 (Operand.tmp 12) 1, type := 0, pos := "frame.go:108", after := #[{ on := 2, ground := Ground.data }], guard := none }) (v := .pointer (some ⟨bk, ok + 1, none⟩)) rfl (by kernel_rfl) (by kernel_rfl) (by kernel_rfl) (fun _ _ _ h => h) (Or.inl ⟨by rfl, fun w' hw' => by (clear hw'; go_simp)⟩) hHeld ?_
      simp only [Act.put, List.setIfInBounds_toArray, List.set_cons_zero, List.set_cons_succ]
      refine wpAnyH_take (i := 4) (oi := { dst := some 14, op := Op.load 153 (Operand.tmp 13), type := 153, pos := "frame.go:108", after := #[{ on := 3, ground := Ground.data }], guard := none }) (v := .int .u64 num0) rfl (by kernel_rfl) (by kernel_rfl) (by kernel_rfl) (fun _ _ _ h => h) (Or.inl ⟨by rfl, fun w' hw' => by (have q := (hw'.cell (p := ⟨bk, ok + 1, none⟩) hz2).trans a1; clear hw'; go_simp)⟩) hHeld ?_
      simp only [Act.put, List.setIfInBounds_toArray, List.set_cons_zero, List.set_cons_succ]
      refine wpAnyH_take (i := 5) (oi := { dst := some 15, op := Op.convert 153 3 (Operand.tmp 14), type := 3, pos := "frame.go:108", after := #[{ on := 4, ground := Ground.data }], guard := none }) (v := .int .i64 k) rfl (by kernel_rfl) (by kernel_rfl) (by kernel_rfl) (fun _ _ _ h => h) (Or.inl ⟨by rfl, fun w' hw' => by (clear hw'; go_simp)⟩) hHeld ?_
      simp only [Act.put, List.setIfInBounds_toArray, List.set_cons_zero, List.set_cons_succ]
      refine wpAnyH_take (i := 6) (oi := { dst := some 16, op := Op.fieldAddr 156 (Operand.tmp 1) 3, type := 0, pos := "frame.go:108", after := #[], guard := none }) (v := .pointer (some ⟨w.heap.size, 3, none⟩)) rfl (by kernel_rfl) (by kernel_rfl) (by kernel_rfl) (fun _ _ _ h => h) (Or.inl ⟨by rfl, fun w' hw' => by (clear hw'; go_simp)⟩) hHeld ?_
      simp only [Act.put, List.setIfInBounds_toArray, List.set_cons_zero, List.set_cons_succ]
      refine wpAnyH_take (i := 7) (oi := { dst := some 17, op := Op.load 154 (Operand.tmp 16), type := 154, pos := "frame.go:108", after := #[{ on := 6, ground := Ground.data }], guard := none }) (v := .slice (some ⟨bk, ok, none⟩) 3 ck) rfl (by kernel_rfl) (by kernel_rfl) (by kernel_rfl) (fun _ _ _ h => h) (Or.inl ⟨by rfl, fun w' hw' => by (have q := (hw'.cell (p := ⟨w.heap.size, 3, none⟩) hz1).trans d3; clear hw'; go_simp)⟩) hHeld ?_
      simp only [Act.put, List.setIfInBounds_toArray, List.set_cons_zero, List.set_cons_succ]
      refine wpAnyH_take (i := 8) (oi := { dst := some 18, op := Op.indexAddr 154 (Operand.tmp 17) (Operand.const (Value.int IntKind.i64 2)), type := 0, pos := "frame.go:108", after := #[{ on := 7, ground := Ground.data }], guard := none }) (v := .pointer (some ⟨bk, ok + 8, none⟩)) rfl (by kernel_rfl) (by kernel_rfl) (by kernel_rfl) (fun _ _ _ h => h) (Or.inl ⟨by rfl, fun w' hw' => by (clear hw'; go_simp)⟩) hHeld ?_
      simp only [Act.put, List.setIfInBounds_toArray, List.set_cons_zero, List.set_cons_succ]
      refine wpAnyH_take (i := 9) (oi := { dst := some 19, op := Op.fieldAddr 156 (Operand.tmp 18) 2, type := 0, pos := "frame.go:108", after := #[{ on := 8, ground := Ground.data }], guard := none }) (v := .pointer (some ⟨bk, ok + 8 + 2, none⟩)) rfl (by kernel_rfl) (by kernel_rfl) (by kernel_rfl) (fun _ _ _ h => h) (Or.inl ⟨by rfl, fun w' hw' => by (clear hw'; go_simp)⟩) hHeld ?_
      simp only [Act.put, List.setIfInBounds_toArray, List.set_cons_zero, List.set_cons_succ]
      refine wpAnyH_take (i := 10) (oi := { dst := some 20, op := Op.load 54 (Operand.tmp 19), type := 54, pos := "frame.go:108", after := #[{ on := 9, ground := Ground.data }], guard := none }) (v := .slice ac cs.length cc) rfl (by kernel_rfl) (by kernel_rfl) (by kernel_rfl) (fun _ _ _ h => h) (Or.inl ⟨by rfl, fun w' hw' => by (have q := (hw'.cell (p := ⟨bk, ok + 8 + 2, none⟩) hz2).trans c2; clear hw'; go_simp)⟩) hHeld ?_
      simp only [Act.put, List.setIfInBounds_toArray, List.set_cons_zero, List.set_cons_succ]
      refine wpAnyH_take (i := 11) (oi := { dst := some 21, op := Op.build 56 #[(0, Operand.tmp 15), (2, Operand.tmp 20)], type := 56, pos := "frame.go:108", after := #[{ on := 5, ground := Ground.data }, { on := 10, ground := Ground.data }], guard := none }) (v := .agg C0.toArray) rfl (by kernel_rfl) (by kernel_rfl) (by kernel_rfl) (fun _ _ _ h => h) (yields_build2 (by rfl) _ _ _ _ _ rfl _ _ rfl rfl _ HBU.out) hHeld ?_
      simp only [Act.put, List.setIfInBounds_toArray, List.set_cons_zero, List.set_cons_succ]
      refine wpAnyH_ready (rs := [12]) (by kernel_rfl) (by simp) ?_
      refine AllReadyH.cons (o := { dst := some 4, op := Op.alloc 56, type := 0, pos := "frame.go:108", after := #[], guard := none }) rfl (fun K hK => ?_) AllReadyH.nil
      go_simp
      refine hK.out _ _ HS1.out (fun hh => ?_)
      clear hK K hHeld
      have hHeld := hh
      clear hh
      try simp only [Act.put, List.setIfInBounds_toArray, List.set_cons_zero, List.set_cons_succ]
      refine wpAnyH_ready (rs := [13]) (by kernel_rfl) (by simp) ?_
      refine AllReadyH.cons (o := { dst := none, op := Op.store 56 (Operand.tmp 4) (Operand.tmp 21), type := 0, pos := "frame.go:108", after := #[{ on := 12, ground := Ground.data }, { on := 11, ground := Ground.data }, { on := 0, ground := Ground.phase }, { on := 1, ground := Ground.phase }, { on := 2, ground := Ground.phase }, { on := 3, ground := Ground.phase }, { on := 4, ground := Ground.phase }, { on := 5, ground := Ground.phase }, { on := 6, ground := Ground.phase }, { on := 7, ground := Ground.phase }, { on := 8, ground := Ground.phase }, { on := 9, ground := Ground.phase }, { on := 10, ground := Ground.phase }, { on := 11, ground := Ground.phase }, { on := 12, ground := Ground.phase }], guard := none }) rfl (fun K hK => ?_) AllReadyH.nil
      rw [if_pos (by rfl)]
      refine wp_store_mid 56 _ _ (by rfl) W0.heap.size 0 C0.toArray (by rfl) (by rfl) HT0.out HI0.out H10.out ?_
      refine hK.out _ _ HS2.out (fun hh => ?_)
      clear hK K hHeld hh
      refine wpAnyH_done (by kernel_rfl) ?_ _
      go_wp2_with fail
      go_meet
      exact ⟨_, rfl, HALF.out⟩
    case rest =>
      obtain ⟨g, rfl, HALF⟩ := hcut
      obtain ⟨hb1, hg0, hg1, hr1, ht1⟩ := HALF.out
      have HB1 := hid hb1
      have HR1 := hid hr1
      have HT1 := hid ht1
      replace d0 := (hb1.cell (p := ⟨w.heap.size, 0, none⟩) hz1).trans d0
      replace d1 := (hb1.cell (p := ⟨w.heap.size, 1, none⟩) hz1).trans d1
      replace d2 := (hb1.cell (p := ⟨w.heap.size, 2, none⟩) hz1).trans d2
      replace d3 := (hb1.cell (p := ⟨w.heap.size, 3, none⟩) hz1).trans d3
      replace b2 := (hb1.cell (p := ⟨bk, ok + 4 + 2, none⟩) hz2).trans b2
      clear hb1 hr1 ht1 a1 c2 hz
      go_wp2_with fail
      go_cut [29] (fun _ wx => Hid (Half W0 wx k (pad32 bn) (.slice ac cs.length cc) g))
      case first =>
        clear d0 d1 d2
        cases abb with
        | none =>
          obtain ⟨rfl, rfl⟩ := HB4.out rfl
          have hcp : ∀ w, (Builtin.copy_ #[54, 54] 3 #[Value.slice (some ⟨g, 1, none⟩) 32 32, Value.slice none 0 0]).run Tryz.prog w = .ok (.int .i64 0) w := fun w => run_copy_none w _ _ _ 5 _ _ _ _ _ _ Tryz.underlying54 (by kernel_rfl) (by rfl)
          go_region
          all_goals (go_wp2_with fail; go_meet)
          all_goals exact HALF.out.drew
        | some ad =>
          obtain ⟨CS, hCS⟩ : ∃ CS, u8s (bn.take 32) = CS := ⟨_, rfl⟩
          have HCL : Hid (CS.length = Nat.min bn.length 32) := by rw [Hid, ← hCS, u8s_length, List.length_take, Nat.min_comm]
          have HCO : Hid (∀ v ∈ CS, v.oneCell' = true) := by rw [← hCS]; exact u8s_one _
          have HCT : Hid (World.there wc.drew g 1 CS.length) := by
            intro j hj
            have h1 := HCL.out
            have h2 : Nat.min bn.length 32 ≤ 32 := Nat.min_le_right _ _
            have h := HT1.out (1 + j) (by omega)
            rw [Nat.zero_add] at h
            simpa using h
          have HSR : Hid (∀ j v, CS[j]? = some v → wc.drew.cell? (ad.add j) = some v) := by
            intro j v hj
            have hb := HBB.out.agree (Agree.below (HBEL.out.mono hB)) (Nat.le_refl _) (Nat.le_refl _)
            have hb' := hb.agree (Agree.below (HB1.out.mono (Nat.le_trans hB HBEL.out.size))) (Nat.le_refl _) (Nat.le_refl _)
            refine Tlv.bytes_news (B := B) (w := wc) (w' := wc.drew) (bs := bn) (l := bn.length) (c := cbb) (hb'.agree (Agree.refl _ _ _) (Nat.zero_le _) (Nat.le_refl _)) (Below.refl _ _).drew j v ?_
            rw [← hCS, u8s, List.map_take] at hj
            have hlt : j < 32 := by
              have := (List.getElem?_eq_some_iff.1 hj).1
              simp at this
              omega
            rwa [List.getElem?_take_of_lt hlt] at hj
          have HNX : Hid (Half W0 (wc.drew.setCells g 1 CS) k (pad32 bn) (.slice ac cs.length cc) g) := by
            rw [← hCS]
            exact HALF.out.drew.named (by rw [hCS]; exact HCT.out)
          have HI5 : Hid ((Tryz.prog.info? 5).map (·.size) = some 1) := by rw [Hid]; kernel_rfl
          clear hCS
          go_region_law (refine step_copy _ (by rfl) (.tmp 23) (.tmp 28) 54 54 (by rfl) 5 Tryz.underlying54 HI5.out g 1 32 32 ad bn.length cbb (by rfl) (by rfl) CS HCL.out HSR.out HCT.out HCO.out ?_)
          all_goals (go_wp2_with fail; go_meet)
          all_goals exact HNX.out
      case rest =>
        obtain ⟨V2, rfl⟩ : ∃ V2, V2 = wc := ⟨_, rfl⟩
        obtain ⟨hb2, hg0', hg2, hr2, ht2⟩ := hcut.out
        clear hcut HALF HR1 HT1 HB1 b2 hg1 d3
        have HB2 := hid hb2
        have HBW : Hid (Below w.heap.size w V2) := HBEL.out.trans (hb2.mono HBEL.out.size)
        obtain ⟨d0, d1, d2, d3⟩ := HD.out
        have HD0 := hid ((hb2.cell (p := ⟨w.heap.size, 0, none⟩) hz1).trans d0)
        have HD1 := hid ((hb2.cell (p := ⟨w.heap.size, 1, none⟩) hz1).trans d1)
        have HD2 := hid ((hb2.cell (p := ⟨w.heap.size, 2, none⟩) hz1).trans d2)
        have HD3 := hid ((hb2.cell (p := ⟨w.heap.size, 3, none⟩) hz1).trans d3)
        have HTR2 := hid (there_below HTR.out hb2 hz0)
        have hzw : w.heap.size + 1 < V2.heap.size := by have := hb2.size; omega
        clear d0 d1 d2 d3 HD
        have hc0 := recA_0 k (pad32 bn) (.slice ac cs.length cc)
        have hc33 := recA_33 k (pad32 bn) (.slice ac cs.length cc) (pad32_length _)
        have HKL := hid (recA_length k (pad32 bn) (.slice ac cs.length cc) (pad32_length _))
        have HKO := hid (recA_one k (pad32 bn) ac cs.length cc)
        have HV := hid (value_any k (pad32 bn) cs (.slice ac cs.length cc))
        obtain ⟨C, hC⟩ : ∃ C, recA k (pad32 bn) (.slice ac cs.length cc) = C := ⟨_, rfl⟩
        rw [hC] at hc0 hc33 HKL HKO HV hr2
        have HC := hid hC
        have HR2 := hid hr2
        have HIC : Hid ((Tryz.prog.info? 56).map (·.size) = some C.length) := by rw [Hid, HKL.out]; exact Tryz.info35
        have hld : ∀ V, Below V2.heap.size V2 V → (Instr.loadAt 56 (.pointer (some ⟨g, 0, none⟩))).run Tryz.prog V = .ok (.agg C.toArray) V := fun V hV => run_loadAt_mid V g 0 56 C _ (rangeAt_below HR2.out hV hg2) Tryz.underlying56 rfl HIC.out
        have hl0 : ∀ V, Below V2.heap.size V2 V → V.cell? ⟨w.heap.size, 0, none⟩ = some (.int .i64 tag) := fun V hV => (hV.cell (p := ⟨w.heap.size, 0, none⟩) (by simp; omega)).trans HD0.out
        have hl1 : ∀ V, Below V2.heap.size V2 V → V.cell? ⟨w.heap.size, 1, none⟩ = some (.int .u64 num) := fun V hV => (hV.cell (p := ⟨w.heap.size, 1, none⟩) (by simp; omega)).trans HD1.out
        have hl2 : ∀ V, Below V2.heap.size V2 V → V.cell? ⟨w.heap.size, 2, none⟩ = some (.slice ab bs.length cb) := fun V hV => (hV.cell (p := ⟨w.heap.size, 2, none⟩) (by simp; omega)).trans HD2.out
        have hl3 : ∀ V, Below V2.heap.size V2 V → V.cell? ⟨w.heap.size, 3, none⟩ = some (.slice (some ⟨bk, ok, none⟩) 3 ck) := fun V hV => (hV.cell (p := ⟨w.heap.size, 3, none⟩) (by simp; omega)).trans HD3.out
        have HCB2 := hid (HCB.out.agree (Agree.below (HBW.out.mono hB)) (Nat.le_refl _) (Nat.le_refl _))
        have HTB : Hid (∀ x ∈ pad32 bn, 0 ≤ x ∧ x ≤ 255) := by
          rw [Hid]
          intro x hx
          obtain ⟨_, _, _, _, _, _, _, h6, _⟩ := HBB.out
          rcases List.mem_append.1 hx with hx | hx
          · exact h6 x (List.mem_of_mem_take hx)
          · rw [(List.mem_replicate.1 hx).2]; omega
        clear hC hr2 hb2
        obtain ⟨okb, hokb⟩ : ∃ okb, (rightB k cs.length && Tlv.sameT 9 t 2 (recT k (pad32 bn) cs)) = okb := ⟨_, rfl⟩
        have HOK := hid hokb
        clear hokb
        go_wp2_with fail
        go_cut [39] (fun c wx => c = .bool (!okb) ∧ Hid (Below V2.heap.size V2 wx))
        case first =>
          cases hrb : rightB k cs.length with
          | false =>
            have HRB := hid hrb
            have HOF : Hid (okb = false) := by rw [Hid, ← HOK.out, hrb]; rfl
            clear hrb
            refine wp_region_held_drew (S := fun V => Below V2.heap.size V2 V) (by kernel_rfl) (Below.refl _ _).drew (fun hHeld => ?_)
            refine wpAnyH_take (i := 0) (oi := { dst := some 30, op := Op.load 56 (Operand.tmp 4), type := 56, pos := "frame.go:110", after := #[], guard := none }) (v := .agg C.toArray) rfl (by kernel_rfl) (by kernel_rfl) (by kernel_rfl) (fun _ _ _ h => h) (yieldsIf_load_mid (by rfl) _ _ rfl g 0 rfl C _ (fun V hV => rangeAt_below HR2.out hV hg2) Tryz.underlying56 rfl HIC.out) hHeld ?_
            simp only [Act.put, List.setIfInBounds_toArray, List.set_cons_zero, List.set_cons_succ]
            refine wpAnyH_ready (rs := [1]) (by kernel_rfl) (by simp) ?_
            refine AllReadyH.cons (o := { dst := some 31, op := Op.call { callee := Callee.value (Operand.func 71), args := #[Operand.tmp 30], argTypes := #[56] }, type := 4, pos := "frame.go:110", after := #[{ on := 0, ground := Ground.data }], guard := none }) rfl (fun K hK => ?_) AllReadyH.nil
            go_simp
            refine (right13_any C k _ _ _ _ hc0 hc33).mono ?_
            rintro e w3 ⟨rfl, hb3⟩
            rw [HRB.out]
            have HK3 : Hid (Below V2.heap.size V2 w3) := (Below.refl _ _).drew.trans hb3
            clear hb3
            go_wp2_with fail
            refine hK.out _ _ (HK3.out) (fun hh => ?_)
            clear hK K hHeld
            have hHeld := hh
            clear hh
            try simp only [Act.put, List.setIfInBounds_toArray, List.set_cons_zero, List.set_cons_succ]
            refine wpAnyH_take (i := 2) (oi := { dst := some 32, op := Op.unOp UnOp.not 4 (Operand.tmp 31), type := 4, pos := "frame.go:110", after := #[{ on := 1, ground := Ground.data }], guard := none }) (v := .bool true) rfl (by kernel_rfl) (by kernel_rfl) (by kernel_rfl) (fun _ _ _ h => h) (Or.inl ⟨by rfl, fun w' hw' => by (clear hw'; go_simp)⟩) hHeld ?_
            simp only [Act.put, List.setIfInBounds_toArray, List.set_cons_zero, List.set_cons_succ]
            refine wpAnyH_take (i := 3) (oi := { dst := some 33, op := Op.move (Operand.tmp 32), type := 4, pos := "frame.go:110", after := #[{ on := 2, ground := Ground.data }, { on := 1, ground := Ground.chain }], guard := none }) (v := .bool true) rfl (by kernel_rfl) (by kernel_rfl) (by kernel_rfl) (fun _ _ _ h => h) (Or.inl ⟨by rfl, fun w' hw' => by (clear hw'; go_simp)⟩) hHeld ?_
            simp only [Act.put, List.setIfInBounds_toArray, List.set_cons_zero, List.set_cons_succ]
            refine wpAnyH_take (i := 4) (oi := { dst := some 34, op := Op.load 156 (Operand.tmp 1), type := 156, pos := "frame.go:110", after := #[{ on := 3, ground := Ground.guard }], guard := some (3, false) }) (v := undef) rfl (by kernel_rfl) (by kernel_rfl) (by kernel_rfl) (fun _ _ _ h => h) (Or.inr ⟨by rfl, rfl⟩) hHeld ?_
            simp only [Act.put, List.setIfInBounds_toArray, List.set_cons_zero, List.set_cons_succ]
            refine wpAnyH_take (i := 5) (oi := { dst := some 35, op := Op.load 56 (Operand.tmp 4), type := 56, pos := "frame.go:110", after := #[{ on := 3, ground := Ground.guard }], guard := some (3, false) }) (v := undef) rfl (by kernel_rfl) (by kernel_rfl) (by kernel_rfl) (fun _ _ _ h => h) (Or.inr ⟨by rfl, rfl⟩) hHeld ?_
            simp only [Act.put, List.setIfInBounds_toArray, List.set_cons_zero, List.set_cons_succ]
            refine wpAnyH_take (i := 6) (oi := { dst := some 36, op := Op.call { callee := Callee.value (Operand.func 73), args := #[Operand.tmp 35], argTypes := #[56] }, type := 156, pos := "frame.go:110", after := #[{ on := 5, ground := Ground.data }, { on := 3, ground := Ground.chain }, { on := 3, ground := Ground.guard }], guard := some (3, false) }) (v := undef) rfl (by kernel_rfl) (by kernel_rfl) (by kernel_rfl) (fun _ _ _ h => h) (Or.inr ⟨by rfl, rfl⟩) hHeld ?_
            simp only [Act.put, List.setIfInBounds_toArray, List.set_cons_zero, List.set_cons_succ]
            refine wpAnyH_take (i := 7) (oi := { dst := some 37, op := Op.call { callee := Callee.value (Operand.func 172), args := #[Operand.tmp 34, Operand.tmp 36], argTypes := #[156, 156] }, type := 4, pos := "frame.go:110", after := #[{ on := 4, ground := Ground.data }, { on := 6, ground := Ground.data }, { on := 6, ground := Ground.chain }, { on := 3, ground := Ground.guard }], guard := some (3, false) }) (v := undef) rfl (by kernel_rfl) (by kernel_rfl) (by kernel_rfl) (fun _ _ _ h => h) (Or.inr ⟨by rfl, rfl⟩) hHeld ?_
            simp only [Act.put, List.setIfInBounds_toArray, List.set_cons_zero, List.set_cons_succ]
            refine wpAnyH_take (i := 8) (oi := { dst := some 38, op := Op.unOp UnOp.not 4 (Operand.tmp 37), type := 4, pos := "frame.go:110", after := #[{ on := 7, ground := Ground.data }, { on := 3, ground := Ground.guard }], guard := some (3, false) }) (v := undef) rfl (by kernel_rfl) (by kernel_rfl) (by kernel_rfl) (fun _ _ _ h => h) (Or.inr ⟨by rfl, rfl⟩) hHeld ?_
            simp only [Act.put, List.setIfInBounds_toArray, List.set_cons_zero, List.set_cons_succ]
            refine wpAnyH_take (i := 9) (oi := { dst := some 39, op := Op.pick (Operand.tmp 33) (Operand.const (Value.bool true)) (Operand.tmp 38), type := 4, pos := "frame.go:110", after := #[{ on := 3, ground := Ground.data }, { on := 8, ground := Ground.data }], guard := none }) (v := .bool true) rfl (by kernel_rfl) (by kernel_rfl) (by kernel_rfl) (fun _ _ _ h => h) (Or.inl ⟨by rfl, fun w' hw' => by (clear hw'; go_simp)⟩) hHeld ?_
            simp only [Act.put, List.setIfInBounds_toArray, List.set_cons_zero, List.set_cons_succ]
            refine wpAnyH_done (by kernel_rfl) ?_ _
            go_wp2_with fail
            go_meet
            exact ⟨by rw [HOF.out]; rfl, HK3.out⟩
          | true =>
            have HRB := hid hrb
            have HOF : Hid (Tlv.sameT 9 t 2 (recT k (pad32 bn) cs) = okb) := by rw [Hid, ← HOK.out, hrb]; rfl
            have hkb : 1 ≤ k ∧ k ≤ 9 := by have h := hrb; simp [rightB] at h; omega
            clear hrb
            have HVV : Hid (∀ V, Below V2.heap.size V2 V → Calls Tryz.prog 73 #[.agg C.toArray] V fun e w' => ∃ a3 l3 p3 a4 l4 p4, e = .returned (.agg #[.int .i64 3, .int .u64 0, .slice a3 l3 p3, .slice a4 l4 p4]) ∧ Tlv.Rep 0 w'.heap.size w' 2 (recT k (pad32 bn) cs) (.slice a3 l3 p3) (.slice a4 l4 p4) ∧ Below V.heap.size V w') := by
              intro V hV
              have hcb := HCB2.out.agree (Agree.below (hV.mono (Nat.le_trans hB HBW.out.size))) (Nat.zero_le _) (Nat.le_trans hB (Nat.le_trans HBW.out.size hV.size))
              refine (HV.out V hkb.1 hkb.2 (pad32_length _) HTB.out hcb).mono ?_
              rintro e w4 ⟨sb, sk, rfl, hr4, hb4⟩
              obtain ⟨a3, l3, p3, a4, l4, p4, rfl, rfl⟩ := hr4.sl
              exact ⟨_, _, _, _, _, _, rfl, hr4.agree (Agree.refl _ _ _) (Nat.zero_le _) (Nat.le_refl _), hb4⟩
            have HSS : Hid (∀ V sb' sk', Below V2.heap.size V2 V → Tlv.Rep 0 V.heap.size V 2 (recT k (pad32 bn) cs) sb' sk' → Calls Tryz.prog 172 #[.agg #[.int .i64 tag, .int .u64 num, .slice ab bs.length cb, .slice (some ⟨bk, ok, none⟩) 3 ck], .agg #[.int .i64 3, .int .u64 0, sb', sk']] V fun e w' => e = .returned (.bool okb) ∧ Below V.heap.size V w') := by
              intro V sb' sk' hV hR
              have h1 := HREP3.out.agree (Agree.below (HBW.out.mono hB)) (Nat.zero_le _) hB
              have h2 := h1.agree (L' := 0) (B' := V.heap.size) (Agree.below (hV.mono HBW.out.size)) (Nat.zero_le _) (Nat.le_trans HBW.out.size hV.size)
              have h3 := Tlv.Same_any t (recT k (pad32 bn) cs) _ _ _ _ V h2 hR (by omega)
              obtain ⟨e0, e1, e2⟩ := HH.out
              rw [e0, e1, HOF.out] at h3
              exact h3
            refine wp_region_held_drew (S := fun V => Below V2.heap.size V2 V) (by kernel_rfl) (Below.refl _ _).drew (fun hHeld => ?_)
            refine wpAnyH_take (i := 0) (oi := { dst := some 30, op := Op.load 56 (Operand.tmp 4), type := 56, pos := "frame.go:110", after := #[], guard := none }) (v := .agg C.toArray) rfl (by kernel_rfl) (by kernel_rfl) (by kernel_rfl) (fun _ _ _ h => h) (yieldsIf_load_mid (by rfl) _ _ rfl g 0 rfl C _ (fun V hV => rangeAt_below HR2.out hV hg2) Tryz.underlying56 rfl HIC.out) hHeld ?_
            simp only [Act.put, List.setIfInBounds_toArray, List.set_cons_zero, List.set_cons_succ]
            refine wpAnyH_ready (rs := [1]) (by kernel_rfl) (by simp) ?_
            refine AllReadyH.cons (o := { dst := some 31, op := Op.call { callee := Callee.value (Operand.func 71), args := #[Operand.tmp 30], argTypes := #[56] }, type := 4, pos := "frame.go:110", after := #[{ on := 0, ground := Ground.data }], guard := none }) rfl (fun K hK => ?_) AllReadyH.nil
            go_simp
            refine (right13_any C k _ _ _ _ hc0 hc33).mono ?_
            rintro e w3 ⟨rfl, hb3⟩
            rw [HRB.out]
            have HK3 : Hid (Below V2.heap.size V2 w3) := (Below.refl _ _).drew.trans hb3
            clear hb3
            go_wp2_with fail
            refine hK.out _ _ (HK3.out) (fun hh => ?_)
            clear hK K hHeld
            have hHeld := hh
            clear hh
            try simp only [Act.put, List.setIfInBounds_toArray, List.set_cons_zero, List.set_cons_succ]
            refine wpAnyH_take (i := 2) (oi := { dst := some 32, op := Op.unOp UnOp.not 4 (Operand.tmp 31), type := 4, pos := "frame.go:110", after := #[{ on := 1, ground := Ground.data }], guard := none }) (v := .bool false) rfl (by kernel_rfl) (by kernel_rfl) (by kernel_rfl) (fun _ _ _ h => h) (Or.inl ⟨by rfl, fun w' hw' => by (clear hw'; go_simp)⟩) hHeld ?_
            simp only [Act.put, List.setIfInBounds_toArray, List.set_cons_zero, List.set_cons_succ]
            refine wpAnyH_take (i := 3) (oi := { dst := some 33, op := Op.move (Operand.tmp 32), type := 4, pos := "frame.go:110", after := #[{ on := 2, ground := Ground.data }, { on := 1, ground := Ground.chain }], guard := none }) (v := .bool false) rfl (by kernel_rfl) (by kernel_rfl) (by kernel_rfl) (fun _ _ _ h => h) (Or.inl ⟨by rfl, fun w' hw' => by (clear hw'; go_simp)⟩) hHeld ?_
            simp only [Act.put, List.setIfInBounds_toArray, List.set_cons_zero, List.set_cons_succ]
            refine wpAnyH_take (i := 4) (oi := { dst := some 34, op := Op.load 156 (Operand.tmp 1), type := 156, pos := "frame.go:110", after := #[{ on := 3, ground := Ground.guard }], guard := some (3, false) }) (v := .agg #[.int .i64 tag, .int .u64 num, .slice ab bs.length cb, .slice (some ⟨bk, ok, none⟩) 3 ck]) rfl (by kernel_rfl) (by kernel_rfl) (by kernel_rfl) (fun _ _ _ h => h) (Or.inl ⟨by rfl, fun w' hw' => by (have q0 := hl0 _ hw'; have q1 := hl1 _ hw'; have q2 := hl2 _ hw'; have q3 := hl3 _ hw'; clear hw'; go_simp)⟩) hHeld ?_
            simp only [Act.put, List.setIfInBounds_toArray, List.set_cons_zero, List.set_cons_succ]
            refine wpAnyH_take (i := 5) (oi := { dst := some 35, op := Op.load 56 (Operand.tmp 4), type := 56, pos := "frame.go:110", after := #[{ on := 3, ground := Ground.guard }], guard := some (3, false) }) (v := .agg C.toArray) rfl (by kernel_rfl) (by kernel_rfl) (by kernel_rfl) (fun _ _ _ h => h) (yieldsIf_load_mid (by rfl) _ _ rfl g 0 rfl C _ (fun V hV => rangeAt_below HR2.out hV hg2) Tryz.underlying56 rfl HIC.out) hHeld ?_
            simp only [Act.put, List.setIfInBounds_toArray, List.set_cons_zero, List.set_cons_succ]
            refine wpAnyH_ready (rs := [6]) (by kernel_rfl) (by simp) ?_
            refine AllReadyH.cons (o := { dst := some 36, op := Op.call { callee := Callee.value (Operand.func 73), args := #[Operand.tmp 35], argTypes := #[56] }, type := 156, pos := "frame.go:110", after := #[{ on := 5, ground := Ground.data }, { on := 3, ground := Ground.chain }, { on := 3, ground := Ground.guard }], guard := some (3, false) }) rfl (fun K hK => ?_) AllReadyH.nil
            go_simp
            refine (HVV.out w3 HK3.out).mono ?_
            rintro e w4 ⟨a3, l3, p3, a4, l4, p4, rfl, hr4, hb4⟩
            have HR4 := hid hr4
            have HK4 : Hid (Below V2.heap.size V2 w4) := HK3.out.trans (hb4.mono HK3.out.size)
            clear hr4 hb4
            go_wp2_with fail
            refine hK.out _ _ (HK4.out) (fun hh => ?_)
            clear hK K hHeld
            have hHeld := hh
            clear hh
            try simp only [Act.put, List.setIfInBounds_toArray, List.set_cons_zero, List.set_cons_succ]
            refine wpAnyH_ready (rs := [7]) (by kernel_rfl) (by simp) ?_
            refine AllReadyH.cons (o := { dst := some 37, op := Op.call { callee := Callee.value (Operand.func 172), args := #[Operand.tmp 34, Operand.tmp 36], argTypes := #[156, 156] }, type := 4, pos := "frame.go:110", after := #[{ on := 4, ground := Ground.data }, { on := 6, ground := Ground.data }, { on := 6, ground := Ground.chain }, { on := 3, ground := Ground.guard }], guard := some (3, false) }) rfl (fun K hK => ?_) AllReadyH.nil
            go_simp
            refine (HSS.out w4 _ _ HK4.out HR4.out).mono ?_
            rintro e w5 ⟨rfl, hb5⟩
            have HK5 : Hid (Below V2.heap.size V2 w5) := HK4.out.trans (hb5.mono HK4.out.size)
            clear hb5
            go_wp2_with fail
            refine hK.out _ _ (HK5.out) (fun hh => ?_)
            clear hK K hHeld
            have hHeld := hh
            clear hh
            try simp only [Act.put, List.setIfInBounds_toArray, List.set_cons_zero, List.set_cons_succ]
            refine wpAnyH_take (i := 8) (oi := { dst := some 38, op := Op.unOp UnOp.not 4 (Operand.tmp 37), type := 4, pos := "frame.go:110", after := #[{ on := 7, ground := Ground.data }, { on := 3, ground := Ground.guard }], guard := some (3, false) }) (v := .bool (!okb)) rfl (by kernel_rfl) (by kernel_rfl) (by kernel_rfl) (fun _ _ _ h => h) (Or.inl ⟨by rfl, fun w' hw' => by (clear hw'; go_simp)⟩) hHeld ?_
            simp only [Act.put, List.setIfInBounds_toArray, List.set_cons_zero, List.set_cons_succ]
            refine wpAnyH_take (i := 9) (oi := { dst := some 39, op := Op.pick (Operand.tmp 33) (Operand.const (Value.bool true)) (Operand.tmp 38), type := 4, pos := "frame.go:110", after := #[{ on := 3, ground := Ground.data }, { on := 8, ground := Ground.data }], guard := none }) (v := .bool (!okb)) rfl (by kernel_rfl) (by kernel_rfl) (by kernel_rfl) (fun _ _ _ h => h) (Or.inl ⟨by rfl, fun w' hw' => by (clear hw'; go_simp)⟩) hHeld ?_
            simp only [Act.put, List.setIfInBounds_toArray, List.set_cons_zero, List.set_cons_succ]
            refine wpAnyH_done (by kernel_rfl) ?_ _
            go_wp2_with fail
            go_meet
            exact ⟨rfl, HK5.out⟩
        case rest =>
          obtain ⟨rfl, HKX⟩ := hcut
          clear hld hl0 hl1 hl2 hl3 HD0 HD1 HD2 HD3 hc0 hc33
          have hzz : V2.heap.size ≤ wc.heap.size := HKX.out.size
          have HTW := hid (there_below HTR2.out HKX.out hzw)
          have HRW := hid (rangeAt_below HR2.out HKX.out hg2)
          have HBF : Hid (Below w.heap.size w wc) := HBW.out.trans (HKX.out.mono HBW.out.size)
          have hz := zero35
          rw [HZ.out] at hz
          cases okb with
          | false =>
            have HN : Hid (recOf t = none) := by
              rw [Hid, HEQ.out, if_neg]
              intro h
              have h1 := HOK.out
              rw [h.1, h.2] at h1
              cases h1
            have HZS : Hid (Z.toArray.size = 34) := by rw [← HZ.out]; rfl
            have HTZ : Hid (wc.there (w.heap.size + 1) 0 Z.toArray.size) := by rw [Hid, HZS.out]; exact HTW.out
            have HI2 : Hid ((Tryz.prog.info? 56).map (·.size) = some Z.toArray.size) := by rw [← HZ.out]; exact Tryz.info35
            have H1 : Hid (Z.toArray.all (·.oneCell') = true) := by rw [← HZ.out]; exact all_oneCell_toArray zRec_one
            go_wp2_with (refine wpList_store_mid (by rfl) 56 _ _ (by rfl) (w.heap.size + 1) 0 Z.toArray (by rfl) (by rfl) HTZ.out HI2.out H1.out ?_)
            have hr : World.rangeAt (wc.setCells (w.heap.size + 1) 0 Z) (w.heap.size + 1) 0 Z := World.rangeAt_setCells_same _ _ _ _ HTZ.out
            refine bodyPost_ret (v := .tuple #[.agg Z.toArray, .bool false]) ?_ rfl ⟨.inl ⟨HN.out, by rw [HZ.out]⟩, ?_⟩
            · exact results_cell_mid2 Tryz.results133 _ _ (w.heap.size + 1) 0 _ _ rfl hr Tryz.underlying56 rfl HI2.out
            · exact HBF.out.trans (setCells_below (by omega) _ _ _)
          | true =>
            have HN : Hid (recOf t = some (k, pad32 bn, cs)) := by
              rw [Hid, HEQ.out, if_pos]
              have h1 := HOK.out
              simpa using h1
            have HCS : Hid (C.toArray.size = 34) := HKL.out
            have HTZ : Hid (wc.there (w.heap.size + 1) 0 C.toArray.size) := by rw [Hid, HCS.out]; exact HTW.out
            have HI2 : Hid ((Tryz.prog.info? 56).map (·.size) = some C.toArray.size) := HIC.out
            have H1 : Hid (C.toArray.all (·.oneCell') = true) := all_oneCell_toArray HKO.out
            go_wp2_with (first
              | (refine wpList_load_mid (by rfl) 56 _ (by rfl) g 0 (by rfl) C _ HRW.out Tryz.underlying56 rfl HIC.out ?_)
              | (refine wpList_store_mid (by rfl) 56 _ _ (by rfl) (w.heap.size + 1) 0 C.toArray (by rfl) (by rfl) HTZ.out HI2.out H1.out ?_))
            have hr : World.rangeAt (wc.setCells (w.heap.size + 1) 0 C) (w.heap.size + 1) 0 C := World.rangeAt_setCells_same _ _ _ _ HTZ.out
            have hbf : Below w.heap.size w (wc.setCells (w.heap.size + 1) 0 C) := HBF.out.trans (setCells_below (by omega) _ _ _)
            refine bodyPost_ret (v := .tuple #[.agg C.toArray, .bool true]) ?_ rfl ⟨.inr ⟨k, pad32 bn, cs, ac, cc, HN.out, by rw [HC.out], ?_, pad32_length _, HTB.out⟩, ?_⟩
            · exact results_cell_mid2 Tryz.results133 _ _ (w.heap.size + 1) 0 _ _ rfl hr Tryz.underlying56 rfl HI2.out
            · exact HCB.out.agree (Agree.below (hbf.mono hB)) (Nat.le_refl _) (Nat.le_refl _)
            · exact hbf
end Go.Proofs.YtaaioaocjfpajaaGreatDoor
end

section
/-
  What Open and the reference's Open do.
-/
namespace Go.Proofs.YtaaioaocjfpajaaGreatDoor.Crc
open Go.RowKit

/-- Four bytes held against four. -/
theorem eq62 (a b c d a' b' c' d' : Int) (w : World) : (Op.equalIn 10000 250 (.agg #[.int .u8 a, .int .u8 b, .int .u8 c, .int .u8 d]) (.agg #[.int .u8 a', .int .u8 b', .int .u8 c', .int .u8 d'])).run Tryz.prog w = .ok (a == a' && b == b' && c == c' && d == d') w := by
  have u5 := Tryz.underlying5
  have a5 := Tryz.isAgg5
  have z5 := Tryz.sizeOf5
  rw [show (10000 : Nat) = 9999 + 1 from rfl, Op.equalIn]
  simp only [Sem.run_bind, run_underlying Tryz.underlying250, Result.andThen_ok]
  simp only [Std.Legacy.Range.forIn_eq_forIn_range', Std.Legacy.Range.size, Nat.sub_zero, Nat.add_sub_cancel, Nat.div_one, List.range'_succ, List.range'_zero, List.forIn_cons, List.forIn_nil]
  go_simp
  by_cases h1 : a = a' <;> by_cases h2 : b = b' <;> by_cases h3 : c = c' <;> by_cases h4 : d = d' <;> simp [h1, h2, h3, h4]

theorem BySl.take {b : Nat} {w : World} {a : Option Addr} {cap k : Nat} {bs : List Nat} (h : BySl b w (.slice a bs.length cap) bs) (hk : k ≤ bs.length) : BySl b w (.slice a k cap) (bs.take k) := by
  obtain ⟨a', cap', e, h2, h3, h4, h5, h6, h7⟩ := h
  cases e
  have hl : (bs.take k).length = k := List.length_take_of_le hk
  refine ⟨a, cap, by rw [hl], by omega, h3, fun e => ⟨by rw [(h4 e).1]; simp, (h4 e).2⟩, by omega, fun x hx => h6 x (List.mem_of_mem_take hx), fun hne => ?_⟩
  obtain ⟨g, o, e, hgb, hg, hc⟩ := h7 (by intro e; subst e; simp at hne)
  refine ⟨g, o, e, hgb, hg, fun i hi => ?_⟩
  rw [hl] at hi
  rw [hc i (by omega)]
  simp [hi]

set_option maxHeartbeats 400000 in
theorem open_short (b : Nat) (v : Value) (bs : List Nat) (w : World) (h : BySl b w v bs) (hl : bs.length < 4) :
    Calls Tryz.prog 132 #[.pointer (some ⟨b, 0, none⟩), v] w fun e w' => e = .returned (.tuple #[.slice none 0 0, .int .i64 3]) ∧ w' = w := by
  obtain ⟨a, cap, rfl, r⟩ := h
  clear r
  go_enter Tryz.func132, Tryz.ntmps132
  go_wp2_with fail
  go_ret2
  exact ⟨rfl, rfl⟩

set_option maxHeartbeats 2000000 in
set_option maxRecDepth 100000 in
theorem open_any (b f : Nat) (n : Int) (v : Value) (xs : List Nat) (y0 y1 y2 y3 : Nat) (w : World) (hf : f = 0 ∨ f = 1) (ht : Tab w b f n) (h : BySl b w v (xs ++ [y0, y1, y2, y3])) (hl : xs.length ≤ 80000) :
    Calls Tryz.prog 132 #[.pointer (some ⟨b, 0, none⟩), v] w fun e w' => Kept b w w' ∧ Tab w' b 1 (wrap64 (n + xs.length)) ∧
      ∃ v' q, e = .returned (.tuple #[v', .int .i64 q]) ∧ ((le4 (more 0 xs) = [y0, y1, y2, y3] ∧ q = 0 ∧ BySl b w' v' xs) ∨ (le4 (more 0 xs) ≠ [y0, y1, y2, y3] ∧ q = 4 ∧ v' = .slice none 0 0)) := by
  have H := hid h
  have T := hid ht
  obtain ⟨a, cap, rfl, h2, h3, h4, h5, h6, h7⟩ := h
  obtain ⟨g, o, rfl, hgb, hg, hc⟩ := h7 (by simp)
  have hN : (xs ++ [y0, y1, y2, y3]).length = xs.length + 4 := by simp
  have hat : ∀ i, (xs ++ [y0, y1, y2, y3]).getD (xs.length + i) 0 = [y0, y1, y2, y3].getD i 0 := fun i => by simp [List.getElem?_append_right]
  have k0 := hc (xs.length + 0) (by omega)
  have k1 := hc (xs.length + 1) (by omega)
  have k2 := hc (xs.length + 2) (by omega)
  have k3 := hc (xs.length + 3) (by omega)
  rw [hat] at k0 k1 k2 k3
  simp only [List.getD_cons_zero, List.getD_cons_succ, Nat.add_zero, ← Nat.add_assoc] at k0 k1 k2 k3
  have H1 : Hid (BySl b w (.slice (some ⟨g, o, none⟩) xs.length cap) xs) := by
    have := BySl.take H.out (k := xs.length) (by omega)
    rw [List.take_left' rfl] at this
    exact this
  rw [hN] at H h2 ⊢
  obtain ⟨N, hN2⟩ : ∃ N, xs.length = N := ⟨_, rfl⟩
  have HN := hid hN2
  rw [hN2] at H h2 k0 k1 k2 k3 hl H1 ⊢
  have hm := more_lt 0 xs
  obtain ⟨s, hs⟩ : ∃ s, more 0 xs = s := ⟨_, rfl⟩
  have HS := hid hs
  rw [hs] at hm ⊢
  clear hs hN2 hat hc h7 h6 h4 h5 hN ht
  unfold maxLen at h3
  go_enter Tryz.func132, Tryz.ntmps132
  go_upto_region 6 with fail
  have hcN : ¬ cap = N := by omega
  have c12 : Hid (Calls Tryz.prog 171 #[.pointer (some ⟨b, 0, none⟩), .slice (some ⟨g, o, none⟩) N cap] w.drew fun e w1 => e = .returned (.int .u32 (s : Nat)) ∧ Hid (Kept b w w1) ∧ Hid (Tab w1 b 1 (wrap64 (n + N))) ∧ g < w1.heap.size ∧
      w1.cell? ⟨g, o + N, none⟩ = some (.int .u8 (y0 : Nat)) ∧ w1.cell? ⟨g, o + N + 1, none⟩ = some (.int .u8 (y1 : Nat)) ∧ w1.cell? ⟨g, o + N + 2, none⟩ = some (.int .u8 (y2 : Nat)) ∧ w1.cell? ⟨g, o + N + 3, none⟩ = some (.int .u8 (y3 : Nat))) := by
    have h := sum_any b f n (.slice (some ⟨g, o, none⟩) N cap) xs w.drew hf T.out H1.out
    refine h.mono ?_
    rw [HS.out, HN.out]
    rintro e w1 ⟨rfl, hk0, ht1⟩
    have hk1 : Kept b w w1 := ((Kept.refl b w).drew).trans hk0
    exact ⟨rfl, hk1, ht1, Nat.lt_of_lt_of_le hg hk1.size, (hk1.cell (p := ⟨g, o + N, none⟩) hg hgb).trans k0, (hk1.cell (p := ⟨g, o + N + 1, none⟩) hg hgb).trans k1, (hk1.cell (p := ⟨g, o + N + 2, none⟩) hg hgb).trans k2, (hk1.cell (p := ⟨g, o + N + 3, none⟩) hg hgb).trans k3⟩
  have c22 : Hid (∀ w1 : World, g < w1.heap.size → w1.cell? ⟨g, o + N, none⟩ = some (.int .u8 (y0 : Nat)) → w1.cell? ⟨g, o + N + 1, none⟩ = some (.int .u8 (y1 : Nat)) → w1.cell? ⟨g, o + N + 2, none⟩ = some (.int .u8 (y2 : Nat)) → w1.cell? ⟨g, o + N + 3, none⟩ = some (.int .u8 (y3 : Nat)) →
      Calls Tryz.prog 170 #[.int .u32 s] w1 fun e w2 => e = .returned (.agg #[.int .u8 ((s : Int) % 256), .int .u8 ((s : Int) / 256 % 256), .int .u8 ((s : Int) / 65536 % 256), .int .u8 ((s : Int) / 16777216)]) ∧ Hid (Below w1.heap.size w1 w2) ∧
        w2.cell? ⟨g, o + N, none⟩ = some (.int .u8 (y0 : Nat)) ∧ w2.cell? ⟨g, o + N + 1, none⟩ = some (.int .u8 (y1 : Nat)) ∧ w2.cell? ⟨g, o + N + 2, none⟩ = some (.int .u8 (y2 : Nat)) ∧ w2.cell? ⟨g, o + N + 3, none⟩ = some (.int .u8 (y3 : Nat))) := by
    intro w1 hg1 d0 d1 d2 d3
    refine (sumBytes_any s hm w1).mono ?_
    rintro e w2 ⟨rfl, hb⟩
    exact ⟨rfl, hb, (hb.cell (p := ⟨g, o + N, none⟩) hg1).trans d0, (hb.cell (p := ⟨g, o + N + 1, none⟩) hg1).trans d1, (hb.cell (p := ⟨g, o + N + 2, none⟩) hg1).trans d2, (hb.cell (p := ⟨g, o + N + 3, none⟩) hg1).trans d3⟩
  have hat : ∀ w, (Instr.arrayAt 250 (.slice (some ⟨g, o + N, none⟩) 4 (cap - N))).run Tryz.prog w = .ok (.pointer (some ⟨g, o + N, none⟩)) w := fun w => run_arrayAt w 250 5 4 _ 4 _ Tryz.underlying250 (Nat.le_refl _)
  have heq := fun w => eq62 ((s : Int) % 256) ((s : Int) / 256 % 256) ((s : Int) / 65536 % 256) ((s : Int) / 16777216) y0 y1 y2 y3 w
  have hE : Hid (((s : Int) % 256 == (y0 : Int) && (s : Int) / 256 % 256 == (y1 : Int) && (s : Int) / 65536 % 256 == (y2 : Int) && (s : Int) / 16777216 == (y3 : Int)) = decide (le4 s = [y0, y1, y2, y3])) := by
    rw [Hid, Bool.eq_iff_iff]
    simp [le4]
    omega
  generalize ((s : Int) % 256 == (y0 : Int) && (s : Int) / 256 % 256 == (y1 : Int) && (s : Int) / 65536 % 256 == (y2 : Int) && (s : Int) / 16777216 == (y3 : Int)) = E at heq hE
  go_cut [25] (fun c wx => c = .bool (!E) ∧ Hid (Kept b w wx) ∧ Hid (Tab wx b 1 (wrap64 (n + N))))
  case first =>
    go_region_with (first | (go_at_call 171; refine c12.out.mono ?_; rintro e w1 ⟨rfl, HK1, HT1, hg1, d0, d1, d2, d3⟩) | (go_at_call 170; refine (c22.out w1 hg1 d0 d1 d2 d3).mono ?_; rintro e w2 ⟨rfl, HB2, e0, e1, e2, e3⟩))
    all_goals (go_wp2_with fail; go_meet; exact ⟨rfl, HK1.out.trans (Kept.below HB2.out), HT1.out.below HB2.out⟩)
  case rest =>
    obtain ⟨rfl, HK, HT⟩ := hcut
    clear c12 c22 heq hat k0 k1 k2 k3
    cases E
    · go_wp2_with fail
      go_ret2
      exact ⟨HK.out, HT.out, _, _, rfl, .inr ⟨of_decide_eq_false hE.out.symm, rfl, rfl⟩⟩
    · go_wp2_with fail
      have hkb := HK.out
      refine (clone_any b _ xs _ HT.out.1 (H1.out.kept hkb) (by rw [HN.out]; omega)).mono ?_
      rintro e w3 ⟨v', rfl, hv, hb3⟩
      have HV := hid hv
      have HB3 := hid hb3
      clear hv hb3 hkb
      go_wp2_with fail
      go_ret2
      exact ⟨HK.out.trans (Kept.below HB3.out), HT.out.below HB3.out, _, _, rfl, .inl ⟨of_decide_eq_true hE.out.symm, rfl, HV.out⟩⟩

end Go.Proofs.YtaaioaocjfpajaaGreatDoor.Crc
end

section
/-
  What Take answers.
-/
namespace Go.Proofs.YtaaioaocjfpajaaGreatDoor
open Go.RowKit
open Tlv (Tr BySlS AgreeS Agree)
open Crc (hid Kept Tab)

/-- What Take leaves: the record in new memory; of the old the table alone may have turned. -/
def Took (w w' : World) (b : Nat) (e : Ending) (x : Int × (Int × List Int × List Int) × Nat) : Prop :=
  ∃ a c, e = .returned (.tuple #[.agg (recA x.2.1.1 x.2.1.2.1 (.slice a x.2.1.2.2.length c)).toArray, .int .i64 (x.2.2 : Nat), .int .i64 x.1]) ∧
    BySlS (fun g => w.heap.size ≤ g ∧ g < w'.heap.size) w' (.slice a x.2.1.2.2.length c) x.2.1.2.2 ∧ (x.2.1.2.1.length = 32 ∧ ∀ y ∈ x.2.1.2.1, 0 ≤ y ∧ y ≤ 255) ∧ Kept b w w' ∧ TabX w' b

theorem took_none (w w' : World) (f : Int) (b : Nat) (hk : Kept b w w') (ht : TabX w' b) : Took w w' b (.returned (.tuple #[.agg zRec.toArray, .int .i64 0, .int .i64 f])) (noRec f) := by
  refine ⟨none, 0, rfl, Tlv.BySlS.none _ _, ⟨by simp [noRec], ?_⟩, hk, ht⟩
  intro y hy
  rw [(List.mem_replicate.1 hy).2]
  omega

theorem Kept.then {b : Nat} {w W V : World} (h : Kept b w W) (k : Below w.heap.size W V) : Kept b w V :=
  ⟨k.os.trans h.os, k.tape.trans h.tape, k.output.trans h.output, Nat.le_trans h.size k.size, fun i hi hb => (k.block i hi).trans (h.block i hi hb)⟩
theorem setCells_block (w : World) (g o k : Nat) (cs : List Value) (h : k ≠ g) : (w.setCells g o cs).heap[k]? = w.heap[k]? := by
  induction cs generalizing w o with
  | nil => rfl
  | cons c cs ih => rw [World.setCells, ih]; exact Below.heap_setCell _ _ _ _ (by omega)
theorem Kept.set {b : Nat} {u w : World} {g o : Nat} {cs : List Value} (hg : u.heap.size ≤ g ∧ b < u.heap.size) (h : Kept b u w) : Kept b u (w.setCells g o cs) :=
  Kept.then h (setCells_below hg.1 _ _ _)
theorem TabX.set {b g o : Nat} {u w : World} {cs : List Value} (h : TabX w b) (hg : u.heap.size ≤ g ∧ b < u.heap.size) : TabX (w.setCells g o cs) b := by
  obtain ⟨f, n, hf, ht⟩ := h
  have hb := setCells_below (B := u.heap.size) hg.1 w o cs
  refine ⟨f, n, hf, ?_⟩
  obtain ⟨h1, h2, h3, h4, h5, h6, h7⟩ := ht
  have c : ∀ j, (w.setCells g o cs).cell? ⟨b, j, none⟩ = w.cell? ⟨b, j, none⟩ := fun j => hb.cell (p := ⟨b, j, none⟩) hg.2
  refine ⟨by rw [setCells_size]; exact h1, (c _).trans h2, (c _).trans h3, (c _).trans h4, fun j hj => ?_, fun e j hj => (c _).trans (h6 e j hj), fun j => (hb.frozen (p := ⟨b, j, none⟩) hg.2).trans (h7 j)⟩
  obtain ⟨x, hx⟩ := h5 j hj
  exact ⟨x, (c _).trans hx⟩

theorem tail4 {xs : List Int} {m : Nat} (h : 4 ≤ xs.length - m) : ∃ y0 y1 y2 y3 : Nat, nats ((xs.drop m).take 4) = [y0, y1, y2, y3] := by
  have hl : (nats ((xs.drop m).take 4)).length = 4 := by rw [nats_length, List.length_take, List.length_drop]; omega
  match hq : nats ((xs.drop m).take 4), hl with
  | [y0, y1, y2, y3], _ => exact ⟨y0, y1, y2, y3, rfl⟩

theorem bySlS_take {S : Nat → Prop} {w : World} {a : Option Addr} {cap E : Nat} {xs : List Int} (h : BySlS S w (.slice a xs.length cap) xs) (hE : E ≤ xs.length) : BySlS S w (.slice a E cap) (xs.take E) := by
  obtain ⟨a', cap', e, h2, h3, h4, h5, h6, h7⟩ := h
  simp only [Value.slice.injEq, true_and] at e
  obtain ⟨rfl, rfl⟩ := e
  have hl : (xs.take E).length = E := by rw [List.length_take]; omega
  refine ⟨a, cap, by rw [hl], by rw [hl]; omega, h3, fun e => ⟨by rw [(h4 e).1]; simp, (h4 e).2⟩, by rw [hl]; omega, fun x hx => h6 x (List.mem_of_mem_take hx), fun hne => ?_⟩
  obtain ⟨b, o, e, hS, hc⟩ := h7 (fun e => hne (by rw [e]; simp))
  refine ⟨b, o, e, hS, fun i hi => ?_⟩
  rw [hl] at hi
  rw [hc i (by omega)]
  simp [List.getElem?_take_of_lt hi]

set_option maxHeartbeats 4000000 in
set_option maxRecDepth 100000 in
theorem take_any (b : Nat) (v : Value) (xs : List Int) (w : World) (hT : TabX w b) (h : BySlS (fun g => g ≠ b ∧ g < w.heap.size) w v xs) :
    Calls Tryz.prog 97 #[.pointer (some ⟨b, 0, none⟩), v] w fun e w' => Took w w' b e (takeF xs) := by
  obtain ⟨a, cap, rfl, h2, h3, _, h5, h6, _⟩ := id h
  have H := hid h
  have HT := hid hT
  have hbw := hT.lt
  have HX := hid h6
  clear h hT h6
  have hz := zero35
  obtain ⟨Z, hZ⟩ : ∃ Z, zRec = Z := ⟨_, rfl⟩
  have HZ := hid hZ
  rw [hZ] at hz
  clear hZ
  have HZS : Hid (Z.toArray.size = 34) := by rw [← HZ.out]; rfl
  have HI2 : Hid ((Tryz.prog.info? 56).map (·.size) = some Z.toArray.size) := by rw [← HZ.out]; exact Tryz.info35
  have H1 : Hid (Z.toArray.all (·.oneCell') = true) := by rw [← HZ.out]; exact all_oneCell_toArray zRec_one
  have HZB : Hid (w.heap.size ≤ w.heap.size ∧ b < w.heap.size) := ⟨Nat.le_refl _, hbw⟩
  have k0 : Below w.heap.size w (w.alloc (.cells Z.toArray 56)) := (Below.refl _ _).alloc (Nat.le_refl _) _
  have HTH : Hid (World.there (w.alloc (.cells Z.toArray 56)) w.heap.size 0 34) := by
    have h := there_new w Z 56
    rw [show Z.length = 34 from HZS.out] at h
    exact h
  have HK0 := hid k0
  have hz0 : w.heap.size < (w.alloc (.cells Z.toArray 56)).heap.size := by simp
  go_enter Tryz.func97, Tryz.ntmps97
  go_wp2_with fail
  obtain ⟨W0, hW0⟩ : ∃ W0, w.alloc (.cells Z.toArray 56) = W0 := ⟨_, rfl⟩
  rw [hW0] at HTH HK0 hz0
  rw [hW0]
  clear hW0 k0
  have HB0 := hid (BySlS.below H.out HK0.out (fun g hg => hg.2))
  refine (first_any _ xs W0 (HB0.out.to (fun g hg => Nat.lt_of_lt_of_le hg.2 HK0.out.size))).mono ?_
  rintro e w1 ⟨hres, hb1⟩
  have HB1 : Hid (Below w.heap.size w w1) := HK0.out.trans (hb1.mono HK0.out.size)
  have HT1 := hid (there_below HTH.out hb1 hz0)
  have hz1 : w.heap.size < w1.heap.size := Nat.lt_of_lt_of_le hz0 hb1.size
  have hzz : W0.heap.size ≤ w1.heap.size := hb1.size
  have HBX := hid hb1
  clear hb1
  rcases hres with ⟨hn, x, y, a1, l1, c1, a2, l2, c2, sz, rfl⟩ | ⟨t, m, a1, l1, c1, a2, l2, c2, hs, rfl, hr⟩
  · have HE := hid (takeF_none hn)
    clear hn
    have HV : Hid (World.there (w1.alloc (.cells #[.int .i64 x, .int .u64 y, .slice a1 l1 c1, .slice a2 l2 c2] 156)) w.heap.size 0 Z.toArray.size) := by
      rw [Hid, HZS.out]
      exact there_below HT1.out ((Below.refl _ _).alloc (Nat.le_refl _) _) hz1
    have HKV : Hid (Kept b w (w1.alloc (.cells #[.int .i64 x, .int .u64 y, .slice a1 l1 c1, .slice a2 l2 c2] 156))) := (Kept.below HB1.out).alloc _
    have HTV : Hid (TabX (w1.alloc (.cells #[.int .i64 x, .int .u64 y, .slice a1 l1 c1, .slice a2 l2 c2] 156)) b) := (HT.out.below HB1.out).below ((Below.refl _ _).alloc (Nat.le_refl _) _)
    go_wp2_with (refine wpList_store_mid (by rfl) 56 _ _ (by rfl) w.heap.size 0 Z.toArray (by rfl) (by rfl) HV.out HI2.out H1.out ?_)
    have hr : World.rangeAt (World.setCells (w1.alloc (.cells #[.int .i64 x, .int .u64 y, .slice a1 l1 c1, .slice a2 l2 c2] 156)) w.heap.size 0 Z) w.heap.size 0 Z := World.rangeAt_setCells_same _ _ _ _ HV.out
    refine bodyPost_ret (v := .tuple #[.agg Z.toArray, .int .i64 0, .int .i64 16]) (results_cell_mid3 Tryz.results97 _ _ w.heap.size 0 _ _ rfl hr Tryz.underlying56 rfl HI2.out) rfl ?_
    rw [HE.out, ← HZ.out]
    exact took_none w _ 16 b (Kept.set HZB.out HKV.out) (HTV.out.set HZB.out)
  · have HE := hid (takeF_some hs)
    have HM := hid (rd_end hs)
    have hm := Tlv.rd_pos hs
    have HBZ : Hid ((Tlv.bsz 9 t 65535 8).2 = true) := (Tlv.rd_form 8 xs t m HX.out hs).2
    have HML : Hid (m ≤ 65538) := by
      have h1 := (Tlv.rd_form 8 xs t m HX.out hs)
      have h3 : (Tlv.formOf 9 t).length = (xs.take m).length := congrArg List.length h1.1
      have h4 : ((Tlv.bodyOf 9 t).length : Int) ≤ 65535 := (Tlv.Rt.facts ⟨8, h1.2⟩).2.1
      have h5 : (Tlv.formOf 9 t).length = 3 + (Tlv.bodyOf 9 t).length := by simp [Tlv.formOf]; omega
      rw [List.length_take] at h3
      rw [Hid]
      omega
    have HRP := hid hr
    clear hs hr
    have hm64 : (m : Int) ≤ 9223372036854775807 := by have := HML.out; omega
    have hsub : wrap64 ((xs.length : Int) - m) = (xs.length : Int) - m := IntWalk.wrap64_in _ ⟨by omega, by omega⟩
    by_cases h4 : xs.length - m < 4
    · have h4' : (xs.length : Int) - m < 4 := by omega
      have HE2 : Hid (takeF xs = noRec 16) := by rw [Hid, HE.out, if_pos h4]
      have HV : Hid (World.there (w1.alloc (.cells #[.int .i64 t.hd.1, .int .u64 t.hd.2.1, .slice a1 l1 c1, .slice a2 l2 c2] 156)) w.heap.size 0 Z.toArray.size) := by
        rw [Hid, HZS.out]
        exact there_below HT1.out ((Below.refl _ _).alloc (Nat.le_refl _) _) hz1
      have HKV : Hid (Kept b w (w1.alloc (.cells #[.int .i64 t.hd.1, .int .u64 t.hd.2.1, .slice a1 l1 c1, .slice a2 l2 c2] 156))) := (Kept.below HB1.out).alloc _
      have HTV : Hid (TabX (w1.alloc (.cells #[.int .i64 t.hd.1, .int .u64 t.hd.2.1, .slice a1 l1 c1, .slice a2 l2 c2] 156)) b) := (HT.out.below HB1.out).below ((Below.refl _ _).alloc (Nat.le_refl _) _)
      clear h4 HE
      go_wp2_with (refine wpList_store_mid (by rfl) 56 _ _ (by rfl) w.heap.size 0 Z.toArray (by rfl) (by rfl) HV.out HI2.out H1.out ?_)
      have hr : World.rangeAt (World.setCells (w1.alloc (.cells #[.int .i64 t.hd.1, .int .u64 t.hd.2.1, .slice a1 l1 c1, .slice a2 l2 c2] 156)) w.heap.size 0 Z) w.heap.size 0 Z := World.rangeAt_setCells_same _ _ _ _ HV.out
      refine bodyPost_ret (v := .tuple #[.agg Z.toArray, .int .i64 0, .int .i64 16]) (results_cell_mid3 Tryz.results97 _ _ w.heap.size 0 _ _ rfl hr Tryz.underlying56 rfl HI2.out) rfl ?_
      rw [HE2.out, ← HZ.out]
      exact took_none w _ 16 b (Kept.set HZB.out HKV.out) (HTV.out.set HZB.out)
    · have h4' : (4 : Int) ≤ (xs.length : Int) - m := by omega
      have h4n : m + 4 ≤ xs.length := by omega
      have h4c : m + 4 ≤ cap := by omega
      obtain ⟨V, hV⟩ : ∃ V, w1.alloc (.cells #[.int .i64 t.hd.1, .int .u64 t.hd.2.1, .slice a1 l1 c1, .slice a2 l2 c2] 156) = V := ⟨_, rfl⟩
      have kV : Below w1.heap.size w1 V := by rw [← hV]; exact (Below.refl _ _).alloc (Nat.le_refl _) _
      have HBOX : Hid (∀ j u, (#[.int .i64 t.hd.1, .int .u64 t.hd.2.1, .slice a1 l1 c1, .slice a2 l2 c2] : Array Value)[j]? = some u → V.cell? ⟨w1.heap.size, j, none⟩ = some u) := fun j u hj => by
        rw [← hV, World.cell?_alloc_at _ _ _ _ rfl, hj]
      have hzV : w1.heap.size < V.heap.size := by rw [← hV]; simp
      have HKV : Hid (Below w.heap.size w V) := HB1.out.trans (kV.mono HB1.out.size)
      have HTV := hid (there_below HT1.out kV hz1)
      have HRV : Hid (Tlv.Rep W0.heap.size w1.heap.size V 9 t (.slice a1 l1 c1) (.slice a2 l2 c2)) := HRP.out.agree (Agree.below kV) (Nat.le_refl _) (Nat.le_refl _)
      obtain ⟨y0, y1, y2, y3, hy⟩ := tail4 (xs := xs) (m := m) (by omega)
      have HY := hid hy
      have HTK : Hid (nats (xs.take (m + 4)) = nats (xs.take m) ++ [y0, y1, y2, y3]) := by rw [Hid, ← hy, ← nats_append, List.take_add]
      clear hy kV h4
      have HCB : Hid (Crc.BySl b V (.slice a (m + 4) cap) (nats (xs.take m) ++ [y0, y1, y2, y3])) := by
        rw [Hid, ← HTK.out]
        exact toCrc (bySlS_take (BySlS.below H.out HKV.out (fun g hg => hg.2)) h4n) (fun g hg => ⟨hg.1, Nat.lt_of_lt_of_le hg.2 HKV.out.size⟩)
      obtain ⟨f, n, hf, ht⟩ := HT.out.below HKV.out
      have HOP := hid (Crc.open_any b f n (.slice a (m + 4) cap) (nats (xs.take m)) y0 y1 y2 y3 V hf ht HCB.out (by have := HML.out; rw [nats_length, List.length_take]; omega))
      clear ht hf HCB
      go_wp2_with fail
      refine HOP.out.mono ?_
      rintro e w2 ⟨hk2, ht2, v', q, rfl, hq⟩
      have HK2 : Hid (Kept b w w2) := (Kept.below HKV.out).trans hk2
      have HT2 : Hid (TabX w2 b) := TabX.of ht2
      have hbV : w.heap.size < V.heap.size := by omega
      have HH2 := hid (there_kept HTV.out hk2 hbV (by omega))
      have HHZ : Hid (w2.there w.heap.size 0 Z.toArray.size) := by rw [Hid, HZS.out]; exact HH2.out
      have hcb := fun j u hj => (hk2.cell (p := ⟨w1.heap.size, j, none⟩) hzV (by simp; omega)).trans (HBOX.out j u hj)
      have b0 := hcb 0 _ rfl
      have b1 := hcb 1 _ rfl
      have b2 := hcb 2 _ rfl
      have b3 := hcb 3 _ rfl
      have HR2 : Hid (Tlv.Rep W0.heap.size w1.heap.size w2 9 t (.slice a1 l1 c1) (.slice a2 l2 c2)) := HRV.out.agree (fun k h1 h2 => hk2.block k (by omega) (by omega)) (Nat.le_refl _) (Nat.le_refl _)
      have hz2 : V.heap.size ≤ w2.heap.size := hk2.size
      clear hk2 ht2 hcb HOP
      rcases hq with ⟨heq, rfl, hv⟩ | ⟨hne, rfl, rfl⟩
      rotate_left
      · have HE2 : Hid (takeF xs = noRec 4) := by
          rw [Hid, HE.out, if_neg (by omega), if_pos]
          intro hc
          apply hne
          rw [← HY.out, ← hc, sumI, nats_ints]
        clear hne HE
        go_wp2_with (refine wpList_store_mid (by rfl) 56 _ _ (by rfl) w.heap.size 0 Z.toArray (by rfl) (by rfl) HHZ.out HI2.out H1.out ?_)
        have hr : World.rangeAt (World.setCells w2 w.heap.size 0 Z) w.heap.size 0 Z := World.rangeAt_setCells_same _ _ _ _ HHZ.out
        refine bodyPost_ret (v := .tuple #[.agg Z.toArray, .int .i64 0, .int .i64 4]) (results_cell_mid3 Tryz.results97 _ _ w.heap.size 0 _ _ rfl hr Tryz.underlying56 rfl HI2.out) rfl ?_
        rw [HE2.out, ← HZ.out]
        exact took_none w _ 4 b (Kept.set HZB.out HK2.out) (HT2.out.set HZB.out)
      · have HE2 : Hid (takeF xs = match recOf t with
            | none => noRec 3
            | some r => (0, r, m + 4)) := by
          have hc : ¬ sumI (xs.take m) ≠ (xs.drop m).take 4 := by
            intro hc
            apply hc
            rw [sumI, heq, ← HY.out, ints_nats]
            intro x hx
            exact HX.out x (List.mem_of_mem_drop (List.mem_of_mem_take hx))
          rw [Hid, HE.out, if_neg (by omega), if_neg hc]
          cases recOf t <;> rfl
        obtain ⟨av, cv, rfl, _⟩ := id hv
        clear heq HE hv
        go_wp2_with fail
        refine (record_any t _ _ W0.heap.size w1.heap.size w2 HR2.out (by omega) HBZ.out).mono ?_
        rintro e w3 ⟨hres, hb3⟩
        have HK3 : Hid (Kept b w w3) := Kept.then HK2.out (hb3.mono (by omega))
        have HT3 := hid (HT2.out.below hb3)
        have HH3 := hid (there_below HH2.out hb3 (by omega))
        have hz3 : w2.heap.size ≤ w3.heap.size := hb3.size
        clear hb3
        rcases hres with ⟨hn, rfl⟩ | ⟨k, nm, bs, ar, cr, hs, rfl, hbs, hnl, hnx⟩
        · have HE3 : Hid (takeF xs = noRec 3) := by rw [Hid, HE2.out, hn]
          have HHZ3 : Hid (w3.there w.heap.size 0 Z.toArray.size) := by rw [Hid, HZS.out]; exact HH3.out
          have HHZ4 : Hid (World.there (w3.setCells w.heap.size 0 Z) w.heap.size 0 Z.toArray.size) := World.there_setCells HHZ3.out _ _ _
          have HK4 : Hid (Kept b w (w3.setCells w.heap.size 0 Z)) := Kept.set HZB.out HK3.out
          have HT4 : Hid (TabX (w3.setCells w.heap.size 0 Z) b) := HT3.out.set HZB.out
          clear hn HE2
          rw [HZ.out]
          go_wp2_with (first
            | (refine wpList_store_mid (by rfl) 56 _ _ (by rfl) w.heap.size 0 Z.toArray (by rfl) (by rfl) HHZ3.out HI2.out H1.out ?_)
            | (refine wpList_store_mid (by rfl) 56 _ _ (by rfl) w.heap.size 0 Z.toArray (by rfl) (by rfl) HHZ4.out HI2.out H1.out ?_))
          have hr : World.rangeAt (World.setCells (w3.setCells w.heap.size 0 Z) w.heap.size 0 Z) w.heap.size 0 Z := World.rangeAt_setCells_same _ _ _ _ HHZ4.out
          refine bodyPost_ret (v := .tuple #[.agg Z.toArray, .int .i64 0, .int .i64 3]) (results_cell_mid3 Tryz.results97 _ _ w.heap.size 0 _ _ rfl hr Tryz.underlying56 rfl HI2.out) rfl ?_
          rw [HE3.out, ← HZ.out]
          rw [← HZ.out] at HK4 HT4
          exact took_none w _ 3 b (Kept.set HZB.out HK4.out) (HT4.out.set HZB.out)
        · have HE3 : Hid (takeF xs = (0, (k, nm, bs), m + 4)) := by rw [Hid, HE2.out, hs]
          have HBS := hid hbs
          have HNX := hid (And.intro hnl hnx)
          have HCL := hid (recA_length k nm (.slice ar bs.length cr) hnl)
          have HCO := hid (recA_one k nm ar bs.length cr)
          clear hs HE2 hbs hnl hnx
          obtain ⟨C, hC⟩ : ∃ C, recA k nm (.slice ar bs.length cr) = C := ⟨_, rfl⟩
          rw [hC] at HCL HCO
          rw [hC]
          have HC := hid hC
          clear hC
          have HCS : Hid (C.toArray.size = 34) := HCL.out
          have HHZ3 : Hid (w3.there w.heap.size 0 C.toArray.size) := by rw [Hid, HCS.out]; exact HH3.out
          have HHZ4 : Hid (World.there (w3.setCells w.heap.size 0 C) w.heap.size 0 C.toArray.size) := World.there_setCells HHZ3.out _ _ _
          have HRG : Hid (World.rangeAt (w3.setCells w.heap.size 0 C) w.heap.size 0 C) := World.rangeAt_setCells_same _ _ _ _ HHZ3.out
          have HIC : Hid ((Tryz.prog.info? 56).map (·.size) = some C.length) := by rw [Hid, HCL.out]; exact Tryz.info35
          have HI3 : Hid ((Tryz.prog.info? 56).map (·.size) = some C.toArray.size) := HIC.out
          have H3 : Hid (C.toArray.all (·.oneCell') = true) := all_oneCell_toArray HCO.out
          go_wp2_with (first
            | (refine wpList_load_mid (by rfl) 56 _ (by rfl) w.heap.size 0 (by rfl) C _ HRG.out Tryz.underlying56 rfl HIC.out ?_)
            | (refine wpList_store_mid (by rfl) 56 _ _ (by rfl) w.heap.size 0 C.toArray (by rfl) (by rfl) HHZ3.out HI3.out H3.out ?_)
            | (refine wpList_store_mid (by rfl) 56 _ _ (by rfl) w.heap.size 0 C.toArray (by rfl) (by rfl) HHZ4.out HI3.out H3.out ?_))
          have hr : World.rangeAt (World.setCells (w3.setCells w.heap.size 0 C) w.heap.size 0 C) w.heap.size 0 C := World.rangeAt_setCells_same _ _ _ _ HHZ4.out
          refine bodyPost_ret (v := .tuple #[.agg C.toArray, .int .i64 ((m + 4 : Nat) : Int), .int .i64 0]) (results_cell_mid3 Tryz.results97 _ _ w.heap.size 0 _ _ rfl hr Tryz.underlying56 rfl HI3.out) rfl ?_
          rw [HE3.out]
          refine ⟨ar, cr, by rw [HC.out], ?_, HNX.out, Kept.set HZB.out (Kept.set HZB.out HK3.out), (HT3.out.set HZB.out).set HZB.out⟩
          have hblk : ∀ g, W0.heap.size ≤ g → (World.setCells (w3.setCells w.heap.size 0 C) w.heap.size 0 C).heap[g]? = w3.heap[g]? := fun g hg => by
            rw [setCells_block _ _ _ _ _ (by omega), setCells_block _ _ _ _ _ (by omega)]
          refine HBS.out.toS.agree (fun g hg => hblk g hg.1) (fun g hg => ⟨by omega, ?_⟩)
          rw [setCells_size, setCells_size]
          omega
end Go.Proofs.YtaaioaocjfpajaaGreatDoor
end

section
/-
  A range over a function that itself writes one block and hands out memory that it has made: the caller's law.
-/
namespace Go.Proofs.YtaaioaocjfpajaaGreatDoor
open Go.RowKit
open Tlv (Tr BySlS AgreeS Agree)
open Crc (hid Kept Tab)
theorem put_below {B l : Nat} (W : World) (o : Obj) (h : B ≤ l) (hl : l < W.heap.size) : Below B W (W.putObj l o) :=
  (Below.refl B W).grown (grownBy_putObj' W l o) (by omega) (fun k e => by cases e; omega)

/-- The record of a loop, in a block from B on, is put anew; all else stands. -/
structure Putl (B : Nat) (U W : World) : Prop where
  os : W.os = U.os
  tape : W.tape = U.tape
  output : W.output = U.output
  size : W.heap.size = U.heap.size
  at' : ∃ l lp, B ≤ l ∧ U.heap[l]? = some (.loop lp) ∧ ∀ i, i ≠ l → W.heap[i]? = U.heap[i]?

theorem Putl.below {B : Nat} {U W : World} (h : Putl B U W) : Below B U W := by
  obtain ⟨l, lp, h1, h2, h3⟩ := h.at'
  exact ⟨h.os, h.tape, h.output, by have := h.size; omega, fun k hk => h3 k (by omega)⟩
/-- Cells stand. -/
theorem Putl.block {B : Nat} {U W : World} (h : Putl B U W) {g : Nat} {cs : Array Value} {t : TypeId} {fr : Nat × Nat} (hg : U.heap[g]? = some (.cells cs t fr)) : W.heap[g]? = some (.cells cs t fr) := by
  obtain ⟨l, lp, h1, h2, h3⟩ := h.at'
  rw [h3 g (fun e => by rw [e, h2] at hg; cases hg)]
  exact hg
theorem Putl.cell {B : Nat} {U W : World} (h : Putl B U W) {g o : Nat} {v : Value} (hc : U.cell? ⟨g, o, none⟩ = some v) : W.cell? ⟨g, o, none⟩ = some v := by
  obtain ⟨l, lp, h1, h2, h3⟩ := h.at'
  rw [World.cell?_of_block (w := U) (a := ⟨g, o, none⟩) (h3 g (fun e => by
    rw [e] at hc
    simp [World.cell?, h2] at hc))]
  exact hc

/-- What an iterator that may write block b, and no other that was there, tells: in round k values as V says, in memory from m on, where the caller had none yet; N rounds. T: what it asks of the world, and leaves. -/
def Tells (n gf : Nat) (lb : Array Value) (b : Nat) (T : World → Prop) (V : Nat → Nat → Array Value → World → Prop) (N : Nat) : Prop :=
  ∀ (l : Nat) (J : Nat → Nat → World → Prop) (Jx : Nat → World → Prop) (W : World), T W → (∀ k m U W', J k m U → T W' → Kept b U W' → J k m W') →
    (∀ k m U vs, k < N → m ≤ U.heap.size → J k m U → T U → V k m vs U → YieldAt Fence.wide (n - 1) Tryz.prog l vs U fun e W' => (e = .returned (.bool true) ∧ J (k + 1) W'.heap.size W' ∧ T W') ∨ (e = .returned (.bool false) ∧ Jx (k + 1) W')) →
    J 0 W.heap.size W →
    CallsIn Fence.wide n Tryz.prog gf (#[.func (.yield l) #[] #[]] ++ lb) W fun e W' => (∃ v, e = .returned v) ∧ ((∃ m, J N m W' ∧ T W') ∨ ∃ k, k ≤ N ∧ Jx k W')

/-- How the body of a round may be left: k rounds have come, this one with them. -/
def roundEnds (B : Nat) (T : World → Prop) (I : Nat → Nat → World → Prop) (Ix : Code → Nat → World → Prop) (k : Nat) (W : World) : Exit → Act → World → Prop
  | .normal, _, V => KeepsFrom B W V ∧ I k V.heap.size V ∧ T V
  | .ret, _, V => KeepsFrom B W V ∧ Ix .ret k V
  | .exit id, _, V => KeepsFrom B W V ∧ Ix (.exit id) k V
  | _, _, _ => False

theorem over_func {g : Operand} {ps : Array Tmp} {assign body : Code} {Q : Exit → Act → World → Prop} {a : Act} {w : World} {n gf : Nat} {lb : Array Value}
    (hg : a.eval g = .func (.func gf) #[] lb) (eg : ∀ args w, (callFunc gf args).run Tryz.prog w = .ok (.enter gf args) w)
    {b : Nat} {T : World → Prop} {V : Nat → Nat → Array Value → World → Prop} {N : Nat} (hseq : Tells (n - 1) gf lb b T V N) (hps : ∀ k m vs U, V k m vs U → vs.size = ps.size)
    (hb : b < w.heap.size) (hT : ∀ U W, T U → Below w.heap.size U W → T W) (hT0 : T w)
    (I : Nat → Nat → World → Prop) (Ix : Code → Nat → World → Prop) (hIk : ∀ k m U W, I k m U → T W → Kept b U W → I k m W) (hI : ∀ k m U W, I k m U → Putl w.heap.size U W → I k m W)
    (hIx : ∀ c k U W, Ix c k U → Putl w.heap.size U W → Ix c k W)
    (h0 : ∀ W, Below w.heap.size w W → W.heap.size = w.heap.size + 2 → I 0 W.heap.size W)
    (asg : Array Value → World → World) (hasg : ∀ vs W, Below W.heap.size W (asg vs W)) (hVa : ∀ k m vs U, V k m vs U → V k m vs (asg vs U)) (hIa : ∀ k m vs U, V k m vs U → I k m U → I k m (asg vs U)) (a₁ : Nat → Array Value → World → Act)
    (hV : ∀ k m vs U W, V k m vs U → Putl w.heap.size U W → V k m vs W)
    (hassign : ∀ (l k m : Nat) (vs : Array Value) (W : World) (K : Act → World → Prop), k < N → V k m vs W → K (a₁ k vs W) (asg vs W) →
      assign.wpIn (Fence.wide.inRound l) (n - 1 - 1) Tryz.prog (Exit.then K (fun _ _ _ => False)) { tmps := (ps.zip vs).foldl (fun t (p, v) => t.setIfInBounds p v) a.tmps, defers := [] } W)
    (hbody : ∀ (l k m : Nat) (vs : Array Value) (U W : World), k < N → m ≤ U.heap.size → V k m vs W → I k m W → T W → W.heap.size = (asg vs U).heap.size → (∀ i, U.heap.size ≤ i → W.heap[i]? = (asg vs U).heap[i]?) → w.heap.size ≤ U.heap.size → body.wpIn (Fence.wide.inRound l) (n - 1 - 1) Tryz.prog (roundEnds w.heap.size T I Ix (k + 1) W) (a₁ k vs U) W)
    (hdone : ∀ (D m : Nat) (W : World), w.heap.size ≤ D → I N m W → T W → W.heap[D]? = some (.deferred (some [])) → Q .normal { a with defers := { target := .collected D, args := #[] } :: a.defers } W)
    (hstop : ∀ (D : Nat) (c : Code) (k : Nat) (W : World), w.heap.size ≤ D → k ≤ N → Ix c k W → W.heap[D]? = some (.deferred (some [])) → c.wpIn Fence.wide n Tryz.prog Q { a with defers := { target := .collected D, args := #[] } :: a.defers } W) :
    (Code.rangeFunc g ps assign body).wpIn Fence.wide n Tryz.prog Q a w := by
  refine wpIn_rangeFunc fun fn hfn => ?_
  -- the record of the loop, by its state and the jump that is pending; it lies in the second of two new blocks
  let rec0 : LoopState → Option Code → Loop := fun st pe => { state := st, pending := pe, fn, tmps := a.tmps, params := ps, assign, body, defers := w.heap.size }
  have hB : ∀ (W : World) (o : Obj) (l : Nat), w.heap.size ≤ l → l < W.heap.size → Below w.heap.size W (W.putObj l o) := fun W o l h1 h2 => put_below W o h1 h2
  let Rec : LoopState → Option Code → World → Prop := fun st pe W => W.heap[w.heap.size + 1]? = some (.loop (rec0 st pe)) ∧ W.heap[w.heap.size]? = some (.deferred (some []))
  have start : Below w.heap.size w ((w.alloc (.deferred (some []))).alloc (.loop (rec0 .ready none))) := ((Below.refl _ w).alloc (Nat.le_refl _) _).alloc (by simp) _
  have r0 : Rec .ready none ((w.alloc (.deferred (some []))).alloc (.loop (rec0 .ready none))) := by
    refine ⟨?_, (Below.heap_alloc _ _ _ (by simp)).trans (World.alloc_heap_new w _)⟩
    have h := World.alloc_heap_new (w.alloc (.deferred (some []))) (.loop (rec0 .ready none))
    rwa [World.size_alloc] at h
  have hlt : ∀ {st pe W}, Rec st pe W → w.heap.size + 1 < W.heap.size := fun h => (Array.getElem?_eq_some_iff.1 h.1).1
  -- the record is put anew
  have put : ∀ {st pe W} (st' : LoopState) (pe' : Option Code), Rec st pe W → Rec st' pe' (W.putObj (w.heap.size + 1) (.loop (rec0 st' pe'))) := fun st' pe' h =>
    ⟨World.putObj_heap_same (hlt h), (World.putObj_heap_other (by omega)).trans h.2⟩
  have keep : ∀ {st pe W V}, Rec st pe W → KeepsFrom w.heap.size W V → Rec st pe V := fun h k => ⟨k.same _ _ (by omega) h.1 rfl, k.same _ _ (Nat.le_refl _) h.2 rfl⟩
  have psz : ∀ (W : World) (o : Obj) (l : Nat), (W.putObj l o).heap.size = W.heap.size := fun W o l => by simp [World.putObj]
  have poth : ∀ (W : World) (o : Obj), ∀ i, i ≠ w.heap.size + 1 → (W.putObj (w.heap.size + 1) o).heap[i]? = W.heap[i]? := fun W o i hi => World.putObj_heap_other (by omega)
  have putI : ∀ {k m st pe W} (st' : LoopState) (pe' : Option Code), Rec st pe W → I k m W → I k m (W.putObj (w.heap.size + 1) (.loop (rec0 st' pe'))) := fun {k m st pe W} st' pe' h hi =>
    hI k m W _ hi ⟨rfl, rfl, rfl, psz _ _ _, w.heap.size + 1, _, by omega, h.1, poth W _⟩
  have putIx : ∀ {c k st pe W} (st' : LoopState) (pe' : Option Code), Rec st pe W → Ix c k W → Ix c k (W.putObj (w.heap.size + 1) (.loop (rec0 st' pe'))) := fun {c k st pe W} st' pe' h hi =>
    hIx c k W _ hi ⟨rfl, rfl, rfl, psz _ _ _, w.heap.size + 1, _, by omega, h.1, poth W _⟩
  refine ⟨w.heap.size + 1, [{ target := .collected w.heap.size, args := #[] }], (w.alloc (.deferred (some []))).alloc (.loop (rec0 .ready none)), { target := .fn (.func gf) lb, args := #[.func (.yield (w.heap.size + 1)) #[] #[]] },
    (w.alloc (.deferred (some []))).alloc (.loop (rec0 .ready none)), gf, #[.func (.yield (w.heap.size + 1)) #[] #[]] ++ lb, (w.alloc (.deferred (some []))).alloc (.loop (rec0 .ready none)), ?_, ?_, fun _ _ => trivial, ?_, fun h => by simp [Fence.wide] at h, ?_⟩
  · exact run_enterLoop_outer _ _ _ _ _
  · simp only [resolve, hg]
    simp [go_sem]
  · simp [invoke, go_sem, eg]
  · refine (hseq (w.heap.size + 1) (fun k m W => I k m W ∧ Rec .ready none W) (fun k W => ∃ c, Ix c k W ∧ Rec .done (some c) W) _ (hT _ _ hT0 start) ?_ ?_ ⟨h0 _ start (by simp), r0⟩).mono ?_
    · -- the iterator writes block b
      rintro k m U W' ⟨hi, hr⟩ hTW hk
      have hs := hlt hr
      exact ⟨hIk k m U W' hi hTW hk, (hk.block _ hs (by omega)).trans hr.1, (hk.block _ (by omega) (by omega)).trans hr.2⟩
    · -- one round
      rintro k m U vs hkN hmU ⟨hi, hr⟩ hTU hVU
      have hs := hlt hr
      have ba := hasg vs U
      have hra : Rec .ready none (asg vs U) := ⟨(ba.block _ hs).trans hr.1, (ba.block _ (by omega)).trans hr.2⟩
      have hsa := hlt hra
      refine ⟨fn, _, assign, body, run_yield (P := Tryz.prog) (args := vs) hr.1 (hps k m vs U hVU), roundIn_of_wpIn hfn (hassign _ k m vs U _ hkN hVU ⟨_, run_beginRound hra.1 rfl, ?_⟩)⟩
      have b1 := hB (asg vs U) (.loop { rec0 .ready none with state := .busy }) _ (by omega) hsa
      have hTa : T (asg vs U) := hT _ _ hTU (ba.mono (by omega))
      have hIa' : I k m (asg vs U) := hIa k m vs U hVU hi
      have hVa' : V k m vs (asg vs U) := hVa k m vs U hVU
      refine wpIn_mono (hbody _ k m vs U _ hkN hmU ?_ (putI .busy none hra hIa') (hT _ _ hTa b1) ?_ ?_ (by omega)) ?_
      · exact hV k m vs _ _ hVa' ⟨rfl, rfl, rfl, psz _ _ _, w.heap.size + 1, _, by omega, hra.1, poth _ _⟩
      · exact psz _ _ _
      · intro i hi
        exact poth _ _ i (by omega)
      have hr1 : Rec .busy none ((asg vs U).putObj (w.heap.size + 1) (.loop { rec0 .ready none with state := .busy })) := put .busy none hra
      have ends : ∀ (jump : Option Code) (V : World), KeepsFrom w.heap.size ((asg vs U).putObj (w.heap.size + 1) (.loop { rec0 .ready none with state := .busy })) V →
          (Instr.endRound (w.heap.size + 1) jump).run Tryz.prog V = .ok (.bool jump.isNone) (V.putObj (w.heap.size + 1) (.loop (rec0 (if jump.isNone then .ready else .done) jump))) ∧
          Rec (if jump.isNone then .ready else .done) jump (V.putObj (w.heap.size + 1) (.loop (rec0 (if jump.isNone then .ready else .done) jump))) ∧ Below w.heap.size V (V.putObj (w.heap.size + 1) (.loop (rec0 (if jump.isNone then .ready else .done) jump))) ∧ Rec .busy none V := fun jump V hk => by
        have hr2 := keep hr1 hk
        exact ⟨run_endRound (P := Tryz.prog) jump hr2.1, put _ _ hr2, hB V _ _ (by omega) (hlt hr2), hr2⟩
      rintro e a3 V hp
      cases e with
      | normal =>
        obtain ⟨hk, hi2, ht2⟩ := hp
        obtain ⟨h1, h2, h3, h4⟩ := ends none V hk
        exact ⟨_, _, h1, .inl ⟨rfl, ⟨by rw [psz]; exact putI _ _ h4 hi2, h2⟩, hT _ _ ht2 h3⟩⟩
      | ret =>
        obtain ⟨hk, hi2⟩ := hp
        obtain ⟨h1, h2, h3, h4⟩ := ends (some .ret) V hk
        exact ⟨_, _, h1, .inr ⟨rfl, .ret, putIx _ _ h4 hi2, h2⟩⟩
      | exit id =>
        obtain ⟨hk, hi2⟩ := hp
        obtain ⟨h1, h2, h3, h4⟩ := ends (some (.exit id)) V hk
        exact ⟨_, _, h1, .inr ⟨rfl, .exit id, putIx _ _ h4 hi2, h2⟩⟩
      | goto t => exact hp.elim
      | panic ch => exact hp.elim
      | outgrown => exact hp.elim
    · -- behind the iterator
      rintro e V ⟨⟨v, rfl⟩, (⟨m, ⟨hi, hr⟩, ht⟩ | ⟨k, hk, c, hi, hr⟩)⟩
      · exact ⟨none, _, run_endLoop (P := Tryz.prog) hr.1 (by simp [rec0]), hdone _ m _ (Nat.le_refl _) (putI .exhausted none hr hi) (hT _ _ ht (hB V _ _ (Nat.le_succ _) (hlt hr))) ((World.putObj_heap_other (by omega)).trans hr.2)⟩
      · exact ⟨some c, _, run_endLoop (P := Tryz.prog) hr.1 (by simp [rec0]), hstop _ c k _ (Nat.le_refl _) hk (putIx .exhausted (some c) hr hi) ((World.putObj_heap_other (by omega)).trans hr.2)⟩

end Go.Proofs.YtaaioaocjfpajaaGreatDoor
end

section
/-
  Plain mathematics: what a scan is told, frame behind frame.
-/
namespace Go.Proofs.YtaaioaocjfpajaaGreatDoor

/-- What is told: where, and what Take answers there. -/
abbrev Item : Type := Nat × (Int × (Int × List Int × List Int) × Nat)

def toldN : Nat → List Int → Nat → List Item
  | 0, _, _ => []
  | k + 1, xs, p => if xs.length ≤ p then [] else (p, takeF (xs.drop p)) :: if (takeF (xs.drop p)).1 = 0 then toldN k xs (p + (takeF (xs.drop p)).2.2) else []

theorem toldN_fuel : ∀ (k m : Nat) (xs : List Int) (p : Nat), xs.length + 1 - p ≤ k → xs.length + 1 - p ≤ m → toldN k xs p = toldN m xs p
  | 0, m, xs, p, h1, h2 => by
    cases m with
    | zero => rfl
    | succ m => rw [toldN, toldN, if_pos (by omega)]
  | k + 1, 0, xs, p, h1, h2 => by rw [toldN, toldN, if_pos (by omega)]
  | k + 1, m + 1, xs, p, h1, h2 => by
    rw [toldN, toldN]
    by_cases h : xs.length ≤ p
    · rw [if_pos h, if_pos h]
    · rw [if_neg h, if_neg h]
      by_cases h0 : (takeF (xs.drop p)).1 = 0
      · have hp := takeF_pos h0
        rw [if_pos h0, if_pos h0, toldN_fuel k m xs _ (by omega) (by omega)]
      · rw [if_neg h0, if_neg h0]

/-- All that is told from p on. -/
def tl (xs : List Int) (p : Nat) : List Item := toldN (xs.length + 1 - p) xs p

theorem tl_end {xs : List Int} {p : Nat} (h : xs.length ≤ p) : tl xs p = [] := by
  rw [tl]
  cases hq : xs.length + 1 - p with
  | zero => rfl
  | succ k => rw [toldN, if_pos h]
theorem tl_bad {xs : List Int} {p : Nat} (h : p < xs.length) (hf : (takeF (xs.drop p)).1 ≠ 0) : tl xs p = [(p, takeF (xs.drop p))] := by
  rw [tl, show xs.length + 1 - p = (xs.length - p) + 1 by omega, toldN, if_neg (by omega), if_neg hf]
theorem tl_good {xs : List Int} {p : Nat} (h : p < xs.length) (hf : (takeF (xs.drop p)).1 = 0) : tl xs p = (p, takeF (xs.drop p)) :: tl xs (p + (takeF (xs.drop p)).2.2) := by
  have hp := takeF_pos hf
  rw [tl, show xs.length + 1 - p = (xs.length - p) + 1 by omega, toldN, if_neg (by omega), if_pos hf, tl, toldN_fuel (xs.length - p) (xs.length + 1 - (p + (takeF (xs.drop p)).2.2)) xs _ (by omega) (by omega)]
theorem tl_head {xs : List Int} {p : Nat} (h : p < xs.length) : ∃ L, tl xs p = (p, takeF (xs.drop p)) :: L ∧ (((takeF (xs.drop p)).1 = 0 ∧ L = tl xs (p + (takeF (xs.drop p)).2.2)) ∨ ((takeF (xs.drop p)).1 ≠ 0 ∧ L = [])) := by
  by_cases hf : (takeF (xs.drop p)).1 = 0
  · exact ⟨_, tl_good h hf, .inl ⟨hf, rfl⟩⟩
  · exact ⟨_, tl_bad h hf, .inr ⟨hf, rfl⟩⟩

/-- The good ones, where the first that is none begins, and the fault there. -/
def scanR : List Item → Nat → List Item × Nat × Int
  | [], p => ([], p, 0)
  | x :: L, _ => if x.2.1 = 0 then (x :: (scanR L (x.1 + x.2.2.2)).1, (scanR L (x.1 + x.2.2.2)).2) else ([], x.1, x.2.1)

def scanF (xs : List Int) : List Item × Nat × Int := scanR (tl xs 0) 0

theorem tl_length_le (xs : List Int) : ∀ (d p : Nat), xs.length - p ≤ d → (tl xs p).length ≤ xs.length - p
  | 0, p, h => by rw [tl_end (by omega)]; simp
  | d + 1, p, h => by
    by_cases hp : xs.length ≤ p
    · rw [tl_end hp]; simp
    · by_cases hf : (takeF (xs.drop p)).1 = 0
      · have hq := takeF_pos hf
        have := tl_length_le xs d (p + (takeF (xs.drop p)).2.2) (by omega)
        rw [tl_good (by omega) hf, List.length_cons]
        omega
      · rw [tl_bad (by omega) hf]; simp; omega

end Go.Proofs.YtaaioaocjfpajaaGreatDoor
end
