/-
  The record whose value a tree is, as the program finds it.
-/
import Derived.Test.YthbhdbjjobfchaaFrFirst
import Derived.Deep.RegionLaw
import Derived.Deep.RegionHeld3
namespace Go.Proofs.Ythbhdbjjobfchaa
open Go.RowKit
open Tlv (Tr BySlS AgreeS Agree)
open Crc (hid Kept Tab)

theorem step_copy {P : Program} {ops : Array Oper} {o : Oper} {a : Act} {K : Act → World → Prop} {Q : Exit → Act → World → Prop} {E : Prop} (w : World) (hgd : o.guard = none) (d s : Operand) (dT sT : TypeId)
    (ho : o.op = .call { callee := .builtin .copy, args := #[d, s], argTypes := #[dT, sT] }) (elem : TypeId) (hu : P.underlying dT = some (.slice elem)) (hsz : (P.info? elem).map (·.size) = some 1)
    (g off dLen dCap : Nat) (ad : Addr) (sLen sCap : Nat) (hd : a.eval d = .slice (some ⟨g, off, none⟩) dLen dCap) (hs : a.eval s = .slice (some ad) sLen sCap)
    (cs : List Value) (hn : cs.length = Nat.min sLen dLen)
    (hsrc : ∀ j v, cs[j]? = some v → w.cell? (ad.add j) = some v) (ht : w.there g off cs.length) (h1 : ∀ v ∈ cs, v.oneCell' = true)
    (h : K (a.put o.dst (goInt cs.length)) (w.setCells g off cs)) : if Region.wanted o (yielded ops a.tmps) = true then Oper.wp P o a w K Q else E := by
  have hw : Region.wanted o (yielded ops a.tmps) = true := by simp [Region.wanted, hgd]
  rw [if_pos hw]
  have hrun := run_copy_cells (P := P) w dT sT o.type elem g off dLen dCap ad sLen sCap cs hu hsz hn hsrc (fun j hj => (ht j hj).1) (fun j hj => (ht j hj).2) h1
  unfold Oper.wp
  simp [execOp, ho, resolve, invoke, builtin, hd, hs, hrun, Result.andThen]
  exact h

theorem yields_build2 {P : Program} {ops : Array Oper} {S : World → Prop} {o : Oper} {a : Act} (hw : Region.wanted o (yielded ops a.tmps) = true) (t : TypeId) (i j : Nat) (x y : Operand) (ho : o.op = .build t #[(i, x), (j, y)])
    (vx vy : Value) (hx : a.eval x = vx) (hy : a.eval y = vy) (C : Array Value) (hb : P.built t [(i, vx), (j, vy)] = some C) : YieldsIf P ops S o (.agg C) a :=
  .inl ⟨hw, fun w _ => by
    have e : P.built t ((#[(i, x), (j, y)] : Array (Nat × Operand)).map fun (i, x) => (i, a.eval x)).toList = some C := by
      rw [← hb]
      simp only [List.map_toArray, List.map_cons, List.map_nil, hx, hy]
    unfold execOp
    simp only [ho, Sem.run_bind, run_build w t _ C e, Result.andThen_ok]
    rfl⟩

theorem built35b (k : Int) (a : Option Addr) (l c : Nat) : Try.prog.built 35 [(0, .int .i64 k), (2, .slice a l c)] = some (recA k (List.replicate 32 0) (.slice a l c)).toArray := by kernel_rfl

/-- What lies at g: a record of kind k, of no name yet, with the body v. -/
def Half (w W : World) (k : Int) (nm : List Int) (v : Value) (g : Nat) : Prop := Below w.heap.size w W ∧ w.heap.size ≤ g ∧ g < W.heap.size ∧ W.rangeAt g 0 (recA k nm v) ∧ W.there g 0 34

theorem Half.drew {w W : World} {k : Int} {nm : List Int} {v : Value} {g : Nat} (h : Half w W k nm v g) : Half w W.drew k nm v g := by
  obtain ⟨h1, h2, h3, h4, h5⟩ := h
  exact ⟨h1.drew, h2, h3, by rwa [World.rangeAt_drew], by rwa [World.there_drew]⟩

theorem app_right {A A0 T : List Value} {i : Nat} (h : A.length = A0.length) (hi : A.length ≤ i) : (A ++ T)[i]? = (A0 ++ T)[i]? := by
  rw [List.getElem?_append_right hi, List.getElem?_append_right (by omega), h]

theorem Half.named {w W : World} {k : Int} {bn : List Int} {v : Value} {g : Nat} (h : Half w W k (List.replicate 32 0) v g) (ht : W.there g 1 (u8s (bn.take 32)).length) : Half w (W.setCells g 1 (u8s (bn.take 32))) k (pad32 bn) v g := by
  obtain ⟨h1, h2, h3, h4, h5⟩ := h
  refine ⟨h1.trans (setCells_below h2 _ _ _), h2, by rw [setCells_size]; exact h3, fun j u hj => ?_, World.there_setCells h5 _ _ _⟩
  have hl : (u8s (bn.take 32)).length = (bn.take 32).length := u8s_length _
  have hl2 : (bn.take 32).length ≤ 32 := by rw [List.length_take]; omega
  have key : j = 0 ∨ (1 ≤ j ∧ j < 1 + (bn.take 32).length) ∨ 1 + (bn.take 32).length ≤ j := by omega
  rcases key with rfl | ⟨j1, j2⟩ | j3
  · rw [Nat.zero_add, World.cell?_setCells_out g _ 1 W ⟨g, 0, none⟩ (fun _ _ => .inl (by simp))]
    exact h4 0 u hj
  · obtain ⟨i, rfl⟩ : ∃ i, j = 1 + i := ⟨j - 1, by omega⟩
    have hi : i < (u8s (bn.take 32)).length := by omega
    rw [Nat.zero_add, World.cell?_setCells_in g _ 1 W (fun i hi => (ht i hi).1) i hi, ← hj, recA, Nat.add_comm, List.getElem?_cons_succ, show u8s (pad32 bn) = u8s (bn.take 32) ++ u8s (List.replicate (32 - bn.length) 0) by simp [pad32, u8s], List.append_assoc, List.getElem?_append_left hi]
    exact (List.getElem?_eq_getElem hi).symm
  · rw [Nat.zero_add, World.cell?_setCells_out g _ 1 W ⟨g, j, none⟩ (fun _ _ => .inr (by show 1 + _ ≤ j; omega))]
    have h6 := h4 j u (by
      rw [← hj]
      obtain ⟨i, rfl⟩ : ∃ i, j = i + 1 := ⟨j - 1, by omega⟩
      rw [recA, recA, List.getElem?_cons_succ, List.getElem?_cons_succ]
      have e1 : u8s (pad32 bn) = u8s (bn.take 32) ++ u8s (List.replicate (32 - bn.length) 0) := by simp [pad32, u8s]
      have e2 : u8s (List.replicate 32 0) = u8s (List.replicate (bn.take 32).length 0) ++ u8s (List.replicate (32 - bn.length) 0) := by
        simp only [u8s, List.map_replicate, List.replicate_append_replicate]
        congr 1
        rw [List.length_take]
        omega
      rw [e1, e2, List.append_assoc, List.append_assoc]
      exact app_right (by rw [u8s_length, u8s_length]; simp) (by rw [u8s_length, List.length_replicate]; omega))
    rw [Nat.zero_add] at h6
    exact h6

set_option maxHeartbeats 4000000 in
set_option maxRecDepth 100000 in
theorem record_any (t : Tr 9) (sb sk : Value) (L B : Nat) (w : World) (h : Tlv.Rep L B w 9 t sb sk) (hB : B ≤ w.heap.size) (hr : (Tlv.bsz 9 t 65535 8).2 = true) :
    Calls Try.prog 36 #[.agg #[.int .i64 t.hd.1, .int .u64 t.hd.2.1, sb, sk]] w fun e w' => ((recOf t = none ∧ e = .returned (.tuple #[.agg zRec.toArray, .bool false])) ∨
      (∃ k nm bs a c, recOf t = some (k, nm, bs) ∧ e = .returned (.tuple #[.agg (recA k nm (.slice a bs.length c)).toArray, .bool true]) ∧ Tlv.BySl L B w' (.slice a bs.length c) bs ∧ nm.length = 32 ∧ ∀ x ∈ nm, 0 ≤ x ∧ x ≤ 255)) ∧ Below w.heap.size w w' := by
  have HREP := hid h
  obtain ⟨hn0, hn1, hby, hks⟩ := h
  obtain ⟨ab, cb, rfl, _⟩ := id hby
  obtain ⟨ak, ck, rfl, hk2, hk3, _, hkl, hk7⟩ := id hks
  have hz := zero35
  obtain ⟨Z, hZ⟩ : ∃ Z, zRec = Z := ⟨_, rfl⟩
  have HZ := hid hZ
  rw [hZ] at hz
  clear hZ
  by_cases h3 : t.kd.length = 3
  rotate_left
  · have hne : ((t.kd.length : Int) != 3) = true := by simp; omega
    have HRN : Hid (recOf t = none) := by
      rw [Hid, recOf]
      match hq : t.kd with
      | [] => rfl
      | [_] => rfl
      | [_, _] => rfl
      | [a, b, c] => rw [hq] at h3; simp at h3
      | _ :: _ :: _ :: _ :: _ => rfl
    clear hk7 hby hks h3 hr
    generalize t.kd.length = KL at *
    generalize t.hd.2.2 = bs at *
    generalize t.hd.2.1 = num at *
    generalize t.hd.1 = tag at *
    have HT : Hid (World.there ((w.alloc (.cells #[.int .i64 tag, .int .u64 num, .slice ab bs.length cb, .slice ak KL ck] 88)).alloc (.cells Z.toArray 35)) (w.heap.size + 1) 0 Z.toArray.size) := by
      have h := there_new (w.alloc (.cells #[.int .i64 tag, .int .u64 num, .slice ab bs.length cb, .slice ak KL ck] 88)) Z 35
      rw [Hid]
      simpa using h
    have HI2 : Hid ((Try.prog.info? 35).map (·.size) = some Z.toArray.size) := by rw [← HZ.out]; exact Try.info35
    have H1 : Hid (Z.toArray.all (·.oneCell') = true) := by rw [← HZ.out]; exact all_oneCell_toArray zRec_one
    go_enter Try.func36, Try.ntmps36
    go_wp2_with (refine wpList_store_mid (by rfl) 35 _ _ (by rfl) (w.heap.size + 1) 0 Z.toArray (by rfl) (by rfl) ?ht HI2.out H1.out ?_; (case ht => exact HT.out))
    have hr : World.rangeAt (((w.alloc (.cells #[.int .i64 tag, .int .u64 num, .slice ab bs.length cb, .slice ak KL ck] 88)).alloc (.cells Z.toArray 35)).setCells (w.heap.size + 1) 0 Z) (w.heap.size + 1) 0 Z := World.rangeAt_setCells_same _ _ _ _ HT.out
    refine bodyPost_ret (v := .tuple #[.agg Z.toArray, .bool false]) ?_ rfl ⟨.inl ⟨HRN.out, by rw [HZ.out]⟩, ?_⟩
    · exact results_cell_mid2 Try.results36 _ _ (w.heap.size + 1) 0 _ _ rfl hr Try.underlying35 rfl HI2.out
    · exact (((Below.refl _ _).alloc (Nat.le_refl _) _).alloc (by simp) _).trans (setCells_below (by omega) _ _ _)
  · obtain ⟨ka, kb, kc, hkd⟩ : ∃ ka kb kc, t.kd = [ka, kb, kc] := by
      match hq : t.kd with
      | [a, b, c] => exact ⟨a, b, c, rfl⟩
      | [] => rw [hq] at h3; simp at h3
      | [_] => rw [hq] at h3; simp at h3
      | [_, _] => rw [hq] at h3; simp at h3
      | _ :: _ :: _ :: _ :: _ => rw [hq] at h3; simp at h3
    obtain ⟨bk, ok, rfl, hbL, hbB, hcell⟩ := hk7 (by rw [hkd]; simp)
    have HREP3 : Hid (Tlv.Rep L B w 9 t (.slice ab t.hd.2.2.length cb) (.slice (some ⟨bk, ok, none⟩) 3 ck)) := by
      have h := HREP.out
      rwa [h3] at h
    obtain ⟨sa, ska, a0, a1, a2, a3, ra⟩ := hcell 0 ka (by rw [hkd]; rfl)
    obtain ⟨sbb, skb, b0, b1, b2, b3, rb⟩ := hcell 1 kb (by rw [hkd]; rfl)
    obtain ⟨sc, skc, c0, c1, c2, c3, rc⟩ := hcell 2 kc (by rw [hkd]; rfl)
    simp only [Nat.zero_mul, Nat.reduceMul, Nat.add_zero] at a1 b2 c2
    obtain ⟨an0, an1, _, _⟩ := ra
    obtain ⟨_, _, bby, _⟩ := rb
    obtain ⟨_, _, cby, _⟩ := rc
    obtain ⟨k, hk⟩ : ∃ k, wrap64 ka.hd.2.1 = k := ⟨_, rfl⟩
    have HEQ := hid (recOf_eq hkd hr an0 an1 hk.symm)
    have HCB := hid cby
    have HBB := hid bby
    obtain ⟨abb, cbb, rfl, hbb2, hbb3, hbb4, hbb5, hbb6, hbb7⟩ := id bby
    obtain ⟨ac, cc, rfl, _⟩ := id cby
    have HB7 := hid hbb7
    have HB4 := hid hbb4
    clear hcell a0 a2 a3 b0 b1 b3 c0 c1 c3 hbb7 hbb4 hk7 hby hks cby bby h3 hbb6
    rw [hkd]
    simp only [List.length_cons, List.length_nil, Nat.zero_add, Nat.reduceAdd]
    have HKB : Hid (bk < w.heap.size) := by rw [Hid]; omega
    have hK := HKB.out
    generalize hbn : kb.hd.2.2 = bn at *
    generalize hcs : kc.hd.2.2 = cs at *
    generalize hka : ka.hd.2.1 = num0 at *
    generalize hT2 : t.hd.2.2 = bs at *
    generalize hT1 : t.hd.2.1 = num at *
    generalize hT0 : t.hd.1 = tag at *
    have HK := hid hk
    have HH := hid (And.intro hT0 (And.intro hT1 hT2))
    clear hT0 hT1 hT2 hka hcs hbn
    go_enter Try.func36, Try.ntmps36
    go_wp2_with fail
    obtain ⟨W0, hW0⟩ : ∃ W0, (w.alloc (.cells #[.int .i64 tag, .int .u64 num, .slice ab bs.length cb, .slice (some ⟨bk, ok, none⟩) 3 ck] 88)).alloc (.cells Z.toArray 35) = W0 := ⟨_, rfl⟩
    have hbel : Below w.heap.size w W0 := by rw [← hW0]; exact ((Below.refl _ _).alloc (Nat.le_refl _) _).alloc (by simp) _
    have HBEL := hid hbel
    have d0 : W0.cell? ⟨w.heap.size, 0, none⟩ = some (.int .i64 tag) := by rw [← hW0, World.cell?_alloc_lt _ _ _ (by simp), World.cell?_alloc_at _ _ _ _ rfl]; rfl
    have d1 : W0.cell? ⟨w.heap.size, 1, none⟩ = some (.int .u64 num) := by rw [← hW0, World.cell?_alloc_lt _ _ _ (by simp), World.cell?_alloc_at _ _ _ _ rfl]; rfl
    have d2 : W0.cell? ⟨w.heap.size, 2, none⟩ = some (.slice ab bs.length cb) := by rw [← hW0, World.cell?_alloc_lt _ _ _ (by simp), World.cell?_alloc_at _ _ _ _ rfl]; rfl
    have d3 : W0.cell? ⟨w.heap.size, 3, none⟩ = some (.slice (some ⟨bk, ok, none⟩) 3 ck) := by rw [← hW0, World.cell?_alloc_lt _ _ _ (by simp), World.cell?_alloc_at _ _ _ _ rfl]; rfl
    have HTR : Hid (W0.there (w.heap.size + 1) 0 34) := by
      have h := there_new (w.alloc (.cells #[.int .i64 tag, .int .u64 num, .slice ab bs.length cb, .slice (some ⟨bk, ok, none⟩) 3 ck] 88)) Z 35
      rw [hW0, ← HZ.out, zRec_length] at h
      rw [Hid]
      simpa using h
    have HD := hid (And.intro d0 (And.intro d1 (And.intro d2 d3)))
    have hz0 : w.heap.size + 1 < W0.heap.size := by rw [← hW0]; simp
    have hz1 : w.heap.size < W0.heap.size := by omega
    have hz2 : bk < W0.heap.size := by omega
    replace a1 := (hbel.cell (p := ⟨bk, ok + 1, none⟩) hK).trans a1
    replace b2 := (hbel.cell (p := ⟨bk, ok + 4 + 2, none⟩) hK).trans b2
    replace c2 := (hbel.cell (p := ⟨bk, ok + 8 + 2, none⟩) hK).trans c2
    rw [hW0]
    clear hW0 hbel
    go_cut [4] (fun p wx => ∃ g, p = .pointer (some ⟨g, 0, none⟩) ∧ Hid (Half W0 wx k (List.replicate 32 0) (.slice ac cs.length cc) g))
    case first =>
      obtain ⟨C0, hC0⟩ : ∃ C0, recA k (List.replicate 32 0) (.slice ac cs.length cc) = C0 := ⟨_, rfl⟩
      have HC0L : Hid (C0.length = 34) := by rw [← hC0]; exact recA_length _ _ _ (by simp)
      have HBU : Hid (Try.prog.built 35 [(0, .int .i64 k), (2, .slice ac cs.length cc)] = some C0.toArray) := by rw [← hC0]; exact built35b _ _ _ _
      have HI0 : Hid ((Try.prog.info? 35).map (·.size) = some C0.toArray.size) := by rw [Hid, show C0.toArray.size = 34 from HC0L.out]; exact Try.info35
      have H10 : Hid (C0.toArray.all (·.oneCell') = true) := by rw [← hC0]; exact all_oneCell_toArray (recA_one _ _ _ _ _)
      have HT0 : Hid (World.there (W0.drew.alloc (.cells Z.toArray 35)) W0.heap.size 0 C0.toArray.size) := by
        have h := there_new W0.drew Z 35
        rw [← HZ.out, zRec_length] at h
        rw [Hid, show C0.toArray.size = 34 from HC0L.out, ← HZ.out]
        exact h
      have HS1 : Hid (Below W0.heap.size W0 (W0.drew.alloc (.cells Z.toArray 35))) := (Below.refl _ _).drew.alloc (Nat.le_refl _) _
      have HS2 : Hid (Below W0.heap.size W0 ((W0.drew.alloc (.cells Z.toArray 35)).setCells W0.heap.size 0 C0)) := HS1.out.trans (setCells_below (Nat.le_refl _) _ _ _)
      have HALF : Hid (Half W0 ((W0.drew.alloc (.cells Z.toArray 35)).setCells W0.heap.size 0 C0) k (List.replicate 32 0) (.slice ac cs.length cc) W0.heap.size) := by
        refine ⟨HS2.out, Nat.le_refl _, by rw [setCells_size]; simp, ?_, ?_⟩
        · rw [hC0]
          exact World.rangeAt_setCells_same _ _ _ _ HT0.out
        · have h := World.there_setCells HT0.out W0.heap.size 0 C0
          rwa [show C0.toArray.size = 34 from HC0L.out] at h
      clear hC0
      have hkw : IntKind.i64.wrap num0 = k := by have h := hk; unfold wrap64 at h; rw [IntKind.wrap_i64]; exact h
      refine wp_region_held_drew (S := fun V => Below W0.heap.size W0 V) (by kernel_rfl) (Below.refl _ _).drew (fun hHeld => ?_)
      refine wpAnyH_take (i := 0) (oi := { dst := some 10, op := Op.fieldAddr 88 (Operand.tmp 1) 3, type := 0, pos := "frame.go:108", after := #[], guard := none }) (v := .pointer (some ⟨w.heap.size, 3, none⟩)) rfl (by kernel_rfl) (by kernel_rfl) (by kernel_rfl) (fun _ _ _ h => h) (Or.inl ⟨by rfl, fun w' hw' => by (clear hw'; go_simp)⟩) hHeld ?_
      simp only [Act.put, List.setIfInBounds_toArray, List.set_cons_zero, List.set_cons_succ]
      refine wpAnyH_take (i := 1) (oi := { dst := some 11, op := Op.load 86 (Operand.tmp 10), type := 86, pos := "frame.go:108", after := #[{ on := 0, ground := Ground.data }], guard := none }) (v := .slice (some ⟨bk, ok, none⟩) 3 ck) rfl (by kernel_rfl) (by kernel_rfl) (by kernel_rfl) (fun _ _ _ h => h) (Or.inl ⟨by rfl, fun w' hw' => by (have q := (hw'.cell (p := ⟨w.heap.size, 3, none⟩) hz1).trans d3; clear hw'; go_simp)⟩) hHeld ?_
      simp only [Act.put, List.setIfInBounds_toArray, List.set_cons_zero, List.set_cons_succ]
      refine wpAnyH_take (i := 2) (oi := { dst := some 12, op := Op.indexAddr 86 (Operand.tmp 11) (Operand.const (Value.int IntKind.i64 0)), type := 0, pos := "frame.go:108", after := #[{ on := 1, ground := Ground.data }], guard := none }) (v := .pointer (some ⟨bk, ok, none⟩)) rfl (by kernel_rfl) (by kernel_rfl) (by kernel_rfl) (fun _ _ _ h => h) (Or.inl ⟨by rfl, fun w' hw' => by (clear hw'; go_simp)⟩) hHeld ?_
      simp only [Act.put, List.setIfInBounds_toArray, List.set_cons_zero, List.set_cons_succ]
      refine wpAnyH_take (i := 3) (oi := { dst := some 13, op := Op.fieldAddr 88 (Operand.tmp 12) 1, type := 0, pos := "frame.go:108", after := #[{ on := 2, ground := Ground.data }], guard := none }) (v := .pointer (some ⟨bk, ok + 1, none⟩)) rfl (by kernel_rfl) (by kernel_rfl) (by kernel_rfl) (fun _ _ _ h => h) (Or.inl ⟨by rfl, fun w' hw' => by (clear hw'; go_simp)⟩) hHeld ?_
      simp only [Act.put, List.setIfInBounds_toArray, List.set_cons_zero, List.set_cons_succ]
      refine wpAnyH_take (i := 4) (oi := { dst := some 14, op := Op.load 85 (Operand.tmp 13), type := 85, pos := "frame.go:108", after := #[{ on := 3, ground := Ground.data }], guard := none }) (v := .int .u64 num0) rfl (by kernel_rfl) (by kernel_rfl) (by kernel_rfl) (fun _ _ _ h => h) (Or.inl ⟨by rfl, fun w' hw' => by (have q := (hw'.cell (p := ⟨bk, ok + 1, none⟩) hz2).trans a1; clear hw'; go_simp)⟩) hHeld ?_
      simp only [Act.put, List.setIfInBounds_toArray, List.set_cons_zero, List.set_cons_succ]
      refine wpAnyH_take (i := 5) (oi := { dst := some 15, op := Op.convert 85 3 (Operand.tmp 14), type := 3, pos := "frame.go:108", after := #[{ on := 4, ground := Ground.data }], guard := none }) (v := .int .i64 k) rfl (by kernel_rfl) (by kernel_rfl) (by kernel_rfl) (fun _ _ _ h => h) (Or.inl ⟨by rfl, fun w' hw' => by (clear hw'; go_simp)⟩) hHeld ?_
      simp only [Act.put, List.setIfInBounds_toArray, List.set_cons_zero, List.set_cons_succ]
      refine wpAnyH_take (i := 6) (oi := { dst := some 16, op := Op.fieldAddr 88 (Operand.tmp 1) 3, type := 0, pos := "frame.go:108", after := #[], guard := none }) (v := .pointer (some ⟨w.heap.size, 3, none⟩)) rfl (by kernel_rfl) (by kernel_rfl) (by kernel_rfl) (fun _ _ _ h => h) (Or.inl ⟨by rfl, fun w' hw' => by (clear hw'; go_simp)⟩) hHeld ?_
      simp only [Act.put, List.setIfInBounds_toArray, List.set_cons_zero, List.set_cons_succ]
      refine wpAnyH_take (i := 7) (oi := { dst := some 17, op := Op.load 86 (Operand.tmp 16), type := 86, pos := "frame.go:108", after := #[{ on := 6, ground := Ground.data }], guard := none }) (v := .slice (some ⟨bk, ok, none⟩) 3 ck) rfl (by kernel_rfl) (by kernel_rfl) (by kernel_rfl) (fun _ _ _ h => h) (Or.inl ⟨by rfl, fun w' hw' => by (have q := (hw'.cell (p := ⟨w.heap.size, 3, none⟩) hz1).trans d3; clear hw'; go_simp)⟩) hHeld ?_
      simp only [Act.put, List.setIfInBounds_toArray, List.set_cons_zero, List.set_cons_succ]
      refine wpAnyH_take (i := 8) (oi := { dst := some 18, op := Op.indexAddr 86 (Operand.tmp 17) (Operand.const (Value.int IntKind.i64 2)), type := 0, pos := "frame.go:108", after := #[{ on := 7, ground := Ground.data }], guard := none }) (v := .pointer (some ⟨bk, ok + 8, none⟩)) rfl (by kernel_rfl) (by kernel_rfl) (by kernel_rfl) (fun _ _ _ h => h) (Or.inl ⟨by rfl, fun w' hw' => by (clear hw'; go_simp)⟩) hHeld ?_
      simp only [Act.put, List.setIfInBounds_toArray, List.set_cons_zero, List.set_cons_succ]
      refine wpAnyH_take (i := 9) (oi := { dst := some 19, op := Op.fieldAddr 88 (Operand.tmp 18) 2, type := 0, pos := "frame.go:108", after := #[{ on := 8, ground := Ground.data }], guard := none }) (v := .pointer (some ⟨bk, ok + 8 + 2, none⟩)) rfl (by kernel_rfl) (by kernel_rfl) (by kernel_rfl) (fun _ _ _ h => h) (Or.inl ⟨by rfl, fun w' hw' => by (clear hw'; go_simp)⟩) hHeld ?_
      simp only [Act.put, List.setIfInBounds_toArray, List.set_cons_zero, List.set_cons_succ]
      refine wpAnyH_take (i := 10) (oi := { dst := some 20, op := Op.load 24 (Operand.tmp 19), type := 24, pos := "frame.go:108", after := #[{ on := 9, ground := Ground.data }], guard := none }) (v := .slice ac cs.length cc) rfl (by kernel_rfl) (by kernel_rfl) (by kernel_rfl) (fun _ _ _ h => h) (Or.inl ⟨by rfl, fun w' hw' => by (have q := (hw'.cell (p := ⟨bk, ok + 8 + 2, none⟩) hz2).trans c2; clear hw'; go_simp)⟩) hHeld ?_
      simp only [Act.put, List.setIfInBounds_toArray, List.set_cons_zero, List.set_cons_succ]
      refine wpAnyH_take (i := 11) (oi := { dst := some 21, op := Op.build 35 #[(0, Operand.tmp 15), (2, Operand.tmp 20)], type := 35, pos := "frame.go:108", after := #[{ on := 5, ground := Ground.data }, { on := 10, ground := Ground.data }], guard := none }) (v := .agg C0.toArray) rfl (by kernel_rfl) (by kernel_rfl) (by kernel_rfl) (fun _ _ _ h => h) (yields_build2 (by rfl) _ _ _ _ _ rfl _ _ rfl rfl _ HBU.out) hHeld ?_
      simp only [Act.put, List.setIfInBounds_toArray, List.set_cons_zero, List.set_cons_succ]
      refine wpAnyH_ready (rs := [12]) (by kernel_rfl) (by simp) ?_
      refine AllReadyH.cons (o := { dst := some 4, op := Op.alloc 35, type := 0, pos := "frame.go:108", after := #[], guard := none }) rfl (fun K hK => ?_) AllReadyH.nil
      go_simp
      refine hK.out _ _ HS1.out (fun hh => ?_)
      clear hK K hHeld
      have hHeld := hh
      clear hh
      try simp only [Act.put, List.setIfInBounds_toArray, List.set_cons_zero, List.set_cons_succ]
      refine wpAnyH_ready (rs := [13]) (by kernel_rfl) (by simp) ?_
      refine AllReadyH.cons (o := { dst := none, op := Op.store 35 (Operand.tmp 4) (Operand.tmp 21), type := 0, pos := "frame.go:108", after := #[{ on := 12, ground := Ground.data }, { on := 11, ground := Ground.data }, { on := 0, ground := Ground.phase }, { on := 1, ground := Ground.phase }, { on := 2, ground := Ground.phase }, { on := 3, ground := Ground.phase }, { on := 4, ground := Ground.phase }, { on := 5, ground := Ground.phase }, { on := 6, ground := Ground.phase }, { on := 7, ground := Ground.phase }, { on := 8, ground := Ground.phase }, { on := 9, ground := Ground.phase }, { on := 10, ground := Ground.phase }, { on := 11, ground := Ground.phase }, { on := 12, ground := Ground.phase }], guard := none }) rfl (fun K hK => ?_) AllReadyH.nil
      rw [if_pos (by rfl)]
      refine wp_store_mid 35 _ _ (by rfl) W0.heap.size 0 C0.toArray (by rfl) (by rfl) HT0.out HI0.out H10.out ?_
      refine hK.out _ _ HS2.out (fun hh => ?_)
      clear hK K hHeld hh
      refine wpAnyH_done (by kernel_rfl) ?_ _
      go_wp2_with fail
      go_meet
      exact ⟨_, rfl, HALF.out⟩
    case rest =>
      obtain ⟨g, rfl, HALF⟩ := hcut
      obtain ⟨hb1, hg0, hg1, hr1, ht1⟩ := HALF.out
      have HB1 := hid hb1
      have HR1 := hid hr1
      have HT1 := hid ht1
      replace d0 := (hb1.cell (p := ⟨w.heap.size, 0, none⟩) hz1).trans d0
      replace d1 := (hb1.cell (p := ⟨w.heap.size, 1, none⟩) hz1).trans d1
      replace d2 := (hb1.cell (p := ⟨w.heap.size, 2, none⟩) hz1).trans d2
      replace d3 := (hb1.cell (p := ⟨w.heap.size, 3, none⟩) hz1).trans d3
      replace b2 := (hb1.cell (p := ⟨bk, ok + 4 + 2, none⟩) hz2).trans b2
      clear hb1 hr1 ht1 a1 c2 hz
      go_wp2_with fail
      go_cut [29] (fun _ wx => Hid (Half W0 wx k (pad32 bn) (.slice ac cs.length cc) g))
      case first =>
        clear d0 d1 d2
        cases abb with
        | none =>
          obtain ⟨rfl, rfl⟩ := HB4.out rfl
          have hcp : ∀ w, (Builtin.copy_ #[24, 24] 3 #[Value.slice (some ⟨g, 1, none⟩) 32 32, Value.slice none 0 0]).run Try.prog w = .ok (.int .i64 0) w := fun w => run_copy_none w _ _ _ 5 _ _ _ _ _ _ Try.underlying24 (by kernel_rfl) (by rfl)
          go_region
          all_goals (go_wp2_with fail; go_meet)
          all_goals exact HALF.out.drew
        | some ad =>
          obtain ⟨CS, hCS⟩ : ∃ CS, u8s (bn.take 32) = CS := ⟨_, rfl⟩
          have HCL : Hid (CS.length = Nat.min bn.length 32) := by rw [Hid, ← hCS, u8s_length, List.length_take, Nat.min_comm]
          have HCO : Hid (∀ v ∈ CS, v.oneCell' = true) := by rw [← hCS]; exact u8s_one _
          have HCT : Hid (World.there wc.drew g 1 CS.length) := by
            intro j hj
            have h1 := HCL.out
            have h2 : Nat.min bn.length 32 ≤ 32 := Nat.min_le_right _ _
            have h := HT1.out (1 + j) (by omega)
            rw [Nat.zero_add] at h
            simpa using h
          have HSR : Hid (∀ j v, CS[j]? = some v → wc.drew.cell? (ad.add j) = some v) := by
            intro j v hj
            have hb := HBB.out.agree (Agree.below (HBEL.out.mono hB)) (Nat.le_refl _) (Nat.le_refl _)
            have hb' := hb.agree (Agree.below (HB1.out.mono (Nat.le_trans hB HBEL.out.size))) (Nat.le_refl _) (Nat.le_refl _)
            refine Tlv.bytes_news (B := B) (w := wc) (w' := wc.drew) (bs := bn) (l := bn.length) (c := cbb) (hb'.agree (Agree.refl _ _ _) (Nat.zero_le _) (Nat.le_refl _)) (Below.refl _ _).drew j v ?_
            rw [← hCS, u8s, List.map_take] at hj
            have hlt : j < 32 := by
              have := (List.getElem?_eq_some_iff.1 hj).1
              simp at this
              omega
            rwa [List.getElem?_take_of_lt hlt] at hj
          have HNX : Hid (Half W0 (wc.drew.setCells g 1 CS) k (pad32 bn) (.slice ac cs.length cc) g) := by
            rw [← hCS]
            exact HALF.out.drew.named (by rw [hCS]; exact HCT.out)
          have HI5 : Hid ((Try.prog.info? 5).map (·.size) = some 1) := by rw [Hid]; kernel_rfl
          clear hCS
          go_region_law (refine step_copy _ (by rfl) (.tmp 23) (.tmp 28) 24 24 (by rfl) 5 Try.underlying24 HI5.out g 1 32 32 ad bn.length cbb (by rfl) (by rfl) CS HCL.out HSR.out HCT.out HCO.out ?_)
          all_goals (go_wp2_with fail; go_meet)
          all_goals exact HNX.out
      case rest =>
        obtain ⟨V2, rfl⟩ : ∃ V2, V2 = wc := ⟨_, rfl⟩
        obtain ⟨hb2, hg0', hg2, hr2, ht2⟩ := hcut.out
        clear hcut HALF HR1 HT1 HB1 b2 hg1 d3
        have HB2 := hid hb2
        have HBW : Hid (Below w.heap.size w V2) := HBEL.out.trans (hb2.mono HBEL.out.size)
        obtain ⟨d0, d1, d2, d3⟩ := HD.out
        have HD0 := hid ((hb2.cell (p := ⟨w.heap.size, 0, none⟩) hz1).trans d0)
        have HD1 := hid ((hb2.cell (p := ⟨w.heap.size, 1, none⟩) hz1).trans d1)
        have HD2 := hid ((hb2.cell (p := ⟨w.heap.size, 2, none⟩) hz1).trans d2)
        have HD3 := hid ((hb2.cell (p := ⟨w.heap.size, 3, none⟩) hz1).trans d3)
        have HTR2 := hid (there_below HTR.out hb2 hz0)
        have hzw : w.heap.size + 1 < V2.heap.size := by have := hb2.size; omega
        clear d0 d1 d2 d3 HD
        have hc0 := recA_0 k (pad32 bn) (.slice ac cs.length cc)
        have hc33 := recA_33 k (pad32 bn) (.slice ac cs.length cc) (pad32_length _)
        have HKL := hid (recA_length k (pad32 bn) (.slice ac cs.length cc) (pad32_length _))
        have HKO := hid (recA_one k (pad32 bn) ac cs.length cc)
        have HV := hid (value_any k (pad32 bn) cs (.slice ac cs.length cc))
        obtain ⟨C, hC⟩ : ∃ C, recA k (pad32 bn) (.slice ac cs.length cc) = C := ⟨_, rfl⟩
        rw [hC] at hc0 hc33 HKL HKO HV hr2
        have HC := hid hC
        have HR2 := hid hr2
        have HIC : Hid ((Try.prog.info? 35).map (·.size) = some C.length) := by rw [Hid, HKL.out]; exact Try.info35
        have hld : ∀ V, Below V2.heap.size V2 V → (Instr.loadAt 35 (.pointer (some ⟨g, 0, none⟩))).run Try.prog V = .ok (.agg C.toArray) V := fun V hV => run_loadAt_mid V g 0 35 C _ (rangeAt_below HR2.out hV hg2) Try.underlying35 rfl HIC.out
        have hl0 : ∀ V, Below V2.heap.size V2 V → V.cell? ⟨w.heap.size, 0, none⟩ = some (.int .i64 tag) := fun V hV => (hV.cell (p := ⟨w.heap.size, 0, none⟩) (by simp; omega)).trans HD0.out
        have hl1 : ∀ V, Below V2.heap.size V2 V → V.cell? ⟨w.heap.size, 1, none⟩ = some (.int .u64 num) := fun V hV => (hV.cell (p := ⟨w.heap.size, 1, none⟩) (by simp; omega)).trans HD1.out
        have hl2 : ∀ V, Below V2.heap.size V2 V → V.cell? ⟨w.heap.size, 2, none⟩ = some (.slice ab bs.length cb) := fun V hV => (hV.cell (p := ⟨w.heap.size, 2, none⟩) (by simp; omega)).trans HD2.out
        have hl3 : ∀ V, Below V2.heap.size V2 V → V.cell? ⟨w.heap.size, 3, none⟩ = some (.slice (some ⟨bk, ok, none⟩) 3 ck) := fun V hV => (hV.cell (p := ⟨w.heap.size, 3, none⟩) (by simp; omega)).trans HD3.out
        have HCB2 := hid (HCB.out.agree (Agree.below (HBW.out.mono hB)) (Nat.le_refl _) (Nat.le_refl _))
        have HTB : Hid (∀ x ∈ pad32 bn, 0 ≤ x ∧ x ≤ 255) := by
          rw [Hid]
          intro x hx
          obtain ⟨_, _, _, _, _, _, _, h6, _⟩ := HBB.out
          rcases List.mem_append.1 hx with hx | hx
          · exact h6 x (List.mem_of_mem_take hx)
          · rw [(List.mem_replicate.1 hx).2]; omega
        clear hC hr2 hb2
        obtain ⟨okb, hokb⟩ : ∃ okb, (rightB k cs.length && Tlv.sameT 9 t 2 (recT k (pad32 bn) cs)) = okb := ⟨_, rfl⟩
        have HOK := hid hokb
        clear hokb
        go_wp2_with fail
        go_cut [39] (fun c wx => c = .bool (!okb) ∧ Hid (Below V2.heap.size V2 wx))
        case first =>
          cases hrb : rightB k cs.length with
          | false =>
            have HRB := hid hrb
            have HOF : Hid (okb = false) := by rw [Hid, ← HOK.out, hrb]; rfl
            clear hrb
            refine wp_region_held_drew (S := fun V => Below V2.heap.size V2 V) (by kernel_rfl) (Below.refl _ _).drew (fun hHeld => ?_)
            refine wpAnyH_take (i := 0) (oi := { dst := some 30, op := Op.load 35 (Operand.tmp 4), type := 35, pos := "frame.go:110", after := #[], guard := none }) (v := .agg C.toArray) rfl (by kernel_rfl) (by kernel_rfl) (by kernel_rfl) (fun _ _ _ h => h) (yieldsIf_load_mid (by rfl) _ _ rfl g 0 rfl C _ (fun V hV => rangeAt_below HR2.out hV hg2) Try.underlying35 rfl HIC.out) hHeld ?_
            simp only [Act.put, List.setIfInBounds_toArray, List.set_cons_zero, List.set_cons_succ]
            refine wpAnyH_ready (rs := [1]) (by kernel_rfl) (by simp) ?_
            refine AllReadyH.cons (o := { dst := some 31, op := Op.call { callee := Callee.value (Operand.func 13), args := #[Operand.tmp 30], argTypes := #[35] }, type := 4, pos := "frame.go:110", after := #[{ on := 0, ground := Ground.data }], guard := none }) rfl (fun K hK => ?_) AllReadyH.nil
            go_simp
            refine (right13_any C k _ _ _ _ hc0 hc33).mono ?_
            rintro e w3 ⟨rfl, hb3⟩
            rw [HRB.out]
            have HK3 : Hid (Below V2.heap.size V2 w3) := (Below.refl _ _).drew.trans hb3
            clear hb3
            go_wp2_with fail
            refine hK.out _ _ (HK3.out) (fun hh => ?_)
            clear hK K hHeld
            have hHeld := hh
            clear hh
            try simp only [Act.put, List.setIfInBounds_toArray, List.set_cons_zero, List.set_cons_succ]
            refine wpAnyH_take (i := 2) (oi := { dst := some 32, op := Op.unOp UnOp.not 4 (Operand.tmp 31), type := 4, pos := "frame.go:110", after := #[{ on := 1, ground := Ground.data }], guard := none }) (v := .bool true) rfl (by kernel_rfl) (by kernel_rfl) (by kernel_rfl) (fun _ _ _ h => h) (Or.inl ⟨by rfl, fun w' hw' => by (clear hw'; go_simp)⟩) hHeld ?_
            simp only [Act.put, List.setIfInBounds_toArray, List.set_cons_zero, List.set_cons_succ]
            refine wpAnyH_take (i := 3) (oi := { dst := some 33, op := Op.move (Operand.tmp 32), type := 4, pos := "frame.go:110", after := #[{ on := 2, ground := Ground.data }, { on := 1, ground := Ground.chain }], guard := none }) (v := .bool true) rfl (by kernel_rfl) (by kernel_rfl) (by kernel_rfl) (fun _ _ _ h => h) (Or.inl ⟨by rfl, fun w' hw' => by (clear hw'; go_simp)⟩) hHeld ?_
            simp only [Act.put, List.setIfInBounds_toArray, List.set_cons_zero, List.set_cons_succ]
            refine wpAnyH_take (i := 4) (oi := { dst := some 34, op := Op.load 88 (Operand.tmp 1), type := 88, pos := "frame.go:110", after := #[{ on := 3, ground := Ground.guard }], guard := some (3, false) }) (v := undef) rfl (by kernel_rfl) (by kernel_rfl) (by kernel_rfl) (fun _ _ _ h => h) (Or.inr ⟨by rfl, rfl⟩) hHeld ?_
            simp only [Act.put, List.setIfInBounds_toArray, List.set_cons_zero, List.set_cons_succ]
            refine wpAnyH_take (i := 5) (oi := { dst := some 35, op := Op.load 35 (Operand.tmp 4), type := 35, pos := "frame.go:110", after := #[{ on := 3, ground := Ground.guard }], guard := some (3, false) }) (v := undef) rfl (by kernel_rfl) (by kernel_rfl) (by kernel_rfl) (fun _ _ _ h => h) (Or.inr ⟨by rfl, rfl⟩) hHeld ?_
            simp only [Act.put, List.setIfInBounds_toArray, List.set_cons_zero, List.set_cons_succ]
            refine wpAnyH_take (i := 6) (oi := { dst := some 36, op := Op.call { callee := Callee.value (Operand.func 28), args := #[Operand.tmp 35], argTypes := #[35] }, type := 88, pos := "frame.go:110", after := #[{ on := 5, ground := Ground.data }, { on := 3, ground := Ground.chain }, { on := 3, ground := Ground.guard }], guard := some (3, false) }) (v := undef) rfl (by kernel_rfl) (by kernel_rfl) (by kernel_rfl) (fun _ _ _ h => h) (Or.inr ⟨by rfl, rfl⟩) hHeld ?_
            simp only [Act.put, List.setIfInBounds_toArray, List.set_cons_zero, List.set_cons_succ]
            refine wpAnyH_take (i := 7) (oi := { dst := some 37, op := Op.call { callee := Callee.value (Operand.func 53), args := #[Operand.tmp 34, Operand.tmp 36], argTypes := #[88, 88] }, type := 4, pos := "frame.go:110", after := #[{ on := 4, ground := Ground.data }, { on := 6, ground := Ground.data }, { on := 6, ground := Ground.chain }, { on := 3, ground := Ground.guard }], guard := some (3, false) }) (v := undef) rfl (by kernel_rfl) (by kernel_rfl) (by kernel_rfl) (fun _ _ _ h => h) (Or.inr ⟨by rfl, rfl⟩) hHeld ?_
            simp only [Act.put, List.setIfInBounds_toArray, List.set_cons_zero, List.set_cons_succ]
            refine wpAnyH_take (i := 8) (oi := { dst := some 38, op := Op.unOp UnOp.not 4 (Operand.tmp 37), type := 4, pos := "frame.go:110", after := #[{ on := 7, ground := Ground.data }, { on := 3, ground := Ground.guard }], guard := some (3, false) }) (v := undef) rfl (by kernel_rfl) (by kernel_rfl) (by kernel_rfl) (fun _ _ _ h => h) (Or.inr ⟨by rfl, rfl⟩) hHeld ?_
            simp only [Act.put, List.setIfInBounds_toArray, List.set_cons_zero, List.set_cons_succ]
            refine wpAnyH_take (i := 9) (oi := { dst := some 39, op := Op.pick (Operand.tmp 33) (Operand.const (Value.bool true)) (Operand.tmp 38), type := 4, pos := "frame.go:110", after := #[{ on := 3, ground := Ground.data }, { on := 8, ground := Ground.data }], guard := none }) (v := .bool true) rfl (by kernel_rfl) (by kernel_rfl) (by kernel_rfl) (fun _ _ _ h => h) (Or.inl ⟨by rfl, fun w' hw' => by (clear hw'; go_simp)⟩) hHeld ?_
            simp only [Act.put, List.setIfInBounds_toArray, List.set_cons_zero, List.set_cons_succ]
            refine wpAnyH_done (by kernel_rfl) ?_ _
            go_wp2_with fail
            go_meet
            exact ⟨by rw [HOF.out]; rfl, HK3.out⟩
          | true =>
            have HRB := hid hrb
            have HOF : Hid (Tlv.sameT 9 t 2 (recT k (pad32 bn) cs) = okb) := by rw [Hid, ← HOK.out, hrb]; rfl
            have hkb : 1 ≤ k ∧ k ≤ 9 := by have h := hrb; simp [rightB] at h; omega
            clear hrb
            have HVV : Hid (∀ V, Below V2.heap.size V2 V → Calls Try.prog 28 #[.agg C.toArray] V fun e w' => ∃ a3 l3 p3 a4 l4 p4, e = .returned (.agg #[.int .i64 3, .int .u64 0, .slice a3 l3 p3, .slice a4 l4 p4]) ∧ Tlv.Rep 0 w'.heap.size w' 2 (recT k (pad32 bn) cs) (.slice a3 l3 p3) (.slice a4 l4 p4) ∧ Below V.heap.size V w') := by
              intro V hV
              have hcb := HCB2.out.agree (Agree.below (hV.mono (Nat.le_trans hB HBW.out.size))) (Nat.zero_le _) (Nat.le_trans hB (Nat.le_trans HBW.out.size hV.size))
              refine (HV.out V hkb.1 hkb.2 (pad32_length _) HTB.out hcb).mono ?_
              rintro e w4 ⟨sb, sk, rfl, hr4, hb4⟩
              obtain ⟨a3, l3, p3, a4, l4, p4, rfl, rfl⟩ := hr4.sl
              exact ⟨_, _, _, _, _, _, rfl, hr4.agree (Agree.refl _ _ _) (Nat.zero_le _) (Nat.le_refl _), hb4⟩
            have HSS : Hid (∀ V sb' sk', Below V2.heap.size V2 V → Tlv.Rep 0 V.heap.size V 2 (recT k (pad32 bn) cs) sb' sk' → Calls Try.prog 53 #[.agg #[.int .i64 tag, .int .u64 num, .slice ab bs.length cb, .slice (some ⟨bk, ok, none⟩) 3 ck], .agg #[.int .i64 3, .int .u64 0, sb', sk']] V fun e w' => e = .returned (.bool okb) ∧ Below V.heap.size V w') := by
              intro V sb' sk' hV hR
              have h1 := HREP3.out.agree (Agree.below (HBW.out.mono hB)) (Nat.zero_le _) hB
              have h2 := h1.agree (L' := 0) (B' := V.heap.size) (Agree.below (hV.mono HBW.out.size)) (Nat.zero_le _) (Nat.le_trans HBW.out.size hV.size)
              have h3 := Tlv.Same_any t (recT k (pad32 bn) cs) _ _ _ _ V h2 hR (by omega)
              obtain ⟨e0, e1, e2⟩ := HH.out
              rw [e0, e1, HOF.out] at h3
              exact h3
            refine wp_region_held_drew (S := fun V => Below V2.heap.size V2 V) (by kernel_rfl) (Below.refl _ _).drew (fun hHeld => ?_)
            refine wpAnyH_take (i := 0) (oi := { dst := some 30, op := Op.load 35 (Operand.tmp 4), type := 35, pos := "frame.go:110", after := #[], guard := none }) (v := .agg C.toArray) rfl (by kernel_rfl) (by kernel_rfl) (by kernel_rfl) (fun _ _ _ h => h) (yieldsIf_load_mid (by rfl) _ _ rfl g 0 rfl C _ (fun V hV => rangeAt_below HR2.out hV hg2) Try.underlying35 rfl HIC.out) hHeld ?_
            simp only [Act.put, List.setIfInBounds_toArray, List.set_cons_zero, List.set_cons_succ]
            refine wpAnyH_ready (rs := [1]) (by kernel_rfl) (by simp) ?_
            refine AllReadyH.cons (o := { dst := some 31, op := Op.call { callee := Callee.value (Operand.func 13), args := #[Operand.tmp 30], argTypes := #[35] }, type := 4, pos := "frame.go:110", after := #[{ on := 0, ground := Ground.data }], guard := none }) rfl (fun K hK => ?_) AllReadyH.nil
            go_simp
            refine (right13_any C k _ _ _ _ hc0 hc33).mono ?_
            rintro e w3 ⟨rfl, hb3⟩
            rw [HRB.out]
            have HK3 : Hid (Below V2.heap.size V2 w3) := (Below.refl _ _).drew.trans hb3
            clear hb3
            go_wp2_with fail
            refine hK.out _ _ (HK3.out) (fun hh => ?_)
            clear hK K hHeld
            have hHeld := hh
            clear hh
            try simp only [Act.put, List.setIfInBounds_toArray, List.set_cons_zero, List.set_cons_succ]
            refine wpAnyH_take (i := 2) (oi := { dst := some 32, op := Op.unOp UnOp.not 4 (Operand.tmp 31), type := 4, pos := "frame.go:110", after := #[{ on := 1, ground := Ground.data }], guard := none }) (v := .bool false) rfl (by kernel_rfl) (by kernel_rfl) (by kernel_rfl) (fun _ _ _ h => h) (Or.inl ⟨by rfl, fun w' hw' => by (clear hw'; go_simp)⟩) hHeld ?_
            simp only [Act.put, List.setIfInBounds_toArray, List.set_cons_zero, List.set_cons_succ]
            refine wpAnyH_take (i := 3) (oi := { dst := some 33, op := Op.move (Operand.tmp 32), type := 4, pos := "frame.go:110", after := #[{ on := 2, ground := Ground.data }, { on := 1, ground := Ground.chain }], guard := none }) (v := .bool false) rfl (by kernel_rfl) (by kernel_rfl) (by kernel_rfl) (fun _ _ _ h => h) (Or.inl ⟨by rfl, fun w' hw' => by (clear hw'; go_simp)⟩) hHeld ?_
            simp only [Act.put, List.setIfInBounds_toArray, List.set_cons_zero, List.set_cons_succ]
            refine wpAnyH_take (i := 4) (oi := { dst := some 34, op := Op.load 88 (Operand.tmp 1), type := 88, pos := "frame.go:110", after := #[{ on := 3, ground := Ground.guard }], guard := some (3, false) }) (v := .agg #[.int .i64 tag, .int .u64 num, .slice ab bs.length cb, .slice (some ⟨bk, ok, none⟩) 3 ck]) rfl (by kernel_rfl) (by kernel_rfl) (by kernel_rfl) (fun _ _ _ h => h) (Or.inl ⟨by rfl, fun w' hw' => by (have q0 := hl0 _ hw'; have q1 := hl1 _ hw'; have q2 := hl2 _ hw'; have q3 := hl3 _ hw'; clear hw'; go_simp)⟩) hHeld ?_
            simp only [Act.put, List.setIfInBounds_toArray, List.set_cons_zero, List.set_cons_succ]
            refine wpAnyH_take (i := 5) (oi := { dst := some 35, op := Op.load 35 (Operand.tmp 4), type := 35, pos := "frame.go:110", after := #[{ on := 3, ground := Ground.guard }], guard := some (3, false) }) (v := .agg C.toArray) rfl (by kernel_rfl) (by kernel_rfl) (by kernel_rfl) (fun _ _ _ h => h) (yieldsIf_load_mid (by rfl) _ _ rfl g 0 rfl C _ (fun V hV => rangeAt_below HR2.out hV hg2) Try.underlying35 rfl HIC.out) hHeld ?_
            simp only [Act.put, List.setIfInBounds_toArray, List.set_cons_zero, List.set_cons_succ]
            refine wpAnyH_ready (rs := [6]) (by kernel_rfl) (by simp) ?_
            refine AllReadyH.cons (o := { dst := some 36, op := Op.call { callee := Callee.value (Operand.func 28), args := #[Operand.tmp 35], argTypes := #[35] }, type := 88, pos := "frame.go:110", after := #[{ on := 5, ground := Ground.data }, { on := 3, ground := Ground.chain }, { on := 3, ground := Ground.guard }], guard := some (3, false) }) rfl (fun K hK => ?_) AllReadyH.nil
            go_simp
            refine (HVV.out w3 HK3.out).mono ?_
            rintro e w4 ⟨a3, l3, p3, a4, l4, p4, rfl, hr4, hb4⟩
            have HR4 := hid hr4
            have HK4 : Hid (Below V2.heap.size V2 w4) := HK3.out.trans (hb4.mono HK3.out.size)
            clear hr4 hb4
            go_wp2_with fail
            refine hK.out _ _ (HK4.out) (fun hh => ?_)
            clear hK K hHeld
            have hHeld := hh
            clear hh
            try simp only [Act.put, List.setIfInBounds_toArray, List.set_cons_zero, List.set_cons_succ]
            refine wpAnyH_ready (rs := [7]) (by kernel_rfl) (by simp) ?_
            refine AllReadyH.cons (o := { dst := some 37, op := Op.call { callee := Callee.value (Operand.func 53), args := #[Operand.tmp 34, Operand.tmp 36], argTypes := #[88, 88] }, type := 4, pos := "frame.go:110", after := #[{ on := 4, ground := Ground.data }, { on := 6, ground := Ground.data }, { on := 6, ground := Ground.chain }, { on := 3, ground := Ground.guard }], guard := some (3, false) }) rfl (fun K hK => ?_) AllReadyH.nil
            go_simp
            refine (HSS.out w4 _ _ HK4.out HR4.out).mono ?_
            rintro e w5 ⟨rfl, hb5⟩
            have HK5 : Hid (Below V2.heap.size V2 w5) := HK4.out.trans (hb5.mono HK4.out.size)
            clear hb5
            go_wp2_with fail
            refine hK.out _ _ (HK5.out) (fun hh => ?_)
            clear hK K hHeld
            have hHeld := hh
            clear hh
            try simp only [Act.put, List.setIfInBounds_toArray, List.set_cons_zero, List.set_cons_succ]
            refine wpAnyH_take (i := 8) (oi := { dst := some 38, op := Op.unOp UnOp.not 4 (Operand.tmp 37), type := 4, pos := "frame.go:110", after := #[{ on := 7, ground := Ground.data }, { on := 3, ground := Ground.guard }], guard := some (3, false) }) (v := .bool (!okb)) rfl (by kernel_rfl) (by kernel_rfl) (by kernel_rfl) (fun _ _ _ h => h) (Or.inl ⟨by rfl, fun w' hw' => by (clear hw'; go_simp)⟩) hHeld ?_
            simp only [Act.put, List.setIfInBounds_toArray, List.set_cons_zero, List.set_cons_succ]
            refine wpAnyH_take (i := 9) (oi := { dst := some 39, op := Op.pick (Operand.tmp 33) (Operand.const (Value.bool true)) (Operand.tmp 38), type := 4, pos := "frame.go:110", after := #[{ on := 3, ground := Ground.data }, { on := 8, ground := Ground.data }], guard := none }) (v := .bool (!okb)) rfl (by kernel_rfl) (by kernel_rfl) (by kernel_rfl) (fun _ _ _ h => h) (Or.inl ⟨by rfl, fun w' hw' => by (clear hw'; go_simp)⟩) hHeld ?_
            simp only [Act.put, List.setIfInBounds_toArray, List.set_cons_zero, List.set_cons_succ]
            refine wpAnyH_done (by kernel_rfl) ?_ _
            go_wp2_with fail
            go_meet
            exact ⟨rfl, HK5.out⟩
        case rest =>
          obtain ⟨rfl, HKX⟩ := hcut
          clear hld hl0 hl1 hl2 hl3 HD0 HD1 HD2 HD3 hc0 hc33
          have hzz : V2.heap.size ≤ wc.heap.size := HKX.out.size
          have HTW := hid (there_below HTR2.out HKX.out hzw)
          have HRW := hid (rangeAt_below HR2.out HKX.out hg2)
          have HBF : Hid (Below w.heap.size w wc) := HBW.out.trans (HKX.out.mono HBW.out.size)
          have hz := zero35
          rw [HZ.out] at hz
          cases okb with
          | false =>
            have HN : Hid (recOf t = none) := by
              rw [Hid, HEQ.out, if_neg]
              intro h
              have h1 := HOK.out
              rw [h.1, h.2] at h1
              cases h1
            have HZS : Hid (Z.toArray.size = 34) := by rw [← HZ.out]; rfl
            have HTZ : Hid (wc.there (w.heap.size + 1) 0 Z.toArray.size) := by rw [Hid, HZS.out]; exact HTW.out
            have HI2 : Hid ((Try.prog.info? 35).map (·.size) = some Z.toArray.size) := by rw [← HZ.out]; exact Try.info35
            have H1 : Hid (Z.toArray.all (·.oneCell') = true) := by rw [← HZ.out]; exact all_oneCell_toArray zRec_one
            go_wp2_with (refine wpList_store_mid (by rfl) 35 _ _ (by rfl) (w.heap.size + 1) 0 Z.toArray (by rfl) (by rfl) HTZ.out HI2.out H1.out ?_)
            have hr : World.rangeAt (wc.setCells (w.heap.size + 1) 0 Z) (w.heap.size + 1) 0 Z := World.rangeAt_setCells_same _ _ _ _ HTZ.out
            refine bodyPost_ret (v := .tuple #[.agg Z.toArray, .bool false]) ?_ rfl ⟨.inl ⟨HN.out, by rw [HZ.out]⟩, ?_⟩
            · exact results_cell_mid2 Try.results36 _ _ (w.heap.size + 1) 0 _ _ rfl hr Try.underlying35 rfl HI2.out
            · exact HBF.out.trans (setCells_below (by omega) _ _ _)
          | true =>
            have HN : Hid (recOf t = some (k, pad32 bn, cs)) := by
              rw [Hid, HEQ.out, if_pos]
              have h1 := HOK.out
              simpa using h1
            have HCS : Hid (C.toArray.size = 34) := HKL.out
            have HTZ : Hid (wc.there (w.heap.size + 1) 0 C.toArray.size) := by rw [Hid, HCS.out]; exact HTW.out
            have HI2 : Hid ((Try.prog.info? 35).map (·.size) = some C.toArray.size) := HIC.out
            have H1 : Hid (C.toArray.all (·.oneCell') = true) := all_oneCell_toArray HKO.out
            go_wp2_with (first
              | (refine wpList_load_mid (by rfl) 35 _ (by rfl) g 0 (by rfl) C _ HRW.out Try.underlying35 rfl HIC.out ?_)
              | (refine wpList_store_mid (by rfl) 35 _ _ (by rfl) (w.heap.size + 1) 0 C.toArray (by rfl) (by rfl) HTZ.out HI2.out H1.out ?_))
            have hr : World.rangeAt (wc.setCells (w.heap.size + 1) 0 C) (w.heap.size + 1) 0 C := World.rangeAt_setCells_same _ _ _ _ HTZ.out
            have hbf : Below w.heap.size w (wc.setCells (w.heap.size + 1) 0 C) := HBF.out.trans (setCells_below (by omega) _ _ _)
            refine bodyPost_ret (v := .tuple #[.agg C.toArray, .bool true]) ?_ rfl ⟨.inr ⟨k, pad32 bn, cs, ac, cc, HN.out, by rw [HC.out], ?_, pad32_length _, HTB.out⟩, ?_⟩
            · exact results_cell_mid2 Try.results36 _ _ (w.heap.size + 1) 0 _ _ rfl hr Try.underlying35 rfl HI2.out
            · exact HCB.out.agree (Agree.below (hbf.mono hB)) (Nat.le_refl _) (Nat.le_refl _)
            · exact hbf
end Go.Proofs.Ythbhdbjjobfchaa
