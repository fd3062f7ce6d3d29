/- Of the proof: the texts SgEntry, SgEntries, SgRWout, SgSet, one behind the other. -/
import Derived.Test.YtampnikdmgojjaaGreatB15
import Derived.Test.YtampnikdmgojjaaGreatB9
import Derived.Test.YtampnikdmgojjaaGreatB14
import Derived.Test.YtampnikdmgojjaaGreatB10
import Derived.BigQuiet
import Derived.Test.YtampnikdmgojjaaGreatB6
import Derived.Maps.OwnSet
section
/-
  entry of segment: what the fields of a value tell, whatever is in them.
-/
namespace Go.Proofs.YtampnikdmgojjaaGreat.Sg
open Go.RowKit
open Tlv (Tr Agree)
open Sim (hid Kp No)

theorem yields_one {P : Program} {ops : Array Oper} {S : World → Prop} {o : Oper} {a : Act} (hw : Region.wanted o (yielded ops a.tmps) = true) (t : TypeId) (i : Nat) (x : Operand) (ho : o.op = .build t #[(i, x)])
    (vx : Value) (hx : a.eval x = vx) (C : Array Value) (hb : P.built t [(i, vx)] = some C) : YieldsIf P ops S o (.agg C) a :=
  .inl ⟨hw, fun w _ => by
    have e : P.built t ((#[(i, x)] : Array (Nat × Operand)).map fun (i, x) => (i, a.eval x)).toList = some C := by
      rw [← hb]
      simp only [List.map_toArray, List.map_cons, List.map_nil, hx]
    unfold execOp
    simp only [ho, Sem.run_bind, run_build w t _ C e, Result.andThen_ok]
    rfl⟩
def z32 : List Int := List.replicate 32 0
theorem built48w (p q r : Int) : Tryz.prog.built 64 [(1, .agg #[.int .i64 p, .int .i64 q, .int .i64 r])] = some (entC (z32, p, q, r)).toArray := by kernel_rfl
theorem infE (x : Ent) (h : EOk x) : (Tryz.prog.info? 64).map (·.size) = some (entC x).length := by rw [entC_length h]; kernel_rfl
theorem z32_ok (p q r : Int) : EOk (z32, p, q, r) := ⟨by simp [z32], fun x hx => by have := (List.mem_replicate.1 hx).2; subst this; decide⟩
theorem pad_ok {bn : List Int} (h : ∀ x ∈ bn, 0 ≤ x ∧ x ≤ 255) (p q r : Int) : EOk (pad32 bn, p, q, r) := ⟨pad32_length _, fun x hx => by
  rcases List.mem_append.1 hx with hx | hx
  · exact h x (List.mem_of_mem_take hx)
  · have := (List.mem_replicate.1 hx).2; subst this; decide⟩

/-- What lies at g: an entry, of the call's own. -/
def HalfE (w W : World) (x : Ent) (g : Nat) : Prop := Below w.heap.size w W ∧ w.heap.size ≤ g ∧ g < W.heap.size ∧ W.rangeAt g 0 (entC x) ∧ W.there g 0 35
theorem HalfE.drew {w W : World} {x : Ent} {g : Nat} (h : HalfE w W x g) : HalfE w W.drew x g := by
  obtain ⟨h1, h2, h3, h4, h5⟩ := h
  exact ⟨h1.drew, h2, h3, by rwa [World.rangeAt_drew], by rwa [World.there_drew]⟩
theorem b8_append (a b : List Int) : b8 (a ++ b) = b8 a ++ b8 b := by simp [b8]
theorem HalfE.named {w W : World} {p q r : Int} {bn : List Int} {g : Nat} (h : HalfE w W (z32, p, q, r) g) (ht : W.there g 0 (b8 (bn.take 32)).length) : HalfE w (W.setCells g 0 (b8 (bn.take 32))) (pad32 bn, p, q, r) g := by
  obtain ⟨h1, h2, h3, h4, h5⟩ := h
  refine ⟨h1.trans (setCells_below h2 _ _ _), h2, by rw [setCells_size]; exact h3, fun j u hj => ?_, World.there_setCells h5 _ _ _⟩
  have hl : (b8 (bn.take 32)).length = (bn.take 32).length := b8_length _
  have hl2 : (bn.take 32).length ≤ 32 := by rw [List.length_take]; omega
  have e1 : entC (pad32 bn, p, q, r) = b8 (bn.take 32) ++ (b8 (List.replicate (32 - bn.length) 0) ++ [.int .i64 p, .int .i64 q, .int .i64 r]) := by
    show b8 (bn.take 32 ++ List.replicate (32 - bn.length) 0) ++ _ = _
    rw [b8_append, List.append_assoc]
  rw [Nat.zero_add]
  by_cases hj1 : j < (bn.take 32).length
  · have hi : j < (b8 (bn.take 32)).length := by omega
    have := World.cell?_setCells_in g (b8 (bn.take 32)) 0 W (fun i hi => (ht i hi).1) j hi
    rw [Nat.zero_add] at this
    rw [this, ← hj, e1, List.getElem?_append_left hi]
    exact (List.getElem?_eq_getElem hi).symm
  · rw [World.cell?_setCells_out g _ 0 W ⟨g, j, none⟩ (fun _ _ => .inr (by show 0 + _ ≤ j; omega))]
    have h6 := h4 j u (by
      rw [← hj, e1]
      have e2 : entC (z32, p, q, r) = b8 (List.replicate (bn.take 32).length 0) ++ (b8 (List.replicate (32 - bn.length) 0) ++ [.int .i64 p, .int .i64 q, .int .i64 r]) := by
        rw [← List.append_assoc, ← b8_append, List.replicate_append_replicate, show (bn.take 32).length + (32 - bn.length) = 32 by rw [List.length_take]; omega]
        rfl
      rw [e2]
      exact app_right (by rw [b8_length, b8_length]; simp) (by rw [b8_length, List.length_replicate]; omega))
    rw [Nat.zero_add] at h6
    exact h6

set_option maxHeartbeats 4000000 in
set_option maxRecDepth 100000 in
theorem entry_any (ka kb kc ke : Tr 7) (v : Value) (L B : Nat) (w : World) (h : Tlv.KSl L B w (Tlv.Rep L B w 7) v [ka, kb, kc, ke]) (hB : B ≤ w.heap.size) :
    Calls Tryz.prog 61 #[v] w fun e w' => e = .returned (.agg (entC (pad32 ka.hd.2.2, wrap64 kb.hd.2.1, wrap64 kc.hd.2.1, wrap64 ke.hd.2.1)).toArray) ∧ EOk (pad32 ka.hd.2.2, wrap64 kb.hd.2.1, wrap64 kc.hd.2.1, wrap64 ke.hd.2.1) ∧ Below w.heap.size w w' := by
  obtain ⟨ak, ck, rfl, hk2, hk3, _, hkl, hk7⟩ := h
  obtain ⟨bk, ok, rfl, hbL, hbB, hcell⟩ := hk7 (by simp)
  obtain ⟨sa, ska, a0, a1, a2, a3, ra⟩ := hcell 0 ka rfl
  obtain ⟨sb, skb, b0, b1, b2, b3, rb⟩ := hcell 1 kb rfl
  obtain ⟨sc, skc, c0, c1, c2, c3, rc⟩ := hcell 2 kc rfl
  obtain ⟨se, ske, e0, e1, e2, e3, re⟩ := hcell 3 ke rfl
  simp only [Nat.zero_mul, Nat.reduceMul, Nat.add_zero] at a2 b1 c1 e1
  obtain ⟨_, _, aby, _⟩ := ra
  obtain ⟨p, hp⟩ : ∃ p, wrap64 kb.hd.2.1 = p := ⟨_, rfl⟩
  obtain ⟨q, hq⟩ : ∃ q, wrap64 kc.hd.2.1 = q := ⟨_, rfl⟩
  obtain ⟨r, hr⟩ : ∃ r, wrap64 ke.hd.2.1 = r := ⟨_, rfl⟩
  rw [hp, hq, hr]
  generalize hbn : ka.hd.2.2 = bn at *
  generalize hn1 : kb.hd.2.1 = n1 at *
  generalize hn2 : kc.hd.2.1 = n2 at *
  generalize hn3 : ke.hd.2.1 = n3 at *
  have hbn6 : ∀ x ∈ bn, 0 ≤ x ∧ x ≤ 255 := by
    obtain ⟨_, _, _, _, _, _, _, h6, _⟩ := aby
    exact h6
  have HOKX := hid (pad_ok hbn6 p q r)
  have HBB := hid aby
  obtain ⟨aa, ca, rfl, haa2, haa3, haa4, haa5, haa6, haa7⟩ := id aby
  have HB4 := hid haa4
  have hpw : IntKind.i64.wrap n1 = p := by have h := hp; unfold wrap64 at h; rw [IntKind.wrap_i64]; exact h
  have hqw : IntKind.i64.wrap n2 = q := by have h := hq; unfold wrap64 at h; rw [IntKind.wrap_i64]; exact h
  have hrw : IntKind.i64.wrap n3 = r := by have h := hr; unfold wrap64 at h; rw [IntKind.wrap_i64]; exact h
  clear hcell a0 a1 a3 b0 b2 b3 c0 c2 c3 e0 e2 e3 rb rc re haa7 haa4 haa6 haa5 hk7 aby hbn hn1 hn2 hn3 hp hq hr hkl hbn6 hbL
  simp only [List.length_cons, List.length_nil, Nat.zero_add, Nat.reduceAdd] at hk2 ⊢
  have hK : bk < w.heap.size := by omega
  have hz := zero48
  have HZL : Hid (zE.length = 35) := by rw [Hid]; exact entC_length (z32_ok 0 0 0)
  obtain ⟨Z, hZ⟩ : ∃ Z, zE = Z := ⟨_, rfl⟩
  rw [hZ] at hz HZL
  have HZ := hid hZ
  clear hZ
  obtain ⟨C, hC⟩ : ∃ C, entC (pad32 bn, p, q, r) = C := ⟨_, rfl⟩
  have HCE := hid hC
  rw [hC]
  clear hC
  go_enter Tryz.func61, Tryz.ntmps61
  go_wp2_with fail
  obtain ⟨W0, hW0⟩ : ∃ W0, w.alloc (.cells Z.toArray 64) = W0 := ⟨_, rfl⟩
  have hbel : Below w.heap.size w W0 := by rw [← hW0]; exact (Below.refl _ _).alloc (Nat.le_refl _) _
  have HBEL := hid hbel
  have HTR : Hid (W0.there w.heap.size 0 35) := by
    have h := there_new w Z 64
    rw [hW0, HZL.out] at h
    exact h
  have hz0 : w.heap.size < W0.heap.size := by rw [← hW0]; simp
  have hz2 : bk < W0.heap.size := by omega
  replace a2 := (hbel.cell (p := ⟨bk, ok + 2, none⟩) hK).trans a2
  replace b1 := (hbel.cell (p := ⟨bk, ok + 4 + 1, none⟩) hK).trans b1
  replace c1 := (hbel.cell (p := ⟨bk, ok + 8 + 1, none⟩) hK).trans c1
  replace e1 := (hbel.cell (p := ⟨bk, ok + 12 + 1, none⟩) hK).trans e1
  rw [hW0]
  clear hW0 hbel
  go_cut [3] (fun v wx => ∃ g, v = .pointer (some ⟨g, 0, none⟩) ∧ Hid (HalfE W0 wx (z32, p, q, r) g))
  case first =>
    have hzok := z32_ok p q r
    have HBU := hid (built48w p q r)
    obtain ⟨C0, hC0⟩ : ∃ C0, entC (z32, p, q, r) = C0 := ⟨_, rfl⟩
    rw [hC0] at HBU
    have HC0L : Hid (C0.toArray.size = 35) := by rw [← hC0]; exact entC_length hzok
    have HI0 : Hid ((Tryz.prog.info? 64).map (·.size) = some C0.toArray.size) := by rw [← hC0]; exact infE _ hzok
    have H10 : Hid (C0.toArray.all (·.oneCell') = true) := by rw [← hC0]; exact all_oneCell_toArray (entC_one _)
    have HT0 : Hid (World.there (W0.drew.alloc (.cells Z.toArray 64)) W0.heap.size 0 C0.toArray.size) := by
      have h := there_new W0.drew Z 64
      rw [HZL.out] at h
      rw [Hid, HC0L.out]
      exact h
    have HS1 : Hid (Below W0.heap.size W0 (W0.drew.alloc (.cells Z.toArray 64))) := (Below.refl _ _).drew.alloc (Nat.le_refl _) _
    have HS2 : Hid (Below W0.heap.size W0 ((W0.drew.alloc (.cells Z.toArray 64)).setCells W0.heap.size 0 C0)) := HS1.out.trans (setCells_below (Nat.le_refl _) _ _ _)
    have HALF : Hid (HalfE W0 ((W0.drew.alloc (.cells Z.toArray 64)).setCells W0.heap.size 0 C0) (z32, p, q, r) W0.heap.size) := by
      refine ⟨HS2.out, Nat.le_refl _, by rw [setCells_size]; simp, ?_, ?_⟩
      · rw [hC0]
        exact World.rangeAt_setCells_same _ _ _ _ HT0.out
      · have h := World.there_setCells HT0.out W0.heap.size 0 C0
        rwa [HC0L.out] at h
    clear hC0 hzok
    refine wp_region_held_drew (S := fun V => Below W0.heap.size W0 V) (by kernel_rfl) ((Below.refl _ _).drew) (fun hHeld => ?_)
    refine wpAnyH_take (i := 0) (oi := { dst := some 4, op := Op.move (Operand.tmp 0), type := 85, pos := "sealed.go:84", after := #[], guard := none }) (v := .slice (some ⟨bk, ok, none⟩) 4 ck) rfl (by kernel_rfl) (by kernel_rfl) (by kernel_rfl) (fun _ _ _ h => h) (Or.inl ⟨by rfl, fun w' hw' => by (clear hw'; go_simp)⟩) hHeld ?_
    simp only [Act.put, List.setIfInBounds_toArray, List.set_cons_zero, List.set_cons_succ]
    refine wpAnyH_take (i := 1) (oi := { dst := some 5, op := Op.indexAddr 85 (Operand.tmp 4) (Operand.const (Value.int IntKind.i64 1)), type := 0, pos := "sealed.go:84", after := #[{ on := 0, ground := Ground.data }], guard := none }) (v := .pointer (some ⟨bk, ok + 4, none⟩)) rfl (by kernel_rfl) (by kernel_rfl) (by kernel_rfl) (fun _ _ _ h => h) (Or.inl ⟨by rfl, fun w' hw' => by (clear hw'; go_simp)⟩) hHeld ?_
    simp only [Act.put, List.setIfInBounds_toArray, List.set_cons_zero, List.set_cons_succ]
    refine wpAnyH_take (i := 2) (oi := { dst := some 6, op := Op.fieldAddr 87 (Operand.tmp 5) 1, type := 0, pos := "sealed.go:84", after := #[{ on := 1, ground := Ground.data }], guard := none }) (v := .pointer (some ⟨bk, ok + 4 + 1, none⟩)) rfl (by kernel_rfl) (by kernel_rfl) (by kernel_rfl) (fun _ _ _ h => h) (Or.inl ⟨by rfl, fun w' hw' => by (clear hw'; go_simp)⟩) hHeld ?_
    simp only [Act.put, List.setIfInBounds_toArray, List.set_cons_zero, List.set_cons_succ]
    refine wpAnyH_take (i := 3) (oi := { dst := some 7, op := Op.load 84 (Operand.tmp 6), type := 84, pos := "sealed.go:84", after := #[{ on := 2, ground := Ground.data }], guard := none }) (v := .int .u64 n1) rfl (by kernel_rfl) (by kernel_rfl) (by kernel_rfl) (fun _ _ _ h => h) (Or.inl ⟨by rfl, fun w' hw' => by (have q := (hw'.cell (p := ⟨bk, ok + 4 + 1, none⟩) hz2).trans b1; clear hw'; go_simp)⟩) hHeld ?_
    simp only [Act.put, List.setIfInBounds_toArray, List.set_cons_zero, List.set_cons_succ]
    refine wpAnyH_take (i := 4) (oi := { dst := some 8, op := Op.convert 84 3 (Operand.tmp 7), type := 3, pos := "sealed.go:84", after := #[{ on := 3, ground := Ground.data }], guard := none }) (v := .int .i64 p) rfl (by kernel_rfl) (by kernel_rfl) (by kernel_rfl) (fun _ _ _ h => h) (Or.inl ⟨by rfl, fun w' hw' => by (clear hw'; go_simp)⟩) hHeld ?_
    simp only [Act.put, List.setIfInBounds_toArray, List.set_cons_zero, List.set_cons_succ]
    refine wpAnyH_take (i := 5) (oi := { dst := some 9, op := Op.move (Operand.tmp 0), type := 85, pos := "sealed.go:84", after := #[], guard := none }) (v := .slice (some ⟨bk, ok, none⟩) 4 ck) rfl (by kernel_rfl) (by kernel_rfl) (by kernel_rfl) (fun _ _ _ h => h) (Or.inl ⟨by rfl, fun w' hw' => by (clear hw'; go_simp)⟩) hHeld ?_
    simp only [Act.put, List.setIfInBounds_toArray, List.set_cons_zero, List.set_cons_succ]
    refine wpAnyH_take (i := 6) (oi := { dst := some 10, op := Op.indexAddr 85 (Operand.tmp 9) (Operand.const (Value.int IntKind.i64 2)), type := 0, pos := "sealed.go:84", after := #[{ on := 5, ground := Ground.data }], guard := none }) (v := .pointer (some ⟨bk, ok + 8, none⟩)) rfl (by kernel_rfl) (by kernel_rfl) (by kernel_rfl) (fun _ _ _ h => h) (Or.inl ⟨by rfl, fun w' hw' => by (clear hw'; go_simp)⟩) hHeld ?_
    simp only [Act.put, List.setIfInBounds_toArray, List.set_cons_zero, List.set_cons_succ]
    refine wpAnyH_take (i := 7) (oi := { dst := some 11, op := Op.fieldAddr 87 (Operand.tmp 10) 1, type := 0, pos := "sealed.go:84", after := #[{ on := 6, ground := Ground.data }], guard := none }) (v := .pointer (some ⟨bk, ok + 8 + 1, none⟩)) rfl (by kernel_rfl) (by kernel_rfl) (by kernel_rfl) (fun _ _ _ h => h) (Or.inl ⟨by rfl, fun w' hw' => by (clear hw'; go_simp)⟩) hHeld ?_
    simp only [Act.put, List.setIfInBounds_toArray, List.set_cons_zero, List.set_cons_succ]
    refine wpAnyH_take (i := 8) (oi := { dst := some 12, op := Op.load 84 (Operand.tmp 11), type := 84, pos := "sealed.go:84", after := #[{ on := 7, ground := Ground.data }], guard := none }) (v := .int .u64 n2) rfl (by kernel_rfl) (by kernel_rfl) (by kernel_rfl) (fun _ _ _ h => h) (Or.inl ⟨by rfl, fun w' hw' => by (have q := (hw'.cell (p := ⟨bk, ok + 8 + 1, none⟩) hz2).trans c1; clear hw'; go_simp)⟩) hHeld ?_
    simp only [Act.put, List.setIfInBounds_toArray, List.set_cons_zero, List.set_cons_succ]
    refine wpAnyH_take (i := 9) (oi := { dst := some 13, op := Op.convert 84 3 (Operand.tmp 12), type := 3, pos := "sealed.go:84", after := #[{ on := 8, ground := Ground.data }], guard := none }) (v := .int .i64 q) rfl (by kernel_rfl) (by kernel_rfl) (by kernel_rfl) (fun _ _ _ h => h) (Or.inl ⟨by rfl, fun w' hw' => by (clear hw'; go_simp)⟩) hHeld ?_
    simp only [Act.put, List.setIfInBounds_toArray, List.set_cons_zero, List.set_cons_succ]
    refine wpAnyH_take (i := 10) (oi := { dst := some 14, op := Op.move (Operand.tmp 0), type := 85, pos := "sealed.go:84", after := #[], guard := none }) (v := .slice (some ⟨bk, ok, none⟩) 4 ck) rfl (by kernel_rfl) (by kernel_rfl) (by kernel_rfl) (fun _ _ _ h => h) (Or.inl ⟨by rfl, fun w' hw' => by (clear hw'; go_simp)⟩) hHeld ?_
    simp only [Act.put, List.setIfInBounds_toArray, List.set_cons_zero, List.set_cons_succ]
    refine wpAnyH_take (i := 11) (oi := { dst := some 15, op := Op.indexAddr 85 (Operand.tmp 14) (Operand.const (Value.int IntKind.i64 3)), type := 0, pos := "sealed.go:84", after := #[{ on := 10, ground := Ground.data }], guard := none }) (v := .pointer (some ⟨bk, ok + 12, none⟩)) rfl (by kernel_rfl) (by kernel_rfl) (by kernel_rfl) (fun _ _ _ h => h) (Or.inl ⟨by rfl, fun w' hw' => by (clear hw'; go_simp)⟩) hHeld ?_
    simp only [Act.put, List.setIfInBounds_toArray, List.set_cons_zero, List.set_cons_succ]
    refine wpAnyH_take (i := 12) (oi := { dst := some 16, op := Op.fieldAddr 87 (Operand.tmp 15) 1, type := 0, pos := "sealed.go:84", after := #[{ on := 11, ground := Ground.data }], guard := none }) (v := .pointer (some ⟨bk, ok + 12 + 1, none⟩)) rfl (by kernel_rfl) (by kernel_rfl) (by kernel_rfl) (fun _ _ _ h => h) (Or.inl ⟨by rfl, fun w' hw' => by (clear hw'; go_simp)⟩) hHeld ?_
    simp only [Act.put, List.setIfInBounds_toArray, List.set_cons_zero, List.set_cons_succ]
    refine wpAnyH_take (i := 13) (oi := { dst := some 17, op := Op.load 84 (Operand.tmp 16), type := 84, pos := "sealed.go:84", after := #[{ on := 12, ground := Ground.data }], guard := none }) (v := .int .u64 n3) rfl (by kernel_rfl) (by kernel_rfl) (by kernel_rfl) (fun _ _ _ h => h) (Or.inl ⟨by rfl, fun w' hw' => by (have q := (hw'.cell (p := ⟨bk, ok + 12 + 1, none⟩) hz2).trans e1; clear hw'; go_simp)⟩) hHeld ?_
    simp only [Act.put, List.setIfInBounds_toArray, List.set_cons_zero, List.set_cons_succ]
    refine wpAnyH_take (i := 14) (oi := { dst := some 18, op := Op.convert 84 3 (Operand.tmp 17), type := 3, pos := "sealed.go:84", after := #[{ on := 13, ground := Ground.data }], guard := none }) (v := .int .i64 r) rfl (by kernel_rfl) (by kernel_rfl) (by kernel_rfl) (fun _ _ _ h => h) (Or.inl ⟨by rfl, fun w' hw' => by (clear hw'; go_simp)⟩) hHeld ?_
    simp only [Act.put, List.setIfInBounds_toArray, List.set_cons_zero, List.set_cons_succ]
    refine wpAnyH_take (i := 15) (oi := { dst := some 19, op := Op.build 49 #[(0, Operand.tmp 8), (1, Operand.tmp 13), (2, Operand.tmp 18)], type := 49, pos := "sealed.go:84", after := #[{ on := 4, ground := Ground.data }, { on := 9, ground := Ground.data }, { on := 14, ground := Ground.data }], guard := none }) (v := .agg #[.int .i64 p, .int .i64 q, .int .i64 r]) rfl (by kernel_rfl) (by kernel_rfl) (by kernel_rfl) (fun _ _ _ h => h) (Or.inl ⟨by rfl, fun w' hw' => by (clear hw'; go_simp)⟩) hHeld ?_
    simp only [Act.put, List.setIfInBounds_toArray, List.set_cons_zero, List.set_cons_succ]
    refine wpAnyH_take (i := 16) (oi := { dst := some 20, op := Op.build 64 #[(1, Operand.tmp 19)], type := 64, pos := "sealed.go:84", after := #[{ on := 15, ground := Ground.data }], guard := none }) (v := .agg C0.toArray) rfl (by kernel_rfl) (by kernel_rfl) (by kernel_rfl) (fun _ _ _ h => h) (yields_one (by rfl) 64 1 (.tmp 19) rfl (.agg #[.int .i64 p, .int .i64 q, .int .i64 r]) rfl _ HBU.out) hHeld ?_
    simp only [Act.put, List.setIfInBounds_toArray, List.set_cons_zero, List.set_cons_succ]
    refine wpAnyH_ready (rs := [17]) (by kernel_rfl) (by simp) ?_
    refine AllReadyH.cons (o := { dst := some 3, op := Op.alloc 64, type := 0, pos := "sealed.go:84", after := #[], guard := none }) rfl (fun K hK => ?_) AllReadyH.nil
    go_simp
    refine hK.out _ _ HS1.out (fun hh => ?_)
    clear hK K hHeld
    have hHeld := hh
    clear hh
    try simp only [Act.put, List.setIfInBounds_toArray, List.set_cons_zero, List.set_cons_succ]
    refine wpAnyH_ready (rs := [18]) (by kernel_rfl) (by simp) ?_
    refine AllReadyH.cons (o := { dst := none, op := Op.store 64 (Operand.tmp 3) (Operand.tmp 20), type := 0, pos := "sealed.go:84", after := #[{ on := 17, ground := Ground.data }, { on := 16, ground := Ground.data }, { on := 0, ground := Ground.phase }, { on := 1, ground := Ground.phase }, { on := 2, ground := Ground.phase }, { on := 3, ground := Ground.phase }, { on := 4, ground := Ground.phase }, { on := 5, ground := Ground.phase }, { on := 6, ground := Ground.phase }, { on := 7, ground := Ground.phase }, { on := 8, ground := Ground.phase }, { on := 9, ground := Ground.phase }, { on := 10, ground := Ground.phase }, { on := 11, ground := Ground.phase }, { on := 12, ground := Ground.phase }, { on := 13, ground := Ground.phase }, { on := 14, ground := Ground.phase }, { on := 15, ground := Ground.phase }, { on := 16, ground := Ground.phase }, { on := 17, ground := Ground.phase }], guard := none }) rfl (fun K hK => ?_) AllReadyH.nil
    rw [if_pos (by rfl)]
    refine wp_store_mid 64 _ _ (by rfl) W0.heap.size 0 C0.toArray (by rfl) (by rfl) HT0.out HI0.out H10.out ?_
    refine hK.out _ _ HS2.out (fun hh => ?_)
    clear hK K hHeld hh
    refine wpAnyH_done (by kernel_rfl) ?_ _
    go_wp2_with fail
    go_meet
    exact ⟨_, rfl, HALF.out⟩
  case rest =>
    obtain ⟨g, rfl, HALF⟩ := hcut
    obtain ⟨hb1, hg0, hg1, hr1, ht1⟩ := HALF.out
    have HB1 := hid hb1
    have HT1 := hid ht1
    replace a2 := (hb1.cell (p := ⟨bk, ok + 2, none⟩) hz2).trans a2
    clear hb1 hr1 ht1 b1 c1 e1 hz hpw hqw hrw
    go_wp2_with fail
    go_cut [27] (fun _ wx => Hid (HalfE W0 wx (pad32 bn, p, q, r) g))
    case first =>
      cases aa with
      | none =>
        obtain ⟨rfl, rfl⟩ := HB4.out rfl
        have hcp : ∀ w, (Builtin.copy_ #[23, 23] 3 #[Value.slice (some ⟨g, 0, none⟩) 32 32, Value.slice none 0 0]).run Tryz.prog w = .ok (.int .i64 0) w := fun w => run_copy_none w _ _ _ 5 _ _ _ _ _ _ Tryz.underlying23 (by kernel_rfl) (by rfl)
        go_region
        all_goals (go_wp2_with fail; go_meet)
        all_goals exact HALF.out.drew
      | some ad =>
        obtain ⟨CS, hCS⟩ : ∃ CS, b8 (bn.take 32) = CS := ⟨_, rfl⟩
        have HCL : Hid (CS.length = Nat.min bn.length 32) := by rw [Hid, ← hCS, b8_length, List.length_take, Nat.min_comm]
        have HCO : Hid (∀ v ∈ CS, v.oneCell' = true) := by rw [← hCS]; intro v hv; obtain ⟨x, _, rfl⟩ := List.mem_map.1 hv; rfl
        have HCT : Hid (World.there wc.drew g 0 CS.length) := by
          intro j hj
          have h1 := HCL.out
          have h2 : Nat.min bn.length 32 ≤ 32 := Nat.min_le_right _ _
          have h := HT1.out j (by omega)
          simpa using h
        have HSR : Hid (∀ j v, CS[j]? = some v → wc.drew.cell? (ad.add j) = some v) := by
          intro j v hj
          have hb := HBB.out.agree (Agree.below (HBEL.out.mono hB)) (Nat.le_refl _) (Nat.le_refl _)
          have hb' := hb.agree (Agree.below (HB1.out.mono (Nat.le_trans hB HBEL.out.size))) (Nat.le_refl _) (Nat.le_refl _)
          refine Tlv.bytes_news (B := B) (w := wc) (w' := wc.drew) (bs := bn) (l := bn.length) (c := ca) (hb'.agree (Agree.refl _ _ _) (Nat.zero_le _) (Nat.le_refl _)) (Below.refl _ _).drew j v ?_
          rw [← hCS, b8, List.map_take] at hj
          have hlt : j < 32 := by
            have := (List.getElem?_eq_some_iff.1 hj).1
            simp at this
            omega
          rwa [List.getElem?_take_of_lt hlt] at hj
        have HNX : Hid (HalfE W0 (wc.drew.setCells g 0 CS) (pad32 bn, p, q, r) g) := by
          rw [← hCS]
          exact HALF.out.drew.named (by rw [hCS]; exact HCT.out)
        have HI5 : Hid ((Tryz.prog.info? 5).map (·.size) = some 1) := by rw [Hid]; kernel_rfl
        clear hCS
        go_region_law (refine step_copy _ (by rfl) (.tmp 22) (.tmp 26) 23 23 (by rfl) 5 Tryz.underlying23 HI5.out g 0 32 32 ad bn.length ca (by rfl) (by rfl) CS HCL.out HSR.out HCT.out HCO.out ?_)
        all_goals (go_wp2_with fail; go_meet)
        all_goals exact HNX.out
    case rest =>
      obtain ⟨hb2, hg0', hg2, hr2, ht2⟩ := hcut.out
      have HB2 := hid hb2
      have HC := hid (entC_length HOKX.out)
      have HIC := hid (infE _ HOKX.out)
      have H1 : Hid (C.toArray.all (·.oneCell') = true) := by rw [← HCE.out]; exact all_oneCell_toArray (entC_one _)
      rw [HCE.out] at hr2 HC HIC
      have HR2 := hid hr2
      have HTZ : Hid (wc.there w.heap.size 0 C.toArray.size) := by
        rw [Hid, show C.toArray.size = 35 from HC.out]
        exact there_below HTR.out hb2 hz0
      have HBF : Hid (Below w.heap.size w wc) := HBEL.out.trans (hb2.mono HBEL.out.size)
      clear hcut HALF HT1 HB1 a2 hb2 hr2 ht2
      go_wp2_with (first
        | (refine wpList_load_mid (by rfl) 64 _ (by rfl) g 0 (by rfl) C _ HR2.out Tryz.underlying64 rfl HIC.out ?_)
        | (refine wpList_store_mid (by rfl) 64 _ _ (by rfl) w.heap.size 0 C.toArray (by rfl) (by rfl) HTZ.out HIC.out H1.out ?_))
      have hr : World.rangeAt (wc.setCells w.heap.size 0 C) w.heap.size 0 C := World.rangeAt_setCells_same _ _ _ _ HTZ.out
      refine bodyPost_ret (v := .agg C.toArray) ?_ rfl ⟨rfl, HOKX.out, ?_⟩
      · exact results_cell_mid Tryz.results61 _ _ w.heap.size 0 _ _ rfl hr Tryz.underlying64 rfl HIC.out
      · exact HBF.out.trans (setCells_below (Nat.le_refl _) _ _ _)
end Go.Proofs.YtampnikdmgojjaaGreat.Sg
end

section
/-
  entries of segment: the right entries that a value is the value of.
-/
namespace Go.Proofs.YtampnikdmgojjaaGreat.Sg
open Go.RowKit
open Tlv (Tr Agree)
open Sim (hid Kp No)

/-- One more entry behind those that there are. -/
theorem next_E {w wr W1 : World} {ad : Option Addr} {k cap : Nat} {xs : List Ent} {e : Ent} (hM : Mine w wr (.slice ad k cap) xs) (hxk : xs.length = k) (hW : Kp No wr W1) (heo : EOk e) (hk : k ≤ 1000000) (ty : TypeId) :
    ∃ ad2 cap2 w2, (Builtin.append_ #[30, 30] ty #[.slice ad k cap, .slice (some ⟨W1.heap.size, 0, none⟩) 1 1]).run Tryz.prog (W1.alloc (.cells (entC e).toArray 64)) = .ok (.slice ad2 (k + 1) cap2) w2 ∧
      Kp (fun x => (Value.slice ad k cap).ownBlock = some x) wr w2 ∧ Mine w w2 (.slice ad2 (k + 1) cap2) (xs ++ [e]) := by
  have hRA : Sim.Row (W1.alloc (.cells (entC e).toArray 64)) 64 35 (.slice ad k cap) k (ents xs) := by
    have := hM.1
    rw [hxk] at this
    exact this.kept (hW.alloc _)
  have hSC : Sim.Src (W1.alloc (.cells (entC e).toArray 64)) (.slice (some ⟨W1.heap.size, 0, none⟩) 1 1) 1 35 (entC e) := Sim.Src.one W1 (entC e) 35 64 (entC_length heo) (entC_one _)
  obtain ⟨ad2, cap2, w2, hap, hrow2, hgr2, hown2⟩ := app_run _ ty (.slice ad k cap) (.slice (some ⟨W1.heap.size, 0, none⟩) 1 1) k 1 _ _ hRA hSC (by omega) (by omega)
  have HKA : Kp (fun x => (Value.slice ad k cap).ownBlock = some x) wr (W1.alloc (.cells (entC e).toArray 64)) := (hW.ofNo).alloc _
  have HK2 : Kp (fun x => (Value.slice ad k cap).ownBlock = some x) wr w2 := HKA.grown hgr2 (fun x hx => .inl hx)
  refine ⟨ad2, cap2, w2, hap, HK2, ?_, fun x hx => ?_, hM.2.2.trans HK2 (fun x hx => .inr (hM.2.1 x hx))⟩
  · rw [List.length_append, hxk, ents_append]
    have : ents [e] = entC e := by simp [ents]
    rw [this]
    exact hrow2
  · rcases hown2 with e1 | e1
    · exact hM.2.1 x (by rw [← e1]; exact hx)
    · rw [e1] at hx
      cases hx
      exact Nat.le_trans hM.2.2.size HKA.size
theorem wpList_valE {P : Program} {ops : Array Oper} {rest : List Oper} {o : Oper} {a : Act} {Q : Exit → Act → World → Prop} {w w' : World} {v : Value} (hg : o.guard = none) (hr : (execOp a.eval o).run P w = .ok (.value v) w') (h : wpList P ops Q rest (a.put o.dst v) w') : wpList P ops Q (o :: rest) a w :=
  wpList_plain hg fun _ hK => by unfold Oper.wp; rw [hr]; exact hK _ _ h
/-- Entries' cells are whole. -/
def Oks (d : List Ent) : Prop := ∀ x ∈ d, EOk x
theorem run_oneX {e : Ent} (h : EOk e) (w : World) : (Instr.buildSlice 30 1 #[(0, .agg (entC e).toArray)]).run Tryz.prog w = .ok (.slice (some ⟨w.heap.size, 0, none⟩) 1 1) (w.alloc (.cells (entC e).toArray 64)) := by
  obtain ⟨nm, p, q, r⟩ := e
  exact run_oneE nm p q r h.1 w
theorem ksl_get {n L B : Nat} {w w' : World} {R : Tr n → Value → Value → Prop} {v : Value} {ks : List (Tr n)} (h : Tlv.KSl L B w R v ks) {k : Nat} {x : Tr n} (hx : ks[k]? = some x) (hA : Agree L B w w') :
    ∃ b o c sb sk, v = .slice (some ⟨b, o, none⟩) ks.length c ∧ L ≤ b ∧ b < B ∧ w'.cell? ⟨b, o + k * 4, none⟩ = some (.int .i64 x.hd.1) ∧ w'.cell? ⟨b, o + k * 4 + 1, none⟩ = some (.int .u64 x.hd.2.1) ∧ w'.cell? ⟨b, o + k * 4 + 2, none⟩ = some sb ∧ w'.cell? ⟨b, o + k * 4 + 3, none⟩ = some sk ∧ R x sb sk := by
  obtain ⟨a, cap, rfl, h2, h3, h4, h5, h6⟩ := h
  obtain ⟨b, o, rfl, hL, hB, hc⟩ := h6 (by intro e; rw [e] at hx; simp at hx)
  obtain ⟨sb, sk, c0, c1, c2, c3, hr⟩ := hc k x hx
  exact ⟨b, o, cap, sb, sk, rfl, hL, hB, (hA.cell (p := ⟨b, _, none⟩) hL hB).trans c0, (hA.cell (p := ⟨b, _, none⟩) hL hB).trans c1, (hA.cell (p := ⟨b, _, none⟩) hL hB).trans c2, (hA.cell (p := ⟨b, _, none⟩) hL hB).trans c3, hr⟩
theorem entOf_4 {k : Tr 8} {a b c e : Tr 7} (h : k.kd = [a, b, c, e]) : entOf k = (pad32 a.hd.2.2, wrap64 b.hd.2.1, wrap64 c.hd.2.1, wrap64 e.hd.2.1) := by rw [entOf, h]

set_option maxHeartbeats 4000000 in
set_option maxRecDepth 100000 in
theorem entries_any (t : Tr 9) (sb sk : Value) (L B : Nat) (w : World) (h : Tlv.Rep L B w 9 t sb sk) (hB : B ≤ w.heap.size) (hl : t.kd.length ≤ 1000000) :
    Calls Tryz.prog 36 #[.agg #[.int .i64 t.hd.1, .int .u64 t.hd.2.1, sb, sk]] w fun e w' =>
      ((¬ GoodT t ∧ e = .returned (.tuple #[.slice none 0 0, .bool false])) ∨ (GoodT t ∧ ∃ v, e = .returned (.tuple #[v, .bool true]) ∧ Mine w w' v (t.kd.map entOf) ∧ Oks (t.kd.map entOf))) ∧ Kp No w w' := by
  have HREP := hid h
  have HKS := hid h.2.2.2
  obtain ⟨av, lv, cv, ak, lk, ck, rfl, rfl⟩ := h.sl
  obtain ⟨n, hn⟩ : ∃ n, t.kd.length = n := ⟨_, rfl⟩
  have hlk : lk = n := by
    obtain ⟨a, c, e, _⟩ := h.2.2.2
    simp only [Value.slice.injEq] at e
    omega
  subst hlk
  have HN := hid hn
  rw [hn] at hl
  obtain ⟨D, hD⟩ : ∃ D, t.kd.map entOf = D := ⟨_, rfl⟩
  have HD := hid hD
  rw [hD]
  obtain ⟨tag, htag⟩ : ∃ x, t.hd.1 = x := ⟨_, rfl⟩
  obtain ⟨num, hnum⟩ : ∃ x, t.hd.2.1 = x := ⟨_, rfl⟩
  have HH := hid (And.intro htag hnum)
  rw [htag, hnum]
  have hmk : ∀ W, (Instr.makeSlice 30 (.int .i64 0) (.int .i64 (lk : Int))).run Tryz.prog W = .ok (.slice (some ⟨W.heap.size, 0, none⟩) 0 lk) (W.alloc (.cells (madeCells zE.toArray (lk * 35)) 64)) := by
    intro W
    obtain ⟨i0, hi, hz0, hz1, hz2⟩ := info_parts infoE
    have h := run_make (P := Tryz.prog) W 30 64 i0 _ Tryz.underlying30 hi hz0 .i64 .i64 0 (lk : Int) (by omega) (by omega) (by rw [hz2]; omega) (by omega)
    rw [h, hz1]
    rfl
  have HMS : Hid ((madeCells zE.toArray (lk * 35)).size = lk * 35) := size_madeCells _ _
  generalize madeCells zE.toArray (lk * 35) = M at *
  obtain ⟨W0, hW0⟩ : ∃ W0, w.alloc (.cells #[.int .i64 tag, .int .u64 num, .slice av lv cv, .slice ak lk ck] 87) = W0 := ⟨_, rfl⟩
  have HM0 : Hid (Mine W0 (W0.alloc (.cells M 64)) (.slice (some ⟨W0.heap.size, 0, none⟩) 0 lk) []) :=
    ⟨World.ownsRow_made W0 _ lk (Nat.zero_le _) (by unfold maxLen; omega) HMS.out, fun x hx => by simp [Value.ownBlock] at hx; omega, (Kp.refl No W0).alloc _⟩
  have hK0 : Kp No w W0 := by rw [← hW0]; exact (Kp.refl No w).alloc _
  have HK0 := hid hK0
  have hz0 : W0.heap.size = w.heap.size + 1 := by rw [← hW0]; simp
  have HBX : Hid (∀ V, Kp No W0 V → V.cell? ⟨w.heap.size, 0, none⟩ = some (.int .i64 tag) ∧ V.cell? ⟨w.heap.size, 1, none⟩ = some (.int .u64 num) ∧ V.cell? ⟨w.heap.size, 2, none⟩ = some (.slice av lv cv) ∧ V.cell? ⟨w.heap.size, 3, none⟩ = some (.slice ak lk ck) ∧ w.heap.size < V.heap.size) := fun V hV => by
    have hs := hV.size
    have c : ∀ j, V.cell? ⟨w.heap.size, j, none⟩ = W0.cell? ⟨w.heap.size, j, none⟩ := fun j => hV.cell (p := ⟨w.heap.size, j, none⟩) (by simp; omega) (fun x => x)
    rw [c, c, c, c, ← hW0]
    refine ⟨by simp, by simp, by simp, by simp, by omega⟩
  have HZ0 := hid hz0
  have hd3 : (W0.alloc (.cells M 64)).cell? ⟨w.heap.size, 3, none⟩ = some (.slice ak lk ck) := (HBX.out _ ((Kp.refl No W0).alloc _)).2.2.2.1
  have he3 : W0.cell? ⟨w.heap.size, 3, none⟩ = some (.slice ak lk ck) := (HBX.out _ (Kp.refl No W0)).2.2.2.1
  have hzl : w.heap.size < W0.heap.size := by omega
  clear h hn hD htag hnum hz0 hK0
  go_enter Tryz.func36, Tryz.ntmps36
  go_wp2_with fail
  clear hmk he3 hd3 hW0
  go_loopw [4, 14] (fun v4 v14 wr => ∃ (k : Nat) (ad : Option Addr) (cap : Nat), v4 = .slice ad k cap ∧ v14 = .int .i64 (k : Int) ∧ k ≤ lk ∧ Hid (Mine W0 wr (.slice ad k cap) (D.take k)) ∧ Hid (∀ x ∈ t.kd.take k, x.kd.length = 4 ∧ EOk (entOf x))) (fun _ v14 _ => lk - (intOf v14).toNat)
  case atStart => exact ⟨0, _, _, rfl, rfl, Nat.zero_le _, HM0.out, by intro x hx; simp at hx⟩
  case round =>
    obtain ⟨k, ad, cap, rfl, rfl, hkn, HS, H4⟩ := hrel
    by_cases hlt : k < lk
    · have hltI : (k : Int) < (lk : Int) := by omega
      have hwk : IntKind.i64.wrap ((k : Int) + 1) = ((k + 1 : Nat) : Int) := by rw [IntKind.wrap_i64]; omega
      obtain ⟨x, hx⟩ : ∃ x, t.kd[k]? = some x := ⟨_, List.getElem?_eq_getElem (by rw [HN.out]; exact hlt)⟩
      have hKw : Kp No w wr := HK0.out.andNone HS.out.2.2
      have hAw : ∀ V, Kp No wr V → Agree L B w V := fun V hV => Agree.below (((hKw.andNone hV).toBelow').mono hB)
      obtain ⟨bk, ok, ck', sb', sk', ev, hbL, hbB, c0, c1, c2, c3, hrx⟩ := ksl_get HKS.out hx (hAw wr (Kp.refl _ _))
      simp only [Value.slice.injEq] at ev
      obtain ⟨rfl, -, rfl⟩ := ev
      have hbw : bk < wr.heap.size := by have := hKw.size; omega
      have hkk : ∃ m, x.kd.length = m := ⟨_, rfl⟩
      obtain ⟨m, hm⟩ := hkk
      have HMM := hid hm
      obtain ⟨a1, l1, p1, a2, l2, p2, rfl, rfl⟩ := hrx.sl
      have hl2 : l2 = m := by
        obtain ⟨a, c, e, _⟩ := hrx.2.2.2
        simp only [Value.slice.injEq] at e
        omega
      subst hl2
      have HRX := hid hrx
      have HX := hid hx
      have hDk : D[k]? = some (entOf x) := by rw [← HD.out, List.getElem?_map, hx]; rfl
      have HNX : Hid (D.take (k + 1) = D.take k ++ [entOf x]) := by rw [Hid, List.take_add_one, hDk]; rfl
      have hDl : (D.take k).length = k := by rw [List.length_take, ← HD.out, List.length_map, HN.out]; omega
      have HDL := hid hDl
      have HAW := hid hAw
      clear hm hx hrx hDk hDl hAw
      generalize htg : x.hd.1 = tg at *
      generalize hnu : x.hd.2.1 = nu at *
      clear htg hnu
      by_cases h4 : l2 = 4
      · subst h4
        obtain ⟨ka, kb, kc, ke, hkd⟩ := kd4 HMM.out
        have HEO := hid (entOf_4 hkd)
        have HKD := hid hkd
        clear hkd
        go_wp2_with fail
        have HKA : Hid (Kp No wr (wr.alloc (.cells #[.int .i64 tg, .int .u64 nu, .slice a1 l1 p1, .slice a2 4 p2] 87))) := (Kp.refl No wr).alloc _
        have hks : Tlv.KSl L B (wr.alloc (.cells #[.int .i64 tg, .int .u64 nu, .slice a1 l1 p1, .slice a2 4 p2] 87)) (Tlv.Rep L B (wr.alloc (.cells #[.int .i64 tg, .int .u64 nu, .slice a1 l1 p1, .slice a2 4 p2] 87)) 7) (.slice a2 4 p2) [ka, kb, kc, ke] := by
          have := (HRX.out.agree (L' := L) (B' := B) (HAW.out _ HKA.out) (Nat.le_refl _) (Nat.le_refl _)).2.2.2
          rwa [HKD.out] at this
        refine (entry_any ka kb kc ke _ L B _ hks (by have h1 := HKA.out.size; have h2 := HS.out.2.2.size; have h3 := HK0.out.size; omega)).mono ?_
        rintro e w3 ⟨rfl, heo, hb3⟩
        rw [← HEO.out]
        rw [← HEO.out] at heo
        have HK3 : Hid (Kp No wr w3) := HKA.out.andNone (Kp.below hb3)
        have HEK := hid heo
        obtain ⟨ad2, cap2, w4, hap, hk4, hm4⟩ := next_E HS.out HDL.out HK3.out heo (by omega) 30
        have HB2 := hid (run_oneX heo)
        have HM4 : Hid (Mine W0 w4 (.slice ad2 (k + 1) cap2) (D.take (k + 1))) := by rw [HNX.out]; exact hm4
        have H5 : Hid (∀ y ∈ t.kd.take (k + 1), y.kd.length = 4 ∧ EOk (entOf y)) := by
          intro y hy
          rw [List.take_add_one, HX.out] at hy
          rcases List.mem_append.1 hy with hy | hy
          · exact H4.out y hy
          · simp at hy
            subst hy
            exact ⟨by rw [HKD.out]; rfl, heo⟩
        obtain ⟨C, hC⟩ : ∃ C, entC (entOf x) = C := ⟨_, rfl⟩
        rw [hC] at hap HB2 ⊢
        have HAP := hid hap
        clear hC heo hb3 hks hk4 hm4 hap c0 c1 c2 c3
        go_wp2_with (first
          | (refine wpList_valE (by rfl) (exec_sliceE 30 _ rfl (.agg C.toArray) _ rfl (HB2.out _)) ?_)
          | (refine wpList_valE (by rfl) (exec_appE _ _ 30 rfl (.slice ad k cap) (.slice (some ⟨w3.heap.size, 0, none⟩) 1 1) _ rfl rfl HAP.out) ?_))
        go_round
        case rel => exact ⟨k + 1, ad2, cap2, rfl, by first | rfl | go_num, by omega, HM4.out, H5.out⟩
        case measure => simp [intOf]; omega
      · have hne : ((l2 : Int) != 4) = true := by simp; omega
        have HNG : Hid (¬ GoodT t) := fun hg => h4 (by rw [← HMM.out]; exact hg.1 x (List.mem_of_getElem? HX.out))
        have HKW := hid hKw
        clear hKw
        go_wp2_with fail
        go_ret2
        exact ⟨.inl ⟨HNG.out, rfl⟩, HKW.out.alloc _⟩
    · have hltI : ¬ (k : Int) < (lk : Int) := by omega
      have hkn' : k = lk := by omega
      have hDl : D.length = lk := by rw [← HD.out, List.length_map, HN.out]
      have HDT : Hid (Mine W0 wr (.slice ad k cap) D) := by
        have := HS.out
        rw [List.take_of_length_le (by omega)] at this
        exact this
      have HAL : Hid ((∀ x ∈ t.kd, x.kd.length = 4) ∧ ∀ x ∈ D, EOk x) := by
        have h := H4.out
        rw [List.take_of_length_le (by rw [HN.out]; omega)] at h
        refine ⟨fun x hx => (h x hx).1, fun x hx => ?_⟩
        rw [← HD.out] at hx
        obtain ⟨y, hy, rfl⟩ := List.mem_map.1 hx
        exact (h y hy).2
      have HKW : Hid (Kp No w wr) := HK0.out.andNone HDT.out.2.2
      have HEV : Hid (EV (fun g => W0.heap.size ≤ g) wr (.slice ad k cap) D) := ev_of_row HDT.out.1 HAL.out.2 HDT.out.2.1
      have HGD : Hid (GoodT t ↔ RightP D ∧ Tlv.sameT 9 t 3 (entsT D) = true) := by
        rw [Hid, GoodT, HD.out]
        exact ⟨fun h => h.2, fun h => ⟨HAL.out.1, h⟩⟩
      have HMW : Hid (∀ V, Kp No wr V → Mine w V (.slice ad k cap) D) := fun V hV => ⟨HDT.out.1.kept hV, fun x hx => Nat.le_trans HK0.out.size (HDT.out.2.1 x hx), HKW.out.andNone hV⟩
      have HBW : Hid (∀ V, Kp No wr V → V.cell? ⟨w.heap.size, 0, none⟩ = some (.int .i64 tag) ∧ V.cell? ⟨w.heap.size, 1, none⟩ = some (.int .u64 num) ∧ V.cell? ⟨w.heap.size, 2, none⟩ = some (.slice av lv cv) ∧ V.cell? ⟨w.heap.size, 3, none⟩ = some (.slice ak lk ck) ∧ w.heap.size < V.heap.size) := fun V hV => HBX.out V (HDT.out.2.2.andNone hV)
      clear hkn' HS H4 hlt
      go_wp2_with fail
      obtain ⟨okb, hokb⟩ : ∃ okb : Bool, (okb = true ↔ RightP D ∧ Tlv.sameT 9 t 3 (entsT D) = true) := by
        by_cases h : RightP D ∧ Tlv.sameT 9 t 3 (entsT D) = true
        · exact ⟨true, fun _ => h, fun _ => rfl⟩
        · exact ⟨false, fun e => (by cases e), fun e => absurd e h⟩
      have HOK := hid hokb
      clear hokb
      go_cut [38] (fun c wx => c = .bool (!okb) ∧ Hid (Kp No wr wx))
      case first =>
        by_cases hR : RightP D
        · have hob : okb = Tlv.sameT 9 t 3 (entsT D) := by
            rw [Bool.eq_iff_iff]
            exact HOK.out.trans ⟨fun x => x.2, fun x => ⟨hR, x⟩⟩
          have HRT : Hid (∀ V, Kp No wr V → Calls Tryz.prog 12 #[.slice ad k cap] V fun e w' => e = .returned (.bool true) ∧ Kp No V w') := fun V hV => (right_any V _ D _ (HEV.out.kept hV) (by omega)).mono fun e w' h => ⟨by obtain ⟨⟨b, rfl, hb⟩, _⟩ := h; rw [hb.2 hR], h.2⟩
          have HVV : Hid (∀ V, Kp No wr V → Calls Tryz.prog 29 #[.slice ad k cap] V fun e w' => ∃ a3 l3 p3 a4 l4 p4, e = .returned (.agg #[.int .i64 3, .int .u64 0, .slice a3 l3 p3, .slice a4 l4 p4]) ∧ Tlv.Rep 0 w'.heap.size w' 3 (entsT D) (.slice a3 l3 p3) (.slice a4 l4 p4) ∧ Kp No V w') := by
            intro V hV
            refine (value_any V _ D _ (HEV.out.kept hV) hR.places (by omega)).mono ?_
            rintro e w4 ⟨a3, l3, p3, a4, l4, p4, rfl, hr4, hb4⟩
            exact ⟨_, _, _, _, _, _, rfl, hr4.agree (Agree.refl _ _ _) (Nat.zero_le _) (Nat.le_refl _), Kp.below hb4⟩
          have HSS : Hid (∀ V sb' sk', Kp No wr V → Tlv.Rep 0 V.heap.size V 3 (entsT D) sb' sk' → Calls Tryz.prog 62 #[.agg #[.int .i64 tag, .int .u64 num, .slice av lv cv, .slice ak lk ck], .agg #[.int .i64 3, .int .u64 0, sb', sk']] V fun e w' => e = .returned (.bool okb) ∧ Kp No V w') := by
            intro V sb' sk' hV hR2
            have hk := HKW.out.andNone hV
            have h1 := HREP.out.agree (L' := 0) (B' := V.heap.size) (Agree.below (hk.toBelow'.mono hB)) (Nat.zero_le _) (Nat.le_trans hB hk.size)
            have h3 := Tlv.Same_any t (entsT D) _ _ _ _ V h1 hR2 (by omega)
            obtain ⟨e0, e1⟩ := HH.out
            rw [e0, e1, ← hob] at h3
            exact h3.mono fun e w' h => ⟨h.1, Kp.below h.2⟩
          clear hob hR
          refine wp_region_held_drew (S := fun V => Kp No wr V) (by kernel_rfl) ((Kp.refl _ _).drew) (fun hHeld => ?_)
          refine wpAnyH_take (i := 0) (oi := { dst := some 29, op := Op.move (Operand.tmp 4), type := 30, pos := "sealed.go:76", after := #[], guard := none }) (v := .slice ad k cap) rfl (by kernel_rfl) (by kernel_rfl) (by kernel_rfl) (fun _ _ _ h => h) (Or.inl ⟨by rfl, fun w' hw' => by (clear hw'; go_simp)⟩) hHeld ?_
          simp only [Act.put, List.setIfInBounds_toArray, List.set_cons_zero, List.set_cons_succ]
          refine wpAnyH_ready (rs := [1]) (by kernel_rfl) (by simp) ?_
          refine AllReadyH.cons (o := { dst := some 30, op := Op.call { callee := Callee.value (Operand.func 12), args := #[Operand.tmp 29], argTypes := #[30] }, type := 4, pos := "sealed.go:76", after := #[{ on := 0, ground := Ground.data }], guard := none }) rfl (fun K hK => ?_) AllReadyH.nil
          go_simp
          refine (HRT.out _ ((Kp.refl No wr).drew)).mono ?_
          rintro e w3 ⟨rfl, hb3⟩
          have HK3 : Hid (Kp No wr w3) := ((Kp.refl No wr).drew).andNone hb3
          clear hb3
          go_wp2_with fail
          refine hK.out _ _ (HK3.out) (fun hh => ?_)
          clear hK K hHeld
          have hHeld := hh
          clear hh
          try simp only [Act.put, List.setIfInBounds_toArray, List.set_cons_zero, List.set_cons_succ]
          refine wpAnyH_take (i := 2) (oi := { dst := some 31, op := Op.unOp UnOp.not 4 (Operand.tmp 30), type := 4, pos := "sealed.go:76", after := #[{ on := 1, ground := Ground.data }], guard := none }) (v := .bool false) rfl (by kernel_rfl) (by kernel_rfl) (by kernel_rfl) (fun _ _ _ h => h) (Or.inl ⟨by rfl, fun w' hw' => by (clear hw'; go_simp)⟩) hHeld ?_
          simp only [Act.put, List.setIfInBounds_toArray, List.set_cons_zero, List.set_cons_succ]
          refine wpAnyH_take (i := 3) (oi := { dst := some 32, op := Op.move (Operand.tmp 31), type := 4, pos := "sealed.go:76", after := #[{ on := 2, ground := Ground.data }, { on := 1, ground := Ground.chain }], guard := none }) (v := .bool false) rfl (by kernel_rfl) (by kernel_rfl) (by kernel_rfl) (fun _ _ _ h => h) (Or.inl ⟨by rfl, fun w' hw' => by (clear hw'; go_simp)⟩) hHeld ?_
          simp only [Act.put, List.setIfInBounds_toArray, List.set_cons_zero, List.set_cons_succ]
          refine wpAnyH_take (i := 4) (oi := { dst := some 33, op := Op.load 87 (Operand.tmp 1), type := 87, pos := "sealed.go:76", after := #[{ on := 3, ground := Ground.guard }], guard := some (3, false) }) (v := .agg #[.int .i64 tag, .int .u64 num, .slice av lv cv, .slice ak lk ck]) rfl (by kernel_rfl) (by kernel_rfl) (by kernel_rfl) (fun _ _ _ h => h) (Or.inl ⟨by rfl, fun w' hw' => by (obtain ⟨q0, q1, q2, q3, q4⟩ := HBW.out _ hw'; clear hw'; go_simp)⟩) hHeld ?_
          simp only [Act.put, List.setIfInBounds_toArray, List.set_cons_zero, List.set_cons_succ]
          refine wpAnyH_take (i := 5) (oi := { dst := some 34, op := Op.move (Operand.tmp 4), type := 30, pos := "sealed.go:76", after := #[{ on := 3, ground := Ground.guard }], guard := some (3, false) }) (v := .slice ad k cap) rfl (by kernel_rfl) (by kernel_rfl) (by kernel_rfl) (fun _ _ _ h => h) (Or.inl ⟨by rfl, fun w' hw' => by (clear hw'; go_simp)⟩) hHeld ?_
          simp only [Act.put, List.setIfInBounds_toArray, List.set_cons_zero, List.set_cons_succ]
          refine wpAnyH_ready (rs := [6]) (by kernel_rfl) (by simp) ?_
          refine AllReadyH.cons (o := { dst := some 35, op := Op.call { callee := Callee.value (Operand.func 29), args := #[Operand.tmp 34], argTypes := #[30] }, type := 87, pos := "sealed.go:76", after := #[{ on := 5, ground := Ground.data }, { on := 3, ground := Ground.chain }, { on := 3, ground := Ground.guard }], guard := some (3, false) }) rfl (fun K hK => ?_) AllReadyH.nil
          go_simp
          refine (HVV.out w3 HK3.out).mono ?_
          rintro e w4 ⟨a3, l3, p3, a4, l4, p4, rfl, hr4, hb4⟩
          have HR4 := hid hr4
          have HK4 : Hid (Kp No wr w4) := HK3.out.andNone hb4
          clear hr4 hb4
          go_wp2_with fail
          refine hK.out _ _ (HK4.out) (fun hh => ?_)
          clear hK K hHeld
          have hHeld := hh
          clear hh
          try simp only [Act.put, List.setIfInBounds_toArray, List.set_cons_zero, List.set_cons_succ]
          refine wpAnyH_ready (rs := [7]) (by kernel_rfl) (by simp) ?_
          refine AllReadyH.cons (o := { dst := some 36, op := Op.call { callee := Callee.value (Operand.func 62), args := #[Operand.tmp 33, Operand.tmp 35], argTypes := #[87, 87] }, type := 4, pos := "sealed.go:76", after := #[{ on := 4, ground := Ground.data }, { on := 6, ground := Ground.data }, { on := 6, ground := Ground.chain }, { on := 3, ground := Ground.guard }], guard := some (3, false) }) rfl (fun K hK => ?_) AllReadyH.nil
          go_simp
          refine (HSS.out w4 _ _ HK4.out HR4.out).mono ?_
          rintro e w5 ⟨rfl, hb5⟩
          have HK5 : Hid (Kp No wr w5) := HK4.out.andNone hb5
          clear hb5
          go_wp2_with fail
          refine hK.out _ _ (HK5.out) (fun hh => ?_)
          clear hK K hHeld
          have hHeld := hh
          clear hh
          try simp only [Act.put, List.setIfInBounds_toArray, List.set_cons_zero, List.set_cons_succ]
          refine wpAnyH_take (i := 8) (oi := { dst := some 37, op := Op.unOp UnOp.not 4 (Operand.tmp 36), type := 4, pos := "sealed.go:76", after := #[{ on := 7, ground := Ground.data }, { on := 3, ground := Ground.guard }], guard := some (3, false) }) (v := .bool (!okb)) rfl (by kernel_rfl) (by kernel_rfl) (by kernel_rfl) (fun _ _ _ h => h) (Or.inl ⟨by rfl, fun w' hw' => by (clear hw'; go_simp)⟩) hHeld ?_
          simp only [Act.put, List.setIfInBounds_toArray, List.set_cons_zero, List.set_cons_succ]
          refine wpAnyH_take (i := 9) (oi := { dst := some 38, op := Op.pick (Operand.tmp 32) (Operand.const (Value.bool true)) (Operand.tmp 37), type := 4, pos := "sealed.go:76", after := #[{ on := 3, ground := Ground.data }, { on := 8, ground := Ground.data }], guard := none }) (v := .bool (!okb)) rfl (by kernel_rfl) (by kernel_rfl) (by kernel_rfl) (fun _ _ _ h => h) (Or.inl ⟨by rfl, fun w' hw' => by (clear hw'; go_simp)⟩) hHeld ?_
          simp only [Act.put, List.setIfInBounds_toArray, List.set_cons_zero, List.set_cons_succ]
          refine wpAnyH_done (by kernel_rfl) ?_ _
          go_wp2_with fail
          go_meet
          exact ⟨rfl, HK5.out⟩
        · have hob : okb = false := by
            cases okb with
            | false => rfl
            | true => exact absurd (HOK.out.1 rfl).1 hR
          have HRT : Hid (∀ V, Kp No wr V → Calls Tryz.prog 12 #[.slice ad k cap] V fun e w' => e = .returned (.bool false) ∧ Kp No V w') := fun V hV => (right_any V _ D _ (HEV.out.kept hV) (by omega)).mono fun e w' h => ⟨by obtain ⟨⟨b, rfl, hb⟩, _⟩ := h; cases b with | false => rfl | true => exact absurd (hb.1 rfl) hR, h.2⟩
          subst hob
          clear hR
          refine wp_region_held_drew (S := fun V => Kp No wr V) (by kernel_rfl) ((Kp.refl _ _).drew) (fun hHeld => ?_)
          refine wpAnyH_take (i := 0) (oi := { dst := some 29, op := Op.move (Operand.tmp 4), type := 30, pos := "sealed.go:76", after := #[], guard := none }) (v := .slice ad k cap) rfl (by kernel_rfl) (by kernel_rfl) (by kernel_rfl) (fun _ _ _ h => h) (Or.inl ⟨by rfl, fun w' hw' => by (clear hw'; go_simp)⟩) hHeld ?_
          simp only [Act.put, List.setIfInBounds_toArray, List.set_cons_zero, List.set_cons_succ]
          refine wpAnyH_ready (rs := [1]) (by kernel_rfl) (by simp) ?_
          refine AllReadyH.cons (o := { dst := some 30, op := Op.call { callee := Callee.value (Operand.func 12), args := #[Operand.tmp 29], argTypes := #[30] }, type := 4, pos := "sealed.go:76", after := #[{ on := 0, ground := Ground.data }], guard := none }) rfl (fun K hK => ?_) AllReadyH.nil
          go_simp
          refine (HRT.out _ ((Kp.refl No wr).drew)).mono ?_
          rintro e w3 ⟨rfl, hb3⟩
          have HK3 : Hid (Kp No wr w3) := ((Kp.refl No wr).drew).andNone hb3
          clear hb3
          go_wp2_with fail
          refine hK.out _ _ (HK3.out) (fun hh => ?_)
          clear hK K hHeld
          have hHeld := hh
          clear hh
          try simp only [Act.put, List.setIfInBounds_toArray, List.set_cons_zero, List.set_cons_succ]
          refine wpAnyH_take (i := 2) (oi := { dst := some 31, op := Op.unOp UnOp.not 4 (Operand.tmp 30), type := 4, pos := "sealed.go:76", after := #[{ on := 1, ground := Ground.data }], guard := none }) (v := .bool true) rfl (by kernel_rfl) (by kernel_rfl) (by kernel_rfl) (fun _ _ _ h => h) (Or.inl ⟨by rfl, fun w' hw' => by (clear hw'; go_simp)⟩) hHeld ?_
          simp only [Act.put, List.setIfInBounds_toArray, List.set_cons_zero, List.set_cons_succ]
          refine wpAnyH_take (i := 3) (oi := { dst := some 32, op := Op.move (Operand.tmp 31), type := 4, pos := "sealed.go:76", after := #[{ on := 2, ground := Ground.data }, { on := 1, ground := Ground.chain }], guard := none }) (v := .bool true) rfl (by kernel_rfl) (by kernel_rfl) (by kernel_rfl) (fun _ _ _ h => h) (Or.inl ⟨by rfl, fun w' hw' => by (clear hw'; go_simp)⟩) hHeld ?_
          simp only [Act.put, List.setIfInBounds_toArray, List.set_cons_zero, List.set_cons_succ]
          refine wpAnyH_take (i := 4) (oi := { dst := some 33, op := Op.load 87 (Operand.tmp 1), type := 87, pos := "sealed.go:76", after := #[{ on := 3, ground := Ground.guard }], guard := some (3, false) }) (v := undef) rfl (by kernel_rfl) (by kernel_rfl) (by kernel_rfl) (fun _ _ _ h => h) (Or.inr ⟨by rfl, rfl⟩) hHeld ?_
          simp only [Act.put, List.setIfInBounds_toArray, List.set_cons_zero, List.set_cons_succ]
          refine wpAnyH_take (i := 5) (oi := { dst := some 34, op := Op.move (Operand.tmp 4), type := 30, pos := "sealed.go:76", after := #[{ on := 3, ground := Ground.guard }], guard := some (3, false) }) (v := undef) rfl (by kernel_rfl) (by kernel_rfl) (by kernel_rfl) (fun _ _ _ h => h) (Or.inr ⟨by rfl, rfl⟩) hHeld ?_
          simp only [Act.put, List.setIfInBounds_toArray, List.set_cons_zero, List.set_cons_succ]
          refine wpAnyH_take (i := 6) (oi := { dst := some 35, op := Op.call { callee := Callee.value (Operand.func 29), args := #[Operand.tmp 34], argTypes := #[30] }, type := 87, pos := "sealed.go:76", after := #[{ on := 5, ground := Ground.data }, { on := 3, ground := Ground.chain }, { on := 3, ground := Ground.guard }], guard := some (3, false) }) (v := undef) rfl (by kernel_rfl) (by kernel_rfl) (by kernel_rfl) (fun _ _ _ h => h) (Or.inr ⟨by rfl, rfl⟩) hHeld ?_
          simp only [Act.put, List.setIfInBounds_toArray, List.set_cons_zero, List.set_cons_succ]
          refine wpAnyH_take (i := 7) (oi := { dst := some 36, op := Op.call { callee := Callee.value (Operand.func 62), args := #[Operand.tmp 33, Operand.tmp 35], argTypes := #[87, 87] }, type := 4, pos := "sealed.go:76", after := #[{ on := 4, ground := Ground.data }, { on := 6, ground := Ground.data }, { on := 6, ground := Ground.chain }, { on := 3, ground := Ground.guard }], guard := some (3, false) }) (v := undef) rfl (by kernel_rfl) (by kernel_rfl) (by kernel_rfl) (fun _ _ _ h => h) (Or.inr ⟨by rfl, rfl⟩) hHeld ?_
          simp only [Act.put, List.setIfInBounds_toArray, List.set_cons_zero, List.set_cons_succ]
          refine wpAnyH_take (i := 8) (oi := { dst := some 37, op := Op.unOp UnOp.not 4 (Operand.tmp 36), type := 4, pos := "sealed.go:76", after := #[{ on := 7, ground := Ground.data }, { on := 3, ground := Ground.guard }], guard := some (3, false) }) (v := undef) rfl (by kernel_rfl) (by kernel_rfl) (by kernel_rfl) (fun _ _ _ h => h) (Or.inr ⟨by rfl, rfl⟩) hHeld ?_
          simp only [Act.put, List.setIfInBounds_toArray, List.set_cons_zero, List.set_cons_succ]
          refine wpAnyH_take (i := 9) (oi := { dst := some 38, op := Op.pick (Operand.tmp 32) (Operand.const (Value.bool true)) (Operand.tmp 37), type := 4, pos := "sealed.go:76", after := #[{ on := 3, ground := Ground.data }, { on := 8, ground := Ground.data }], guard := none }) (v := .bool true) rfl (by kernel_rfl) (by kernel_rfl) (by kernel_rfl) (fun _ _ _ h => h) (Or.inl ⟨by rfl, fun w' hw' => by (clear hw'; go_simp)⟩) hHeld ?_
          simp only [Act.put, List.setIfInBounds_toArray, List.set_cons_zero, List.set_cons_succ]
          refine wpAnyH_done (by kernel_rfl) ?_ _
          go_wp2_with fail
          go_meet
          exact ⟨rfl, HK3.out⟩
      case rest =>
        obtain ⟨rfl, HKX⟩ := hcut
        cases okb with
        | false =>
          have HNG : Hid (¬ GoodT t) := fun h => by have := HOK.out.2 (HGD.out.1 h); cases this
          go_wp2_with fail
          go_ret2
          exact ⟨.inl ⟨HNG.out, rfl⟩, HKW.out.andNone HKX.out⟩
        | true =>
          have HG : Hid (GoodT t) := HGD.out.2 (HOK.out.1 rfl)
          go_wp2_with fail
          go_ret2
          exact ⟨.inr ⟨HG.out, _, rfl, HMW.out _ HKX.out, HAL.out.2⟩, HKW.out.andNone HKX.out⟩
end Go.Proofs.YtampnikdmgojjaaGreat.Sg
end

section
/-
  Numbers that are read, and the document's Without.
-/
namespace Go.Proofs.YtampnikdmgojjaaGreat.Sg
open Go.RowKit
open Sim (hid Kp No)

/-- Numbers that are read: in blocks of P alone. -/
def IV (P : Nat → Prop) (w : World) (v : Value) (zs : List Int) : Prop :=
  ∃ a cap, v = .slice a zs.length cap ∧ zs.length ≤ cap ∧ cap ≤ maxLen ∧ (a = none → zs = [] ∧ cap = 0) ∧ (zs ≠ [] → ∃ g o, a = some ⟨g, o, none⟩ ∧ P g ∧ g < w.heap.size ∧ ∀ i z, zs[i]? = some z → w.cell? ⟨g, o + i, none⟩ = some (.int .i64 z))
theorem IV.kp {P L : Nat → Prop} {w w' : World} {v : Value} {zs : List Int} (h : IV P w v zs) (k : Kp L w w') (hP : ∀ g, P g → ¬ L g) : IV P w' v zs := by
  obtain ⟨a, cap, h1, h2, h3, h4, h5⟩ := h
  refine ⟨a, cap, h1, h2, h3, h4, fun hne => ?_⟩
  obtain ⟨g, o, e, hp, hg, hc⟩ := h5 hne
  exact ⟨g, o, e, hp, Nat.lt_of_lt_of_le hg k.size, fun i z hz => (k.cell (p := ⟨g, o + i, none⟩) hg (hP g hp)).trans (hc i z hz)⟩
theorem IV.kept {P : Nat → Prop} {w w' : World} {v : Value} {zs : List Int} (h : IV P w v zs) (k : Kp No w w') : IV P w' v zs := h.kp k (fun _ _ x => x)
theorem IV.row {P : Nat → Prop} {w : World} {a : Option Addr} {n c : Nat} {zs : List Int} (h : IV P w (.slice a n c) zs) (hd : zs ≠ []) : ∃ g o, a = some ⟨g, o, none⟩ ∧ g < w.heap.size ∧ ∀ i z, zs[i]? = some z → w.cell? ⟨g, o + i, none⟩ = some (.int .i64 z) := by
  obtain ⟨a', c', e, _, _, _, h5⟩ := h
  simp only [Value.slice.injEq] at e
  obtain ⟨g, o, e1, _, h6⟩ := h5 hd
  exact ⟨g, o, by rw [e.1]; exact e1, h6⟩

/-- Those that stand in none of the packs. -/
def wout (l : List Ent) (zs : List Int) : List Ent := l.filter (fun e => !zs.contains e.2.1)
theorem wout_next {l : List Ent} {zs : List Int} {i : Nat} {e : Ent} (he : l[i]? = some e) : wout (l.take (i + 1)) zs = wout (l.take i) zs ++ (if zs.contains e.2.1 then [] else [e]) := by
  rw [wout, List.take_add_one, he, Option.toList_some, List.filter_append, wout, List.filter_cons, List.filter_nil]
  cases h : zs.contains e.2.1
  · rfl
  · rfl
theorem has_next {zs : List Int} {k : Nat} {z p : Int} (hz : zs[k]? = some z) : (zs.take (k + 1)).contains p = ((zs.take k).contains p || (p == z)) := by
  have e : (p == z) = decide (p = z) := by rw [Bool.eq_iff_iff]; simp
  rw [List.take_add_one, hz, Option.toList_some, e]
  simp [List.contains_eq_mem, Bool.decide_or]
theorem wout_ok {l : List Ent} {zs : List Int} (h : ∀ e ∈ l, EOk e) : ∀ e ∈ wout l zs, EOk e := fun e he => h e (List.mem_filter.1 he).1

set_option maxHeartbeats 4000000 in
set_option maxRecDepth 100000 in
theorem rwout_any (w : World) (v vp : Value) (l : List Ent) (zs : List Int) (P P' : Nat → Prop) (hv : EV P w v l) (hp : IV P' w vp zs) (hl : l.length ≤ 1000) (hm : zs.length ≤ 1000) :
    Calls Tryz.prog 24 #[v, vp] w fun e w' => ∃ r, e = .returned r ∧ MineR w w' r (wout l zs) := by
  have HV := hid hv
  have HP := hid hp
  have HOK := hid hv.ok
  obtain ⟨a, c, e, _⟩ := hv
  subst e
  obtain ⟨a2, c2, e, _⟩ := hp
  subst e
  obtain ⟨n, hn⟩ : ∃ n, l.length = n := ⟨_, rfl⟩
  obtain ⟨m, hmm⟩ : ∃ m, zs.length = m := ⟨_, rfl⟩
  have HN := hid hn
  have HMM := hid hmm
  rw [hn] at HV hl ⊢
  rw [hmm] at HP hm ⊢
  clear hn hmm
  go_enter Tryz.func24, Tryz.ntmps24
  go_wp2_with fail
  go_loopw [5, 6] (fun v5 v6 wr => ∃ (i j : Nat) (ad : Option Addr) (cap : Nat), v5 = .slice ad j cap ∧ v6 = .int .i64 (i : Int) ∧ i ≤ n ∧ j ≤ i ∧ Hid ((wout (l.take i) zs).length = j) ∧ Hid (MineR w wr (.slice ad j cap) (wout (l.take i) zs))) (fun _ v6 _ => n - (intOf v6).toNat)
  case atStart => exact ⟨0, 0, none, 0, rfl, rfl, Nat.zero_le _, Nat.le_refl _, rfl, MineR.nil w⟩
  case round =>
    obtain ⟨i, j, ad, cap, rfl, rfl, hin, hji, HJ, HR⟩ := hrel
    obtain ⟨V, rfl⟩ : ∃ V, V = wr := ⟨_, rfl⟩
    by_cases hlt : i < n
    · have hltI : (i : Int) < (n : Int) := by omega
      have hwk : IntKind.i64.wrap ((i : Int) + 1) = ((i + 1 : Nat) : Int) := by rw [IntKind.wrap_i64]; omega
      obtain ⟨e, he⟩ : ∃ e, l[i]? = some e := ⟨_, List.getElem?_eq_getElem (by rw [HN.out]; exact hlt)⟩
      obtain ⟨g, o, rfl, _, hr⟩ := ev_row (HV.out.kept HR.out.2.2) (by intro e; have := HN.out; rw [e] at this; simp at this; omega)
      have hgw : g < V.heap.size := hr.1
      have HEO := hid (HOK.out e (List.mem_of_getElem? he))
      have HROW : Hid (∀ U, Kp No V U → U.rangeAt g (o + i * 35) (entC e)) := fun U hU => ((hr.kp hU (fun x => x)).2 i e he).2
      have HTK := hid (wout_next (zs := zs) he)
      obtain ⟨nm, p, q, r⟩ := e
      have HCP : Hid (∀ U, Kp No V U → U.cell? ⟨g, o + i * 35 + 32, none⟩ = some (.int .i64 p)) := fun U hU => (rng_place HEO.out (HROW.out U hU)) 0 _ rfl
      simp only at HTK
      clear hr he
      go_wp2_with fail
      go_loopw [7, 8] (fun v7 v8 wq => ∃ (k : Nat) (b : Bool), v7 = .bool b ∧ v8 = .int .i64 (k : Int) ∧ k ≤ m ∧ Hid (b = (zs.take k).contains p) ∧ Hid (Kp No V wq)) (fun _ v8 _ => m - (intOf v8).toNat)
      case atStart => exact ⟨0, false, rfl, rfl, Nat.zero_le _, rfl, Kp.refl _ _⟩
      case round =>
        obtain ⟨k, b, rfl, rfl, hkm, HB, HQ⟩ := hrel
        obtain ⟨U, rfl⟩ : ∃ U, U = wr := ⟨_, rfl⟩
        by_cases hk : k < m
        · have hkI : (k : Int) < (m : Int) := by omega
          have hwk2 : IntKind.i64.wrap ((k : Int) + 1) = ((k + 1 : Nat) : Int) := by rw [IntKind.wrap_i64]; omega
          obtain ⟨z, hz⟩ : ∃ z, zs[k]? = some z := ⟨_, List.getElem?_eq_getElem (by rw [HMM.out]; exact hk)⟩
          obtain ⟨g2, o2, rfl, hg2, hc2⟩ := ((HP.out.kept HR.out.2.2).kept HQ.out).row (by intro e; have := HMM.out; rw [e] at this; simp at this; omega)
          have cz := hc2 k z hz
          have cp := HCP.out U HQ.out
          have hgU : g < U.heap.size := Nat.lt_of_lt_of_le hgw HQ.out.size
          have HNX := hid (has_next (p := p) hz)
          rw [← HB.out] at HNX
          clear hc2 hz
          cases b with
          | true =>
            have HN2 : Hid (true = (zs.take (k + 1)).contains p) := by rw [Hid, HNX.out]; rfl
            go_wp2_with fail
            go_quiet (fail)
            go_wp2_with fail
            go_round
            case rel => exact ⟨k + 1, true, rfl, by first | rfl | go_num, by omega, HN2.out, HQ.out.drewN _⟩
            case measure => simp [intOf]; omega
          | false =>
            obtain ⟨y, hy⟩ : ∃ y, (z == p) = y := ⟨_, rfl⟩
            have HN2 : Hid (y = (zs.take (k + 1)).contains p) := by
              rw [Hid, HNX.out, ← hy, Bool.false_or]
              exact BEq.comm
            go_wp2_with fail
            go_quiet (fail)
            go_wp2_with fail
            go_round
            case rel => exact ⟨k + 1, y, by first | rfl | (rw [← hy]) | (simp [← hy]), by first | rfl | go_num, by omega, HN2.out, HQ.out.drewN _⟩
            case measure => simp [intOf]; omega
        · have hkI : ¬ (k : Int) < (m : Int) := by omega
          have HBB : Hid (b = zs.contains p) := by
            rw [Hid, HB.out, List.take_of_length_le (by rw [HMM.out]; omega)]
          cases b with
          | true =>
            have HT2 : Hid (wout (l.take (i + 1)) zs = wout (l.take i) zs) := by rw [Hid, HTK.out, ← HBB.out, if_pos rfl, List.append_nil]
            have HR2 : Hid (MineR w U (.slice ad j cap) (wout (l.take (i + 1)) zs)) := by rw [HT2.out]; exact ⟨HR.out.1.kept HQ.out, HR.out.2.1, HR.out.2.2.andNone HQ.out⟩
            have HJ2 : Hid ((wout (l.take (i + 1)) zs).length = j) := by rw [HT2.out]; exact HJ.out
            go_wp2_with fail
            go_round
            case rel => exact ⟨i + 1, j, ad, cap, rfl, by first | rfl | go_num, by omega, by omega, HJ2.out, HR2.out⟩
            case measure => simp [intOf]; omega
          | false =>
            have HT2 : Hid (wout (l.take (i + 1)) zs = wout (l.take i) zs ++ [(nm, p, q, r)]) := by rw [Hid, HTK.out, ← HBB.out]; rfl
            obtain ⟨ad2, cap2, w5, hap, hk5, hm5⟩ := next_R (e := (nm, p, q, r)) HR.out HJ.out HQ.out HEO.out (by omega) 22
            have HM5 : Hid (MineR w w5 (.slice ad2 (j + 1) cap2) (wout (l.take (i + 1)) zs)) := by rw [Hid, HT2.out]; exact hm5
            have HJ2 : Hid ((wout (l.take (i + 1)) zs).length = j + 1) := by rw [Hid, HT2.out, List.length_append, HJ.out]; rfl
            have HB2 := hid (run_oneRX HEO.out)
            have HAP := hid hap
            have HR35 := hid (HROW.out U HQ.out)
            have HIE : Hid ((Tryz.prog.info? 91).map (·.size) = some (entC (nm, p, q, r)).length) := by rw [Hid, entC_length HEO.out]; kernel_rfl
            generalize entC (nm, p, q, r) = C at *
            clear hap hk5 hm5
            go_wp2_with (first
              | (refine wpList_load_mid (by rfl) 91 _ (by rfl) g (o + i * 35) (by rfl) C _ HR35.out Tryz.underlying91 rfl HIE.out ?_)
              | (refine wpList_valE (by rfl) (exec_sliceE 22 _ rfl (.agg C.toArray) _ rfl (HB2.out _)) ?_)
              | (refine wpList_valE (by rfl) (exec_appE _ _ 22 rfl (.slice ad j cap) (.slice (some ⟨U.heap.size, 0, none⟩) 1 1) _ rfl rfl HAP.out) ?_))
            go_round
            case rel => exact ⟨i + 1, j + 1, ad2, cap2, rfl, by first | rfl | go_num, by omega, by omega, HJ2.out, HM5.out⟩
            case measure => simp [intOf]; omega
    · have hltI : ¬ (i : Int) < (n : Int) := by omega
      have HF : Hid (MineR w V (.slice ad j cap) (wout l zs)) := by
        have := HR.out
        rwa [List.take_of_length_le (by rw [HN.out]; omega)] at this
      go_wp2_with fail
      go_ret
      exact ⟨_, rfl, HF.out⟩
end Go.Proofs.YtampnikdmgojjaaGreat.Sg
end

section
/-
  Sets of numbers (map[int]struct{}), and the program's Without.
-/
namespace Go.Proofs.YtampnikdmgojjaaGreat.Sg
open Go.RowKit Go.Maps
open Sim (hid Kp No)

/-- Numbers that an int can hold. -/
def Wf (zs : List Int) : Prop := ∀ z ∈ zs, (Lit.int .i64 z).wf = true
def keysI (zs : List Int) : List Lit := zs.map (Lit.int .i64)
def setD (zs : List Int) : DataW Unit := setOf (.agg []) (keysI zs)
/-- Block b is a set that has these numbers (repeats and all). -/
def SetAt (w : World) (b : Nat) (zs : List Int) : Prop := w.ownsMap Tryz.prog 3 (unitElem (H := Unit)) b zs.length (setD zs)
theorem SetAt.lt {w : World} {b : Nat} {zs : List Int} (h : SetAt w b zs) : b < w.heap.size := World.ownsMap.lt h
theorem SetAt.kp {L : Nat → Prop} {w w' : World} {b : Nat} {zs : List Int} (h : SetAt w b zs) (k : Kp L w w') (hb : ¬ L b) : SetAt w' b zs := by
  have hlt := h.lt
  obtain ⟨es, clock, h1, r⟩ := h
  exact ⟨es, clock, (k.block b hlt hb).trans h1, r⟩
theorem SetAt.new (w : World) : SetAt (w.alloc (.map #[] 0)) w.heap.size [] := World.ownsMap_made _ _ _ _
theorem keyedI : Keyed Tryz.prog 3 := int_keyed Tryz.underlying3
theorem keyI {z : Int} (h : (Lit.int .i64 z).wf = true) : keyOf Tryz.prog 3 (.int .i64 z) = some (.int .i64 z) := keyOf_int_mk Tryz.underlying3 h
theorem zeroU (w : World) : (zeroValue 65).run Tryz.prog w = .ok (.agg #[]) w := by kernel_rfl
theorem has_set (zs : List Int) (z : Int) : Maps.has (setD zs) (.int .i64 z) = zs.contains z := by
  rw [setD, has_setOf _ _ _ (by
    intro x hx
    obtain ⟨y, _, rfl⟩ := List.mem_map.1 hx
    trivial), keysI, List.any_map, List.contains_eq_any_beq]
  congr 1
  funext x
  rw [Bool.eq_iff_iff]
  simp [Lit.sameKey]
  exact eq_comm

section
variable (w : World) {ops : Array Oper} {rest : List Oper} {o : Oper} {a : Act} {Q : Exit → Act → World → Prop}
theorem wp_put (hg : o.guard = none) (m x v : Operand) (hop : o.op = Op.mapUpdate 115 m x v) (b : Nat) (zs : List Int) (z : Int) (hm : a.eval m = .map (some b)) (hx : a.eval x = .int .i64 z) (hv : a.eval v = .agg #[])
    (h : SetAt w b zs) (hz : (Lit.int .i64 z).wf = true) (hl : zs.length ≤ 1000000) (hK : ∀ w', SetAt w' b (zs ++ [z]) → Kp (· = b) w w' → wpList Tryz.prog ops Q rest (a.put o.dst undef) w') : wpList Tryz.prog ops Q (o :: rest) a w := by
  refine wpList_mapUpdate_in w hg m x v _ hop 3 65 keyedI Tryz.underlying115 _ b zs.length _ hm h (by unfold maxLen; omega) _ _ _ hx hv (keyI hz) _ _ unitElem_mk ?_
  intro w' r1 r2
  refine hK w' ?_ ((Kp.refl _ _).grown r2.grown (fun x hx => .inl (by simpa using hx.symm)))
  unfold SetAt setD keysI
  rw [List.length_append, List.map_append, List.map_singleton, setOf_snoc]
  exact r1
theorem wp_has (hg : o.guard = none) (m x : Operand) (hop : o.op = Op.lookup 115 m x true) (b : Nat) (zs : List Int) (z : Int) (y : Bool) (hm : a.eval m = .map (some b)) (hx : a.eval x = .int .i64 z)
    (h : SetAt w b zs) (hz : (Lit.int .i64 z).wf = true) (hy : zs.contains z = y) (hK : wpList Tryz.prog ops Q rest (a.put o.dst (.tuple #[.agg #[], .bool y])) w) : wpList Tryz.prog ops Q (o :: rest) a w := by
  refine wpList_lookup_own_unit w hg m x _ hop 3 65 keyedI Tryz.underlying115 (zeroU w) b zs.length _ hm h _ _ hx (keyI hz) ?_
  rw [has_set, hy]
  exact hK
end

end Go.Proofs.YtampnikdmgojjaaGreat.Sg
end
