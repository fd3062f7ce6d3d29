/- Of the proof: the texts ShNext, ShRecs, ShDeal, ShNeed, ShAdd, ShLayP, one behind the other. -/
import Derived.Test.YtaaioaocjfpajaaGreatDoorB12
import Derived.Test.YtaaioaocjfpajaaGreatDoorB7
import Derived.Test.YtaaioaocjfpajaaGreatDoorB11
section
/-
  Next.
-/
namespace Go.Proofs.YtaaioaocjfpajaaGreatDoor.Sh
open Go.RowKit Go.Shelf
open Sim (hid Kp No PS Done Blk nm pList OwnN Row Nm)

set_option maxHeartbeats 4000000 in
set_option maxRecDepth 100000 in
theorem next_any {P : Nat → Prop} {N : Nat} (w : World) (h s b : Nat) (n : Int) (p : PS) (hH : ShAt w h s b n) (hS : Sim.Sys P N w s p) (hV : Vars w) (hnl : ∀ n ∈ pList p, n.length ≤ 20000000) (hl : (idsP p).length ≤ 1000) (hw : IntKind.i64.wrap (maxZ (idsP p ++ [n]) + 1) = maxZ (idsP p ++ [n]) + 1) :
    Calls Tryz.prog 24 #[.pointer (some ⟨h, 0, none⟩)] w fun e w' => e = .returned (.int .i64 (maxZ (idsP p ++ [n]) + 1)) ∧ Kp No w w' := by
  have HN := hid (none_any w h s b n hH)
  have HID := hid (fun V (hV' : Kp No w V) => ids_any V h s b n p (hH.kp hV' (fun h => h)) (hS.kept hV') (Vars.kept hV hV') hnl)
  have hlt := hH.lt
  have HC2 : Hid (∀ V, Kp No w V → V.cell? ⟨h, 2, none⟩ = some (.int .i64 n)) := fun V hV => (hV.cell (p := ⟨h, 2, none⟩) hlt (fun h => h)).trans (hH.cell 2)
  have HWR := hid hw
  obtain ⟨Z, hZ⟩ : ∃ Z, idsP p = Z := ⟨_, rfl⟩
  rw [hZ] at HID HWR hl ⊢
  have hl : Z.length ≤ 100000 := by omega
  have hN1 := fun V => run_oneI n V
  clear hZ hH hS hV hnl hw
  go_enter Tryz.func24, Tryz.ntmps24
  go_wp2_with fail
  refine HN.out.mono ?_
  rintro e w0 ⟨rfl, hw0⟩
  subst w0
  clear HN
  go_wp2_with fail
  refine wp_region_held_drew (S := fun V => Kp No w V) (by kernel_rfl) ((Kp.refl _ _).drew) (fun hHeld => ?_)
  refine wpAnyH_take (i := 0) (oi := { dst := some 5, op := Op.move (Operand.tmp 0), type := 29, pos := "shelf.go:55", after := #[], guard := none }) (v := .pointer (some ⟨h, 0, none⟩)) rfl (by kernel_rfl) (by kernel_rfl) (by kernel_rfl) (fun _ _ _ h => h) (Or.inl ⟨by rfl, fun w' hw' => by (clear hw'; go_simp)⟩) hHeld ?_
  simp only [Act.put, List.setIfInBounds_toArray, List.set_cons_zero, List.set_cons_succ]
  refine wpAnyH_take (i := 2) (oi := { dst := some 7, op := Op.move (Operand.tmp 0), type := 29, pos := "shelf.go:55", after := #[], guard := none }) (v := .pointer (some ⟨h, 0, none⟩)) rfl (by kernel_rfl) (by kernel_rfl) (by kernel_rfl) (fun _ _ _ h => h) (Or.inl ⟨by rfl, fun w' hw' => by (clear hw'; go_simp)⟩) hHeld ?_
  simp only [Act.put, List.setIfInBounds_toArray, List.set_cons_zero, List.set_cons_succ]
  refine wpAnyH_take (i := 3) (oi := { dst := some 8, op := Op.nilCheck (Operand.tmp 7), type := 0, pos := "shelf.go:55", after := #[{ on := 2, ground := Ground.data }], guard := none }) (v := .pointer (some ⟨h, 0, none⟩)) rfl (by kernel_rfl) (by kernel_rfl) (by kernel_rfl) (fun _ _ _ h => h) (Or.inl ⟨by rfl, fun w' hw' => by (clear hw'; go_simp)⟩) hHeld ?_
  simp only [Act.put, List.setIfInBounds_toArray, List.set_cons_zero, List.set_cons_succ]
  refine wpAnyH_take (i := 4) (oi := { dst := some 9, op := Op.fieldAddr 87 (Operand.tmp 8) 2, type := 0, pos := "shelf.go:55", after := #[{ on := 3, ground := Ground.data }], guard := none }) (v := .pointer (some ⟨h, 2, none⟩)) rfl (by kernel_rfl) (by kernel_rfl) (by kernel_rfl) (fun _ _ _ h => h) (Or.inl ⟨by rfl, fun w' hw' => by (clear hw'; go_simp)⟩) hHeld ?_
  simp only [Act.put, List.setIfInBounds_toArray, List.set_cons_zero, List.set_cons_succ]
  refine wpAnyH_take (i := 5) (oi := { dst := some 10, op := Op.load 3 (Operand.tmp 9), type := 3, pos := "shelf.go:55", after := #[{ on := 4, ground := Ground.data }], guard := none }) (v := .int .i64 n) rfl (by kernel_rfl) (by kernel_rfl) (by kernel_rfl) (fun _ _ _ h => h) (Or.inl ⟨by rfl, fun w' hw' => by (have q0 := HC2.out w' hw'; clear hw'; go_simp)⟩) hHeld ?_
  simp only [Act.put, List.setIfInBounds_toArray, List.set_cons_zero, List.set_cons_succ]
  refine wpAnyH_ready (rs := [1, 6]) (by kernel_rfl) (by simp) ?_
  refine (AllReadyH.cons (o := { dst := some 6, op := Op.call { callee := Callee.value (Operand.func 15), args := #[Operand.tmp 5], argTypes := #[29] }, type := 23, pos := "shelf.go:55", after := #[{ on := 0, ground := Ground.data }], guard := none }) rfl (fun K hK => ?_) (AllReadyH.cons (o := { dst := some 11, op := Op.buildSlice 23 1 #[(0, Operand.tmp 10)], type := 23, pos := "shelf.go:55", after := #[{ on := 5, ground := Ground.data }], guard := none }) rfl (fun K hK => ?_) AllReadyH.nil))
  · go_simp
    refine (HID.out (w.drew) ((Kp.refl No w).drew)).mono ?_
    rintro e w1 ⟨u, rfl, hu, ho, hk⟩
    obtain ⟨a, c, rfl, _⟩ := hu.form
    have HK1 : Hid (Kp No w w1) := ((Kp.refl No w).drew).andNone hk
    have HKV : Hid (Kp No (w.drew) w1) := hk
    have HU := hid hu
    have HO : Hid (∀ x, (Value.slice a Z.length c).ownBlock = some x → w.heap.size ≤ x) := fun x hx => Nat.le_trans ((Kp.refl No w).drew).size (ho x hx)
    clear hu ho hk HID
    go_wp2_with fail
    refine hK.out _ _ (HK1.out) (fun hh => ?_)
    clear hK K hHeld
    have hHeld := hh
    clear hh
    try simp only [Act.put, List.setIfInBounds_toArray, List.set_cons_zero, List.set_cons_succ]
    refine wpAnyH_ready (rs := [6]) (by kernel_rfl) (by simp) ?_
    refine (AllReadyH.cons (o := { dst := some 11, op := Op.buildSlice 23 1 #[(0, Operand.tmp 10)], type := 23, pos := "shelf.go:55", after := #[{ on := 5, ground := Ground.data }], guard := none }) rfl (fun K hK => ?_) AllReadyH.nil)
    go_simp
    refine hK.out _ _ ((HK1.out).alloc _) (fun hh => ?_)
    clear hK K hHeld
    have hHeld := hh
    clear hh
    try simp only [Act.put, List.setIfInBounds_toArray, List.set_cons_zero, List.set_cons_succ]
    obtain ⟨ad, cap, w2, hap, hrow, hgr⟩ := app_oneI w1 (w1.alloc (.cells #[.int .i64 n] 3)) 23 (.slice a Z.length c) Z n (w1.heap.size) HU.out ((Kp.refl No w1).alloc _) (by rw [World.cell?_alloc_at _ _ _ _ rfl]; rfl) hl
    have HAP := hid hap
    have HROW := hid hrow
    have HK2 : Hid (Kp No w w2) := (HK1.out.andNone ((Kp.refl No w1).alloc _)).grown hgr (fun x hx => .inr (HO.out x hx))
    clear hap hrow hgr
    refine wpAnyH_ready (rs := [7]) (by kernel_rfl) (by simp) ?_
    refine (AllReadyH.cons (o := { dst := some 12, op := Op.call { callee := Callee.builtin Builtin.append, args := #[Operand.tmp 6, Operand.tmp 11], argTypes := #[23, 23] }, type := 23, pos := "shelf.go:55", after := #[{ on := 1, ground := Ground.data }, { on := 6, ground := Ground.data }, { on := 1, ground := Ground.chain }], guard := none }) rfl (fun K hK => ?_) AllReadyH.nil)
    refine Sg.wp_valE (Sg.exec_appE _ _ 23 (by rfl) (.slice a Z.length c) (.slice (some ⟨w1.heap.size, 0, none⟩) 1 1) _ (by rfl) (by rfl) HAP.out) ?_
    refine hK.out _ _ (HK2.out) (fun hh => ?_)
    clear hK K hHeld
    have hHeld := hh
    clear hh
    try simp only [Act.put, List.setIfInBounds_toArray, List.set_cons_zero, List.set_cons_succ]
    refine wpAnyH_ready (rs := [8]) (by kernel_rfl) (by simp) ?_
    refine (AllReadyH.cons (o := { dst := some 13, op := Op.call { callee := Callee.value (Operand.func 48), args := #[Operand.tmp 12], argTypes := #[23] }, type := 3, pos := "shelf.go:55", after := #[{ on := 7, ground := Ground.data }, { on := 7, ground := Ground.chain }], guard := none }) rfl (fun K hK => ?_) AllReadyH.nil)
    go_simp
    refine (max_any w2 _ (Z ++ [n]) HROW.out (by simp) (by simp; omega)).mono ?_
    rintro e w3 ⟨rfl, h3⟩
    subst w3
    go_wp2_with fail
    refine hK.out _ _ (HK2.out) (fun hh => ?_)
    clear hK K hHeld
    have hHeld := hh
    clear hh
    try simp only [Act.put, List.setIfInBounds_toArray, List.set_cons_zero, List.set_cons_succ]
    refine wpAnyH_take (i := 9) (oi := { dst := some 14, op := Op.binOp BinOp.add 3 (Operand.tmp 13) (Operand.const (Value.int IntKind.i64 1)) 3, type := 3, pos := "shelf.go:55", after := #[{ on := 8, ground := Ground.data }], guard := none }) (v := .int .i64 (maxZ (Z ++ [n]) + 1)) rfl (by kernel_rfl) (by kernel_rfl) (by kernel_rfl) (fun _ _ _ h => h) (Or.inl ⟨by rfl, fun w' hw' => by (have q0 := HWR.out; clear hw'; go_simp)⟩) hHeld ?_
    simp only [Act.put, List.setIfInBounds_toArray, List.set_cons_zero, List.set_cons_succ]
    refine wpAnyH_take (i := 10) (oi := { dst := some 2, op := Op.assign (Operand.tmp 14), type := 3, pos := "shelf.go:55", after := #[{ on := 9, ground := Ground.data }, { on := 8, ground := Ground.chain }, { on := 0, ground := Ground.phase }, { on := 1, ground := Ground.phase }, { on := 2, ground := Ground.phase }, { on := 3, ground := Ground.phase }, { on := 4, ground := Ground.phase }, { on := 5, ground := Ground.phase }, { on := 6, ground := Ground.phase }, { on := 7, ground := Ground.phase }, { on := 8, ground := Ground.phase }, { on := 9, ground := Ground.phase }], guard := none }) (v := .int .i64 (maxZ (Z ++ [n]) + 1)) rfl (by kernel_rfl) (by kernel_rfl) (by kernel_rfl) (fun _ _ _ h => h) (Or.inl ⟨by rfl, fun w' hw' => by (clear hw'; go_simp)⟩) hHeld ?_
    simp only [Act.put, List.setIfInBounds_toArray, List.set_cons_zero, List.set_cons_succ]
    refine wpAnyH_done (by kernel_rfl) ?_ _
    clear hHeld
    go_wp2_with fail
    go_ret
    exact ⟨rfl, HK2.out⟩
  · go_simp
    refine hK.out _ _ (((Kp.refl No w).drew).alloc _) (fun hh => ?_)
    clear hK K hHeld
    have hHeld := hh
    clear hh
    try simp only [Act.put, List.setIfInBounds_toArray, List.set_cons_zero, List.set_cons_succ]
    refine wpAnyH_ready (rs := [1]) (by kernel_rfl) (by simp) ?_
    refine (AllReadyH.cons (o := { dst := some 6, op := Op.call { callee := Callee.value (Operand.func 15), args := #[Operand.tmp 5], argTypes := #[29] }, type := 23, pos := "shelf.go:55", after := #[{ on := 0, ground := Ground.data }], guard := none }) rfl (fun K hK => ?_) AllReadyH.nil)
    go_simp
    refine (HID.out (w.drew.alloc (.cells #[.int .i64 n] 3)) (((Kp.refl No w).drew).alloc _)).mono ?_
    rintro e w1 ⟨u, rfl, hu, ho, hk⟩
    obtain ⟨a, c, rfl, _⟩ := hu.form
    have HK1 : Hid (Kp No w w1) := (((Kp.refl No w).drew).alloc _).andNone hk
    have HKV : Hid (Kp No (w.drew.alloc (.cells #[.int .i64 n] 3)) w1) := hk
    have HU := hid hu
    have HO : Hid (∀ x, (Value.slice a Z.length c).ownBlock = some x → w.heap.size ≤ x) := fun x hx => Nat.le_trans (((Kp.refl No w).drew).alloc _).size (ho x hx)
    clear hu ho hk HID
    go_wp2_with fail
    refine hK.out _ _ (HK1.out) (fun hh => ?_)
    clear hK K hHeld
    have hHeld := hh
    clear hh
    try simp only [Act.put, List.setIfInBounds_toArray, List.set_cons_zero, List.set_cons_succ]
    obtain ⟨ad, cap, w2, hap, hrow, hgr⟩ := app_oneI w1 (w1) 23 (.slice a Z.length c) Z n (w.heap.size) HU.out (Kp.refl No w1) ((HKV.out.cell (p := ⟨w.heap.size, 0, none⟩) (by simp) (fun h => h)).trans (by have e : w.drew.heap.size = w.heap.size := rfl; rw [← e, World.cell?_alloc_at _ _ _ _ rfl]; rfl)) hl
    have HAP := hid hap
    have HROW := hid hrow
    have HK2 : Hid (Kp No w w2) := (HK1.out.andNone (Kp.refl No w1)).grown hgr (fun x hx => .inr (HO.out x hx))
    clear hap hrow hgr
    refine wpAnyH_ready (rs := [7]) (by kernel_rfl) (by simp) ?_
    refine (AllReadyH.cons (o := { dst := some 12, op := Op.call { callee := Callee.builtin Builtin.append, args := #[Operand.tmp 6, Operand.tmp 11], argTypes := #[23, 23] }, type := 23, pos := "shelf.go:55", after := #[{ on := 1, ground := Ground.data }, { on := 6, ground := Ground.data }, { on := 1, ground := Ground.chain }], guard := none }) rfl (fun K hK => ?_) AllReadyH.nil)
    refine Sg.wp_valE (Sg.exec_appE _ _ 23 (by rfl) (.slice a Z.length c) (.slice (some ⟨w.heap.size, 0, none⟩) 1 1) _ (by rfl) (by rfl) HAP.out) ?_
    refine hK.out _ _ (HK2.out) (fun hh => ?_)
    clear hK K hHeld
    have hHeld := hh
    clear hh
    try simp only [Act.put, List.setIfInBounds_toArray, List.set_cons_zero, List.set_cons_succ]
    refine wpAnyH_ready (rs := [8]) (by kernel_rfl) (by simp) ?_
    refine (AllReadyH.cons (o := { dst := some 13, op := Op.call { callee := Callee.value (Operand.func 48), args := #[Operand.tmp 12], argTypes := #[23] }, type := 3, pos := "shelf.go:55", after := #[{ on := 7, ground := Ground.data }, { on := 7, ground := Ground.chain }], guard := none }) rfl (fun K hK => ?_) AllReadyH.nil)
    go_simp
    refine (max_any w2 _ (Z ++ [n]) HROW.out (by simp) (by simp; omega)).mono ?_
    rintro e w3 ⟨rfl, h3⟩
    subst w3
    go_wp2_with fail
    refine hK.out _ _ (HK2.out) (fun hh => ?_)
    clear hK K hHeld
    have hHeld := hh
    clear hh
    try simp only [Act.put, List.setIfInBounds_toArray, List.set_cons_zero, List.set_cons_succ]
    refine wpAnyH_take (i := 9) (oi := { dst := some 14, op := Op.binOp BinOp.add 3 (Operand.tmp 13) (Operand.const (Value.int IntKind.i64 1)) 3, type := 3, pos := "shelf.go:55", after := #[{ on := 8, ground := Ground.data }], guard := none }) (v := .int .i64 (maxZ (Z ++ [n]) + 1)) rfl (by kernel_rfl) (by kernel_rfl) (by kernel_rfl) (fun _ _ _ h => h) (Or.inl ⟨by rfl, fun w' hw' => by (have q0 := HWR.out; clear hw'; go_simp)⟩) hHeld ?_
    simp only [Act.put, List.setIfInBounds_toArray, List.set_cons_zero, List.set_cons_succ]
    refine wpAnyH_take (i := 10) (oi := { dst := some 2, op := Op.assign (Operand.tmp 14), type := 3, pos := "shelf.go:55", after := #[{ on := 9, ground := Ground.data }, { on := 8, ground := Ground.chain }, { on := 0, ground := Ground.phase }, { on := 1, ground := Ground.phase }, { on := 2, ground := Ground.phase }, { on := 3, ground := Ground.phase }, { on := 4, ground := Ground.phase }, { on := 5, ground := Ground.phase }, { on := 6, ground := Ground.phase }, { on := 7, ground := Ground.phase }, { on := 8, ground := Ground.phase }, { on := 9, ground := Ground.phase }], guard := none }) (v := .int .i64 (maxZ (Z ++ [n]) + 1)) rfl (by kernel_rfl) (by kernel_rfl) (by kernel_rfl) (fun _ _ _ h => h) (Or.inl ⟨by rfl, fun w' hw' => by (clear hw'; go_simp)⟩) hHeld ?_
    simp only [Act.put, List.setIfInBounds_toArray, List.set_cons_zero, List.set_cons_succ]
    refine wpAnyH_done (by kernel_rfl) ?_ _
    clear hHeld
    go_wp2_with fail
    go_ret
    exact ⟨rfl, HK2.out⟩

end Go.Proofs.YtaaioaocjfpajaaGreatDoor.Sh
end

section
/-
  Records in memory, as a shelf is given them; what is wrong with them.
-/
namespace Go.Proofs.YtaaioaocjfpajaaGreatDoor.Sh
open Go.RowKit Go.Shelf
open Tlv (BySlS)
open Sim (hid Kp No PS Done Blk nm)

/-- Records that are read: in blocks of which S. -/
def RV (S : Nat → Prop) (w : World) (v : Value) (zs : List El) : Prop :=
  ∃ a c, v = .slice a zs.length c ∧ zs.length ≤ c ∧ c ≤ maxLen ∧ (a = none → zs = [] ∧ c = 0) ∧ (∀ z ∈ zs, elOk z ∧ BySlS (fun g => S g ∧ g < w.heap.size) w (elV z) z.1.2.2) ∧
    (zs ≠ [] → ∃ g o, a = some ⟨g, o, none⟩ ∧ S g ∧ g < w.heap.size ∧ ∀ i z, zs[i]? = some z → w.rangeAt g (o + i * 34) (elC z))

theorem RV.kp {S L : Nat → Prop} {w w' : World} {v : Value} {zs : List El} (h : RV S w v zs) (k : Kp L w w') (hS : ∀ g, S g → ¬ L g) : RV S w' v zs := by
  obtain ⟨a, c, rfl, h1, h2, h3, h4, h5⟩ := h
  refine ⟨a, c, rfl, h1, h2, h3, fun z hz => ⟨(h4 z hz).1, (h4 z hz).2.agree (fun g hg => k.block g hg.2 (hS g hg.1)) (fun g hg => ⟨hg.1, Nat.lt_of_lt_of_le hg.2 k.size⟩)⟩, fun hne => ?_⟩
  obtain ⟨g, o, rfl, hg, hl, hr⟩ := h5 hne
  exact ⟨g, o, rfl, hg, Nat.lt_of_lt_of_le hl k.size, fun i z hz j u hu => (k.cell (p := ⟨g, _, none⟩) hl (hS g hg)).trans (hr i z hz j u hu)⟩
theorem RV.kept {S : Nat → Prop} {w w' : World} {v : Value} {zs : List El} (h : RV S w v zs) (k : Kp No w w') : RV S w' v zs := h.kp k (fun _ _ hx => hx)

/-- A part of them. -/
theorem RV.mid {S : Nat → Prop} {w : World} {g o n c : Nat} {zs : List El} (h : RV S w (.slice (some ⟨g, o, none⟩) n c) zs) (i j : Nat) (hij : i ≤ j) (hj : j ≤ zs.length) : RV S w (.slice (some ⟨g, o + i * 34, none⟩) (j - i) (c - i)) ((zs.take j).drop i) := by
  obtain ⟨a, c', e, h1, h2, h3, h4, h5⟩ := h
  simp only [Value.slice.injEq] at e
  obtain ⟨rfl, rfl, rfl⟩ := e
  have hl : ((zs.take j).drop i).length = j - i := by rw [List.length_drop, List.length_take]; omega
  refine ⟨_, c - i, by rw [hl], by rw [hl]; omega, by unfold maxLen at *; omega, by simp, fun z hz => h4 z (List.mem_of_mem_take (List.mem_of_mem_drop hz)), fun hne => ?_⟩
  have hne' : zs ≠ [] := fun e => by rw [e] at hne; simp at hne
  obtain ⟨g', o', e, hg, hlt, hr⟩ := h5 hne'
  simp only [Option.some.injEq, Addr.mk.injEq, and_true] at e
  obtain ⟨rfl, rfl⟩ := e
  refine ⟨g, o + i * 34, rfl, hg, hlt, fun k z hz => ?_⟩
  rw [List.getElem?_drop] at hz
  have hz' : zs[i + k]? = some z := by
    have hk := (List.getElem?_eq_some_iff.1 hz).1
    rw [List.length_take] at hk
    rwa [List.getElem?_take_of_lt (by omega)] at hz
  have := hr (i + k) z hz'
  rw [show o + i * 34 + k * 34 = o + (i + k) * 34 by omega]
  exact this

def okR (z : El) : Bool := rightB z.1.1 z.1.2.2.length
/-- What is wrong with records: BadArg, or nothing. -/
def wrongF (zs : List El) : Nat := if zs.all okR then 0 else 1

theorem box34 (w : World) (A : Array Value) (cx : List Value) (hA : A.size = 34) (hc : cx.length = 34) : ∀ V, Kp No ((w.alloc (.cells A 56)).setCells w.heap.size 0 cx) V → V.rangeAt w.heap.size 0 cx ∧ Kp No w V := fun V hV => by
  have hs : w.heap.size < ((w.alloc (.cells A 56)).setCells w.heap.size 0 cx).heap.size := Nat.lt_of_lt_of_le (by simp) (Sg.setCells_kp _ _ _ _).size
  refine ⟨fun j v hv => (hV.cell (p := ⟨w.heap.size, _, none⟩) hs (fun x => x)).trans ((World.rangeAt_setCells_same _ _ _ _ (Sg.thereE w A _ _ (by omega))) j v hv), ?_⟩
  exact (((Kp.refl No w).alloc _).trans (Sg.setCells_kp _ w.heap.size 0 cx) (fun x hx => .inr (by omega))).trans hV (fun x hx => .inl hx)

theorem size_any (z : El) (w : World) (hz : elOk z) (hb : Tlv.BySl 0 w.heap.size w (elV z) z.1.2.2) (hr : okR z = true) :
    Calls Tryz.prog 44 #[.agg (elC z).toArray] w fun e w' => e = .returned (.int .i64 ((49 + z.1.2.2.length : Nat) : Int)) ∧ Below w.heap.size w w' :=
  size_yes z.1.1 z.1.2.1 z.1.2.2 (elV z) w hb (right_of hr hz.1 hz.2 hb.bytes)

set_option maxHeartbeats 4000000 in
set_option maxRecDepth 100000 in
theorem wrong_any {S : Nat → Prop} (w : World) (v : Value) (zs : List El) (hv : RV S w v zs) (hl : zs.length ≤ 1000000) :
    Calls Tryz.prog 51 #[v] w fun e w' => e = .returned (.int .i64 (wrongF zs : Nat)) ∧ Kp No w w' := by
  have HV := hid hv
  obtain ⟨a, c, rfl, _⟩ := hv
  obtain ⟨n, hn⟩ : ∃ n, zs.length = n := ⟨_, rfl⟩
  have HN := hid hn
  rw [hn] at HV hl ⊢
  obtain ⟨F, hF⟩ : ∃ F, wrongF zs = F := ⟨_, rfl⟩
  have HF := hid hF
  rw [hF]
  have hz35 := zero35
  obtain ⟨Z, hZ⟩ : ∃ Z, zRec = Z := ⟨_, rfl⟩
  have HZL : Hid (Z.length = 34) := by rw [← hZ]; rfl
  rw [hZ] at hz35
  clear hn hF hZ
  go_enter Tryz.func51, Tryz.ntmps51
  go_wp2_with fail
  go_loopw [3, 8] (fun f i wr => ∃ k : Nat, k ≤ n ∧ i = .int .i64 (k : Int) ∧ f = .int .i64 0 ∧ Hid ((zs.take k).all okR = true ∧ Kp No w wr)) (fun _ i _ => n - (intOf i).toNat)
  case atStart => exact ⟨0, Nat.zero_le _, rfl, rfl, by simp, Kp.refl _ _⟩
  case round =>
    obtain ⟨k, hk, rfl, rfl, HS⟩ := hrel
    by_cases hlt : k < n
    · have hltI : (k : Int) < (n : Int) := by omega
      obtain ⟨z, hz⟩ : ∃ z, zs[k]? = some z := ⟨_, List.getElem?_eq_getElem (by rw [HN.out]; exact hlt)⟩
      have hvr := HV.out.kept HS.out.2
      obtain ⟨a', c', e', h1, h2, h3, h4, h5⟩ := id hvr
      simp only [Value.slice.injEq] at e'
      obtain ⟨rfl, en, rfl⟩ := e'
      obtain ⟨g, o, rfl, _, hgl, hrg⟩ := h5 (fun e => by rw [e] at hz; simp at hz)
      have HRG := hid (hrg k z hz)
      obtain ⟨hzo, hzb⟩ := h4 z (List.mem_of_getElem? hz)
      have HZ := hid (And.intro hz (And.intro hzo hzb))
      have hcl := elC_length hzo
      have HRT := hid (fun V => right13_any (elC z) z.1.1 z.2.1 z.1.2.2.length z.2.2 V (recA_0 _ _ _) (recA_33 _ _ _ hzo.1))
      have HSZ := hid (fun V (hV : Kp No wr V) (hr : okR z = true) => size_any z V hzo ((hzb.agree (fun g hg => hV.block g hg.2 (fun h => h)) (fun g hg => (⟨trivial, Nat.lt_of_lt_of_le hg.2 hV.size⟩ : True ∧ g < V.heap.size))).to (fun g hg => hg.2)) hr)
      have HO1 : Hid ((elC z).toArray.all (·.oneCell') = true) := all_oneCell_toArray (elC_one z)
      obtain ⟨cx, hcx⟩ : ∃ cx, elC z = cx := ⟨_, rfl⟩
      rw [hcx] at HRG HRT HSZ HO1 hcl
      have HI : Hid ((Tryz.prog.info? 56).map (·.size) = some cx.length) := by rw [Hid, hcl]; exact Tryz.info35
      have hbnd : n ≤ c := by have := HN.out; omega
      clear en hz hvr h1 h2 h3 h4 h5 hrg hzo hzb hcx
      go_wp2_with (first
        | (refine wpList_load_mid (by rfl) 56 _ (by rfl) g (o + k * 34) (by rfl) cx _ HRG.out Tryz.underlying56 rfl HI.out ?_)
        | (refine Sg.wpList_store_box (fun W => ∀ V, Kp No W V → V.rangeAt wr.heap.size 0 cx ∧ Kp No wr V) (by rfl) 56 _ _ (by rfl) wr.heap.size 0 cx.toArray (by rfl) (by rfl) (Sg.thereE wr _ _ _ (by rw [List.size_toArray, hcl, List.size_toArray, HZL.out]; exact Nat.le_refl _)) HI.out HO1.out (box34 wr _ cx (by rw [List.size_toArray, HZL.out]) hcl) ?_; intro W1 hW1; have HW1 := hid hW1; clear hW1)
        | (refine wpList_load_mid (by rfl) 56 _ (by rfl) wr.heap.size 0 (by rfl) cx _ (HW1.out _ (Kp.refl _ _)).1 Tryz.underlying56 rfl HI.out ?_))
      refine (HRT.out W1).mono ?_
      rintro e w2 ⟨rfl, hB⟩
      have HK2 : Hid (Kp No W1 w2) := Kp.below hB
      clear hB HRT
      by_cases hok : okR z = true
      · have hok' : rightB z.1.1 z.1.2.2.length = true := hok
        have hbz : z.1.2.2.length ≤ 5000 := by
          have := hok'
          unfold rightB at this
          simp at this
          omega
        have HOK := hid hok
        generalize z.1.2.2.length = m at *
        rw [hok']
        clear hok hok'
        have hmI : ¬ ((12000 : Int) < ((49 + m : Nat) : Int)) := by omega
        go_wp2_with (refine wpList_load_mid (by rfl) 56 _ (by rfl) wr.heap.size 0 (by rfl) cx _ (HW1.out _ HK2.out).1 Tryz.underlying56 rfl HI.out ?_)
        refine (HSZ.out w2 (HW1.out _ HK2.out).2 HOK.out).mono ?_
        rintro e w3 ⟨rfl, hB⟩
        have HK3 : Hid (Kp No w2 w3) := Kp.below hB
        clear hB HSZ
        go_wp2_with fail
        trace_state
        refine ⟨⟨k + 1, by omega, by go_num, rfl, ?_⟩, by simp [intOf]; omega⟩
        refine ⟨?_, (HS.out.2.trans (HW1.out _ HK2.out).2 (fun x hx => .inl hx)).trans HK3.out (fun x hx => .inl hx)⟩
        rw [List.take_add_one, HZ.out.1, List.all_append, HS.out.1]
        simpa using HOK.out
      · have hok' : rightB z.1.1 z.1.2.2.length = false := by simpa [okR] using hok
        have HF1 : Hid (F = 1) := by
          rw [Hid, ← HF.out, wrongF, if_neg]
          intro h
          exact hok (List.all_eq_true.1 h z (List.mem_of_getElem? HZ.out.1))
        rw [hok']
        clear hok hok' HSZ
        go_wp2_with fail
        go_ret
        exact ⟨by rw [HF1.out]; rfl, (HS.out.2.trans (HW1.out _ HK2.out).2 (fun x hx => .inl hx))⟩
    · have hltI : ¬ (k : Int) < (n : Int) := by omega
      have hkn : k = n := by omega
      subst hkn
      go_wp2_with fail
      go_ret
      have h := HS.out
      rw [← HN.out, List.take_length] at h
      exact ⟨by rw [← HF.out, wrongF, if_pos h.1]; rfl, h.2⟩

end Go.Proofs.YtaaioaocjfpajaaGreatDoor.Sh
end

section
/-
  deal: records handed out, pack by pack.
-/
namespace Go.Proofs.YtaaioaocjfpajaaGreatDoor.Sh
open Go.RowKit Go.Shelf
open Tlv (BySlS)
open Sim (hid Kp No PS Done Blk nm)

/-- How many bytes a record's frame has; many records' frames. -/
def szE (z : El) : Nat := 49 + z.1.2.2.length
def szs (zs : List El) : Nat := (zs.map szE).sum
/-- One record more: the parts that are handed out, and the part under way. -/
def dlStep (s : List (List El) × List El) (z : El) : List (List El) × List El := if szs s.2 + szE z ≤ 12000 then (s.1, s.2 ++ [z]) else (s.1 ++ [s.2], [z])
def dl (zs : List El) : List (List El) × List El := zs.foldl dlStep ([], [])
/-- All parts. -/
def parts (zs : List El) : List (List El) := if (dl zs).2 = [] then (dl zs).1 else (dl zs).1 ++ [(dl zs).2]

theorem szs_snoc (zs : List El) (z : El) : szs (zs ++ [z]) = szs zs + szE z := by simp [szs]
theorem dl_snoc (zs : List El) (z : El) : dl (zs ++ [z]) = dlStep (dl zs) z := by simp [dl]
theorem list_snoc {α : Type} {p : List α → Prop} (zs : List α) (h0 : p []) (hs : ∀ zs z, p zs → p (zs ++ [z])) : p zs := by
  suffices ∀ n, ∀ zs : List α, zs.length = n → p zs from this _ zs rfl
  intro n
  induction n with
  | zero => intro zs h; rw [List.length_eq_zero_iff] at h; rw [h]; exact h0
  | succ n ih =>
    intro zs h
    have hne : zs ≠ [] := fun e => by rw [e] at h; simp at h
    rw [← List.dropLast_concat_getLast hne]
    exact hs _ _ (ih _ (by rw [List.length_dropLast]; omega))
theorem dl_flat (zs : List El) : (dl zs).1.flatten ++ (dl zs).2 = zs := by
  refine list_snoc (p := fun zs => (dl zs).1.flatten ++ (dl zs).2 = zs) zs rfl (fun zs z h => ?_)
  rw [dl_snoc, dlStep]
  split
  · rw [← List.append_assoc, h]
  · rw [List.flatten_append, List.flatten_singleton, h]
theorem dl_ne (zs : List El) (h : zs ≠ []) : (dl zs).2 ≠ [] := by
  revert h
  refine list_snoc (p := fun zs => zs ≠ [] → (dl zs).2 ≠ []) zs (fun h => absurd rfl h) (fun zs z _ _ => ?_)
  rw [dl_snoc, dlStep]
  split <;> simp
theorem dl_pre (xs ys : List El) : ∃ r, (dl (xs ++ ys)).1 = (dl xs).1 ++ r := by
  refine list_snoc (p := fun ys => ∃ r, (dl (xs ++ ys)).1 = (dl xs).1 ++ r) ys ⟨[], by simp⟩ (fun ys z h => ?_)
  obtain ⟨r, hr⟩ := h
  rw [← List.append_assoc, dl_snoc, dlStep]
  split
  · exact ⟨r, hr⟩
  · exact ⟨r ++ [(dl (xs ++ ys)).2], by show (dl (xs ++ ys)).1 ++ _ = _; rw [hr, List.append_assoc]⟩
theorem parts_pre (zs : List El) : ∃ r, parts zs = (dl zs).1 ++ r := by
  unfold parts
  split
  · exact ⟨[], by simp⟩
  · exact ⟨_, rfl⟩
theorem parts_flat (zs : List El) : (parts zs).flatten = zs := by
  have h := dl_flat zs
  unfold parts
  split
  · rename_i e
    rwa [e, List.append_nil] at h
  · rwa [List.flatten_append, List.flatten_singleton]
/-- A part that is handed out is one of all. -/
theorem dl_next {zs : List El} {k : Nat} {z : El} (hz : zs[k]? = some z) (hs : ¬ szs (dl (zs.take k)).2 + szE z ≤ 12000) : ∃ r, parts zs = (dl (zs.take k)).1 ++ (dl (zs.take k)).2 :: r := by
  obtain ⟨r1, h1⟩ := parts_pre zs
  obtain ⟨r2, h2⟩ := dl_pre (zs.take (k + 1)) (zs.drop (k + 1))
  rw [List.take_append_drop] at h2
  have e : dl (zs.take (k + 1)) = ((dl (zs.take k)).1 ++ [(dl (zs.take k)).2], [z]) := by
    rw [List.take_add_one, hz]
    show dl (zs.take k ++ [z]) = _
    rw [dl_snoc, dlStep, if_neg hs]
  refine ⟨r2 ++ r1, ?_⟩
  rw [h1, h2, e]
  simp
theorem okR_sz {z : El} (h : okR z = true) : szE z ≤ 5049 := by
  have h' : rightB z.1.1 z.1.2.2.length = true := h
  unfold rightB at h'
  simp at h'
  unfold szE
  omega

/-- One that takes parts: T holds of those that it took, E of a fault. -/
structure Taker (f : FuncId) (caps : Array Value) (zs : List El) (S L : Nat → Prop) (n0 : Nat) (T : World → List (List El) → Prop) (E : World → List (List El) → Nat → Prop) : Prop where
  ent : ∀ args w, (callFunc f args).run Tryz.prog w = .ok (.enter f args) w
  keep : ∀ w w' ps, T w ps → Kp No w w' → T w' ps
  tell : ∀ w ps p v, T w ps → n0 ≤ w.heap.size → RV S w v p → p ≠ [] → p.all okR = true → szs p ≤ 12000 → (∃ r, parts zs = ps ++ p :: r) →
    Calls Tryz.prog f (#[v, .int .i64 ((szs p : Nat) : Int)] ++ caps) w fun e w' => ∃ φ : Nat, e = .returned (.int .i64 (φ : Int)) ∧ Kp (fun y => L y ∨ n0 ≤ y) w w' ∧ (φ = 0 → T w' (ps ++ [p])) ∧ (φ ≠ 0 → E w' ps φ)

/-- Where it stands behind k records: F of them are handed out, the others have s bytes. -/
def DI (T : World → List (List El) → Prop) (L : Nat → Prop) (w : World) (zs : List El) (k F s : Nat) (wr : World) : Prop :=
  (dl (zs.take k)).1.flatten.length = F ∧ szs (dl (zs.take k)).2 = s ∧ T wr (dl (zs.take k)).1 ∧ Kp (fun y => L y ∨ w.heap.size ≤ y) w wr

theorem DI.cur {T : World → List (List El) → Prop} {L : Nat → Prop} {w wr : World} {zs : List El} {k F s : Nat} (h : DI T L w zs k F s wr) : (dl (zs.take k)).2 = (zs.take k).drop F := by
  have := congrArg (List.drop F) (dl_flat (zs.take k))
  rw [← this, ← h.1, List.drop_left]
theorem DI.yes {T : World → List (List El) → Prop} {L : Nat → Prop} {w wr w' : World} {zs : List El} {k F s : Nat} {z : El} (h : DI T L w zs k F s wr) (hz : zs[k]? = some z) (hs : s + szE z ≤ 12000) (hT : T w' (dl (zs.take k)).1) (hk : Kp No wr w') : DI T L w zs (k + 1) F (s + szE z) w' := by
  have e : dl (zs.take (k + 1)) = ((dl (zs.take k)).1, (dl (zs.take k)).2 ++ [z]) := by
    rw [List.take_add_one, hz]
    show dl (zs.take k ++ [z]) = _
    rw [dl_snoc, dlStep, if_pos (by rw [h.2.1]; exact hs)]
  refine ⟨by rw [e]; exact h.1, by rw [e, szs_snoc, h.2.1], by rw [e]; exact hT, h.2.2.2.trans hk (fun x hx => False.elim hx)⟩
theorem DI.no {T : World → List (List El) → Prop} {L : Nat → Prop} {w wr w' : World} {zs : List El} {k F s : Nat} {z : El} (h : DI T L w zs k F s wr) (hk : k ≤ zs.length) (hz : zs[k]? = some z) (hs : ¬ s + szE z ≤ 12000) (hT : T w' ((dl (zs.take k)).1 ++ [(dl (zs.take k)).2])) (hkp : Kp (fun y => L y ∨ w.heap.size ≤ y) w w') : DI T L w zs (k + 1) k (szE z) w' := by
  have e : dl (zs.take (k + 1)) = ((dl (zs.take k)).1 ++ [(dl (zs.take k)).2], [z]) := by
    rw [List.take_add_one, hz]
    show dl (zs.take k ++ [z]) = _
    rw [dl_snoc, dlStep, if_neg (by rw [h.2.1]; exact hs)]
  refine ⟨?_, by rw [e]; simp [szs], by rw [e]; exact hT, hkp⟩
  rw [e, List.flatten_append, List.flatten_singleton, dl_flat, List.length_take]
  omega

set_option maxHeartbeats 4000000 in
set_option maxRecDepth 100000 in
theorem deal_any {f : FuncId} {caps : Array Value} {S L : Nat → Prop} {T : World → List (List El) → Prop} {E : World → List (List El) → Nat → Prop} (w : World) (v : Value) (zs : List El) (ht : Taker f caps zs S L w.heap.size T E) (hT : T w []) (hv : RV S w v zs) (hSL : ∀ g, S g → ¬ (L g ∨ w.heap.size ≤ g)) (hok : zs.all okR = true) (hl : zs.length ≤ 1000000) :
    Calls Tryz.prog 28 #[v, .func (.func f) #[] caps] w fun e w' => ∃ φ : Nat, e = .returned (.int .i64 (φ : Int)) ∧ Kp (fun y => L y ∨ w.heap.size ≤ y) w w' ∧ (φ = 0 → T w' (parts zs)) ∧ (φ ≠ 0 → ∃ ps, E w' ps φ) := by
  have HV := hid hv
  have HT := hid ht
  have HSL := hid hSL
  have HOK := hid (List.all_eq_true.1 hok)
  have H0 : Hid (DI T L w zs 0 0 0 w) := ⟨rfl, rfl, hT, Kp.refl _ _⟩
  obtain ⟨a, c, rfl, h1, h2, h3, _⟩ := hv
  have HA := hid h3
  obtain ⟨n, hn⟩ : ∃ n, zs.length = n := ⟨_, rfl⟩
  have HN := hid hn
  rw [hn] at HV hl h1 ⊢
  have hz35 := zero35
  obtain ⟨Z, hZ⟩ : ∃ Z, zRec = Z := ⟨_, rfl⟩
  have HZL : Hid (Z.length = 34) := by rw [← hZ]; rfl
  rw [hZ] at hz35
  clear hn hZ ht hT hSL hok h3
  unfold maxLen at h2
  go_enter Tryz.func28, Tryz.ntmps28
  go_wp2_with fail
  go_loopw [5, 6, 13] (fun vf vs i wr => ∃ k F s : Nat, k ≤ n ∧ F ≤ k ∧ s ≤ 12000 ∧ i = .int .i64 (k : Int) ∧ vf = .int .i64 (F : Int) ∧ vs = .int .i64 (s : Int) ∧ Hid (DI T L w zs k F s wr)) (fun _ _ i _ => n - (intOf i).toNat)
  case atStart => exact ⟨0, 0, 0, Nat.zero_le _, Nat.le_refl _, Nat.zero_le _, rfl, rfl, rfl, H0.out⟩
  case round =>
    clear H0
    obtain ⟨k, F, s, hk, hFk, hs, rfl, rfl, rfl, HS⟩ := hrel
    by_cases hlt : k < n
    · have hltI : (k : Int) < (n : Int) := by omega
      obtain ⟨z, hz⟩ : ∃ z, zs[k]? = some z := ⟨_, List.getElem?_eq_getElem (by rw [HN.out]; exact hlt)⟩
      have hzk := HOK.out z (List.mem_of_getElem? hz)
      have hvr := HV.out.kp HS.out.2.2.2 HSL.out
      obtain ⟨a', c', e', h1', h2', h3, h4, h5⟩ := id hvr
      simp only [Value.slice.injEq] at e'
      obtain ⟨rfl, en, rfl⟩ := e'
      obtain ⟨g, o, rfl, _, hgl, hrg⟩ := h5 (fun e => by rw [e] at hz; simp at hz)
      have HRG := hid (hrg k z hz)
      obtain ⟨hzo, hzb⟩ := h4 z (List.mem_of_getElem? hz)
      have HZ := hid hz
      have hcl := elC_length hzo
      have HSZ := hid (fun V (hV : Kp No wr V) => size_any z V hzo ((hzb.agree (fun g hg => hV.block g hg.2 (fun h => h)) (fun g hg => (⟨trivial, Nat.lt_of_lt_of_le hg.2 hV.size⟩ : True ∧ g < V.heap.size))).to (fun g hg => hg.2)) hzk)
      have HO1 : Hid ((elC z).toArray.all (·.oneCell') = true) := all_oneCell_toArray (elC_one z)
      have hsz := okR_sz hzk
      have HM : Hid (49 + z.1.2.2.length = szE z) := rfl
      rw [HM.out] at HSZ
      obtain ⟨m, hm⟩ : ∃ m, szE z = m := ⟨_, rfl⟩
      have HME := hid hm
      rw [hm] at HSZ hsz
      obtain ⟨cx, hcx⟩ : ∃ cx, elC z = cx := ⟨_, rfl⟩
      rw [hcx] at HRG HSZ HO1 hcl
      have HI : Hid ((Tryz.prog.info? 56).map (·.size) = some cx.length) := by rw [Hid, hcl]; exact Tryz.info35
      clear en hz hvr h1' h2' h3 h4 h5 hrg hzo hzb hcx hzk HM hm
      go_wp2_with (first
        | (refine wpList_load_mid (by rfl) 56 _ (by rfl) g (o + k * 34) (by rfl) cx _ HRG.out Tryz.underlying56 rfl HI.out ?_)
        | (refine Sg.wpList_store_box (fun W => ∀ V, Kp No W V → V.rangeAt wr.heap.size 0 cx ∧ Kp No wr V) (by rfl) 56 _ _ (by rfl) wr.heap.size 0 cx.toArray (by rfl) (by rfl) (Sg.thereE wr _ _ _ (by rw [List.size_toArray, hcl, List.size_toArray, HZL.out]; exact Nat.le_refl _)) HI.out HO1.out (box34 wr _ cx (by rw [List.size_toArray, HZL.out]) hcl) ?_; intro W1 hW1; have HW1 := hid hW1; clear hW1)
        | (refine wpList_load_mid (by rfl) 56 _ (by rfl) wr.heap.size 0 (by rfl) cx _ (HW1.out _ (Kp.refl _ _)).1 Tryz.underlying56 rfl HI.out ?_))
      refine (HSZ.out W1 (HW1.out _ (Kp.refl _ _)).2).mono ?_
      rintro e w2 ⟨rfl, hB⟩
      have HK2 : Hid (Kp No wr w2) := (HW1.out _ (Kp.below hB)).2
      clear hB HSZ HW1 HRG HO1 HI
      by_cases hsm : s + m ≤ 12000
      · have hsmI : (s : Int) + (m : Int) ≤ 12000 := by omega
        go_wp2_with fail
        refine ⟨⟨k + 1, F, s + m, by omega, by omega, by omega, by go_num, rfl, by go_num, ?_⟩, by simp [intOf]; omega⟩
        have := HS.out.yes HZ.out (by rw [HME.out]; exact hsm) (HT.out.keep _ _ _ HS.out.2.2.1 HK2.out) HK2.out
        rwa [HME.out] at this
      · have hsmI : (12000 : Int) < (s : Int) + (m : Int) := by omega
        have HP : Hid (RV S w2 (.slice (some ⟨g, o + F * 34, none⟩) (k - F) (c - F)) (dl (zs.take k)).2) := by
          have := (RV.mid (HV.out.kp HS.out.2.2.2 HSL.out) F k hFk (by rw [HN.out]; exact hk)).kept HK2.out
          rwa [← HS.out.cur] at this
        have HTL := hid (HT.out.tell w2 _ _ _ (HT.out.keep _ _ _ HS.out.2.2.1 HK2.out) (Nat.le_trans HS.out.2.2.2.size HK2.out.size) HP.out (by
          intro e
          have := HS.out.2.1
          rw [e] at this
          simp [szs] at this
          omega) (by
          rw [HS.out.cur, List.all_eq_true]
          exact fun x hx => HOK.out x (List.mem_of_mem_take (List.mem_of_mem_drop hx))) (by rw [HS.out.2.1]; exact hs) (dl_next HZ.out (by rw [HS.out.2.1, HME.out]; exact hsm)))
        rw [HS.out.2.1] at HTL
        have hent := HT.out.ent
        have hFc : F ≤ c := by omega
        have hkc : k ≤ c := by omega
        go_wp2_with fail
        refine HTL.out.mono ?_
        rintro e w3 ⟨φ, rfl, hk3, hy, hno⟩
        have HK3 : Hid (Kp (fun y => L y ∨ w.heap.size ≤ y) w w3) := (HS.out.2.2.2.trans HK2.out (fun x hx => False.elim hx)).trans hk3 (fun x hx => .inl hx)
        have HY := hid hy
        have HNO := hid hno
        clear HTL hk3 hy hno HP hent
        by_cases hφ : φ = 0
        · subst hφ
          go_wp2_with fail
          refine ⟨⟨k + 1, k, m, by omega, by omega, by omega, by go_num, rfl, by go_num, ?_⟩, by simp [intOf]; omega⟩
          have := HS.out.no (by rw [HN.out]; exact hk) HZ.out (by rw [HME.out]; exact hsm) (HY.out (by first | rfl | trivial)) HK3.out
          rwa [HME.out] at this
        · have hφI : ¬ ((φ : Int) = 0) := by omega
          have HF := hid hφ
          clear hφ
          go_wp2_with fail
          go_ret
          exact ⟨φ, rfl, HK3.out, fun e => absurd e HF.out, fun e => ⟨_, HNO.out e⟩⟩
    · have hltI : ¬ (k : Int) < (n : Int) := by omega
      have hkn : k = n := by omega
      subst hkn
      have HTK : Hid (zs.take k = zs) := by rw [← HN.out]; exact List.take_length
      by_cases hF : F = k
      · subst hF
        have HE : Hid ((dl zs).2 = []) := by
          have := HS.out.cur
          rwa [HTK.out, List.drop_of_length_le (by rw [HN.out]; exact Nat.le_refl _)] at this
        go_wp2_with fail
        go_ret
        refine ⟨0, rfl, HS.out.2.2.2, fun _ => ?_, fun e => absurd rfl e⟩
        have := HS.out.2.2.1
        rw [HTK.out] at this
        rw [parts, if_pos HE.out]
        exact this
      · have hFI : ¬ ((F : Int) = (k : Int)) := by omega
        have hne : zs ≠ [] := fun e => by have := HN.out; rw [e] at this; simp at this; omega
        have HNE := hid (dl_ne zs hne)
        obtain ⟨g, o, rfl, _⟩ : ∃ g o, a = some ⟨g, o, none⟩ ∧ True := by
          obtain ⟨a', c', e', _, _, _, _, h5⟩ := HV.out
          simp only [Value.slice.injEq] at e'
          obtain ⟨rfl, _, rfl⟩ := e'
          obtain ⟨g, o, e, _⟩ := h5 hne
          exact ⟨g, o, e, trivial⟩
        have HP : Hid (RV S wr (.slice (some ⟨g, o + F * 34, none⟩) (k - F) (c - F)) (dl zs).2) := by
          have := RV.mid (HV.out.kp HS.out.2.2.2 HSL.out) F k hFk (by rw [HN.out]; exact Nat.le_refl _)
          rwa [← HS.out.cur, HTK.out] at this
        have HD := HS
        rw [DI, HTK.out] at HD
        have HTL := hid (HT.out.tell wr _ _ _ HD.out.2.2.1 HD.out.2.2.2.size HP.out HNE.out (by
          have := HS.out.cur
          rw [HTK.out] at this
          rw [this, List.all_eq_true]
          exact fun x hx => HOK.out x (List.mem_of_mem_drop hx)) (by rw [HD.out.2.1]; exact hs) ⟨[], by rw [parts, if_neg HNE.out]⟩)
        rw [HD.out.2.1] at HTL
        have hent := HT.out.ent
        have hFc : F ≤ c := by omega
        clear hne HP
        go_wp2_with fail
        refine HTL.out.mono ?_
        rintro e w3 ⟨φ, rfl, hk3, hy, hno⟩
        have HK3 : Hid (Kp (fun y => L y ∨ w.heap.size ≤ y) w w3) := HD.out.2.2.2.trans hk3 (fun x hx => .inl hx)
        have HY := hid hy
        have HNO := hid hno
        clear HTL hk3 hy hno hent
        go_wp2_with fail
        go_ret
        refine ⟨φ, rfl, HK3.out, fun e => ?_, fun e => ⟨_, HNO.out e⟩⟩
        rw [parts, if_neg HNE.out]
        exact HY.out e

end Go.Proofs.YtaaioaocjfpajaaGreatDoor.Sh
end

section
/-
  Need: how many packs, and bytes of frames.
-/
namespace Go.Proofs.YtaaioaocjfpajaaGreatDoor.Sh
open Go.RowKit Go.Shelf
open Tlv (BySlS)
open Sim (hid Kp No PS Done Blk nm)

theorem loadVar_one {P : Program} (w : World) (g : Nat) (t : TypeId) (x : Value) (d : TypeDesc) (hu : P.underlying t = some d) (hd : d.isRow = false) (hc : w.cell? ⟨g, 0, none⟩ = some x) : (loadVar t ⟨g, 0, none⟩).run P w = .ok x w := by
  have hagg : (isAgg t).run P w = .ok false w := by
    unfold isAgg
    rw [Sem.run_bind, run_underlying hu w]
    cases d <;> simp_all
  simp [loadVar, Sem.run_bind, hagg, hc]
/-- Two results that lie in memory, and one that does not. -/
theorem results_cct {P : Program} {fn : Func} {p q u : Tmp} {t : TypeId} (h : fn.results = #[.cell p t, .cell q t, .tmp u]) (tmps : Array Value) (w : World) (g g' : Nat) (x y : Value) (d : TypeDesc)
    (hp : tmps.getD p undef = .pointer (some ⟨g, 0, none⟩)) (hq : tmps.getD q undef = .pointer (some ⟨g', 0, none⟩)) (hu : P.underlying t = some d) (hd : d.isRow = false) (hc : w.cell? ⟨g, 0, none⟩ = some x) (hc' : w.cell? ⟨g', 0, none⟩ = some y) :
    (results fn tmps).run P w = .ok (.tuple #[x, y, tmps.getD u undef]) w := by
  have hp' : tmps[p]?.getD undef = .pointer (some ⟨g, 0, none⟩) := by simpa using hp
  have hq' : tmps[q]?.getD undef = .pointer (some ⟨g', 0, none⟩) := by simpa using hq
  simp only [results, h]
  simp [Result.andThen, hp', hq', asAddr, loadVar_one w g t x d hu hd hc, loadVar_one w g' t y d hu hd hc']

def tot (ps : List (List El)) : Nat := (ps.map szs).sum
/-- What Need has counted. -/
def NT (gp gb : Nat) (w : World) (ps : List (List El)) : Prop :=
  gp ≠ gb ∧ Blk w gp 3 [.int .i64 (ps.length : Nat)] ∧ Blk w gb 3 [.int .i64 (tot ps : Nat)]
theorem szs_le {zs : List El} (h : zs.all okR = true) : szs zs ≤ 5049 * zs.length := by
  induction zs with
  | nil => simp [szs]
  | cons z zs ih =>
    rw [List.all_cons, Bool.and_eq_true] at h
    have h1 := ih h.2
    have h2 := okR_sz h.1
    have : szs (z :: zs) = szE z + szs zs := by simp [szs]
    rw [this, List.length_cons]
    omega
theorem szs_app (xs ys : List El) : szs (xs ++ ys) = szs xs + szs ys := by simp [szs]
theorem tot_flat (ps : List (List El)) : tot ps = szs ps.flatten := by
  induction ps with
  | nil => rfl
  | cons p ps ih => rw [List.flatten_cons, szs_app, ← ih]; simp [tot]
/-- Parts that are none, are no more than the records. -/
theorem dl_parts_ne (zs : List El) (hz : ∀ z ∈ zs, szE z ≤ 12000) : ∀ p ∈ (dl zs).1, p ≠ [] := by
  revert hz
  refine list_snoc (p := fun zs => (∀ z ∈ zs, szE z ≤ 12000) → ∀ p ∈ (dl zs).1, p ≠ []) zs (fun _ p hp => by simp [dl] at hp) (fun zs z h hz => ?_)
  have h' := h (fun y hy => hz y (by simp [hy]))
  rw [dl_snoc, dlStep]
  split
  · exact h'
  · rename_i hs
    intro p hp
    rcases List.mem_append.1 hp with hp | hp
    · exact h' p hp
    · rw [List.mem_singleton] at hp
      subst hp
      intro e
      rw [e] at hs
      have := hz z (by simp)
      simp [szs] at hs
      omega
theorem parts_ne (zs : List El) (hz : ∀ z ∈ zs, szE z ≤ 12000) : ∀ p ∈ parts zs, p ≠ [] := by
  unfold parts
  split
  · exact dl_parts_ne zs hz
  · rename_i h
    intro p hp
    rcases List.mem_append.1 hp with hp | hp
    · exact dl_parts_ne zs hz p hp
    · rw [List.mem_singleton] at hp
      subst hp
      exact h
theorem len_flat {α : Type} (ps : List (List α)) (h : ∀ p ∈ ps, p ≠ []) : ps.length ≤ ps.flatten.length := by
  induction ps with
  | nil => simp
  | cons p ps ih =>
    have h1 := ih (fun q hq => h q (List.mem_cons_of_mem _ hq))
    have h2 : 0 < p.length := List.length_pos_iff.2 (h p List.mem_cons_self)
    rw [List.flatten_cons, List.length_append, List.length_cons]
    omega
theorem parts_len (zs : List El) (hok : zs.all okR = true) : (parts zs).length ≤ zs.length := by
  have := len_flat (parts zs) (parts_ne zs (fun z hz => Nat.le_trans (okR_sz (List.all_eq_true.1 hok z hz)) (by omega)))
  rwa [parts_flat] at this
theorem tot_parts (zs : List El) : tot (parts zs) = szs zs := by rw [tot_flat, parts_flat]

set_option maxHeartbeats 2000000 in
theorem need_taker (gp gb n0 : Nat) (zs : List El) (S : Nat → Prop) (hok : zs.all okR = true) (hl : zs.length ≤ 1000000) :
    Taker 52 #[.pointer (some ⟨gp, 0, none⟩), .pointer (some ⟨gb, 0, none⟩)] zs S (fun y => y = gp ∨ y = gb) n0 (NT gp gb) (fun _ _ _ => False) where
  ent := enters_of Tryz.func52 (by kernel_rfl) rfl
  keep := fun w w' ps h k => ⟨h.1, h.2.1.kp k (fun x => x), h.2.2.kp k (fun x => x)⟩
  tell := fun w ps p v hT h0 hv hne hall hs hr => by
    obtain ⟨a, c, rfl, _⟩ := hv
    obtain ⟨hgg, h1, h2⟩ := hT
    have hbl : ps.length ≤ 1000000 ∧ tot ps ≤ 5049000000 := by
      obtain ⟨r, hr⟩ := hr
      have a1 := parts_len zs hok
      have a2 := tot_parts zs
      have a3 := szs_le hok
      rw [hr] at a1 a2
      rw [List.length_append] at a1
      have : tot (ps ++ p :: r) = tot ps + tot (p :: r) := by simp [tot]
      omega
    obtain ⟨hb1, hb2⟩ := hbl
    have HB1 := hid h1
    have HB2 := hid h2
    have cp := h1.cell 0
    have fp := h1.frozen 0
    have cb := h2.cell 0
    have fb := h2.frozen 0
    have lp := h1.lt
    have lb := h2.lt
    have HTP : Hid (tot (ps ++ [p]) = tot ps + szs p) := by simp [Hid, tot]
    have HLP : Hid ((ps ++ [p]).length = ps.length + 1) := by simp [Hid]
    simp only [List.getElem?_cons_zero] at cp cb
    generalize tot ps = t at *
    generalize szs p = s at *
    generalize ps.length = q at *
    generalize p.length = n at *
    clear h1 h2 hr hall hne
    go_enter Tryz.func52, Tryz.ntmps52
    go_wp2_with fail
    go_ret
    have k1 : Kp (fun y => (y = gp ∨ y = gb) ∨ n0 ≤ y) w (w.setCell ⟨gp, 0, none⟩ (.int .i64 ((q : Int) + 1))) := (Kp.refl _ _).setCell (p := ⟨gp, 0, none⟩) (.inl (.inl (.inl rfl))) _
    have k2 : Kp (fun y => y = gp) w (w.setCell ⟨gp, 0, none⟩ (.int .i64 ((q : Int) + 1))) := (Kp.refl (fun y => y = gp) _).setCell (p := ⟨gp, 0, none⟩) (.inl rfl) _
    have b1 := HB1.out.setCell 0 (.int .i64 ((q : Int) + 1))
    have b2 := (HB2.out.kp k2 (fun e => hgg e.symm)).setCell 0 (.int .i64 ((t : Int) + (s : Int)))
    have k3 : Kp (fun y => y = gb) (w.setCell ⟨gp, 0, none⟩ (.int .i64 ((q : Int) + 1))) ((w.setCell ⟨gp, 0, none⟩ (.int .i64 ((q : Int) + 1))).setCell ⟨gb, 0, none⟩ (.int .i64 ((t : Int) + (s : Int)))) := (Kp.refl (fun y => y = gb) _).setCell (p := ⟨gb, 0, none⟩) (.inl rfl) _
    refine ⟨0, rfl, k1.setCell (p := ⟨gb, 0, none⟩) (.inl (.inl (.inr rfl))) _, fun _ => ⟨hgg, ?_, ?_⟩, fun e => absurd rfl e⟩
    · have := b1.kp k3 hgg
      rw [HLP.out]
      exact this
    · rw [HTP.out, Int.natCast_add]
      exact b2

set_option maxHeartbeats 4000000 in
set_option maxRecDepth 100000 in
theorem need_no {S : Nat → Prop} (w : World) (v : Value) (zs : List El) (hv : RV S w v zs) (hl : zs.length ≤ 1000000) (hok : zs.all okR = false) :
    Calls Tryz.prog 27 #[v] w fun e w' => e = .returned (.tuple #[.int .i64 0, .int .i64 0, .int .i64 1]) ∧ Kp No w w' := by
  have HW := hid (fun V (hV : Kp No w V) => wrong_any V v zs (hv.kept hV) hl)
  have hF : wrongF zs = 1 := by rw [wrongF, hok]; rfl
  rw [hF] at HW
  obtain ⟨a, c, rfl, _⟩ := hv
  generalize zs.length = n at *
  clear hok hF
  go_enter Tryz.func27, Tryz.ntmps27
  go_wp2_with fail
  refine (HW.out _ (((Kp.refl No w).alloc _).alloc _)).mono ?_
  rintro e w1 ⟨rfl, hk⟩
  have HK := hid hk
  have B1 : Blk w1 w.heap.size 3 [.int .i64 0] := ((Blk.new w 3 [.int .i64 0]).kp ((Kp.refl No _).alloc _) (fun h => h)).kp hk (fun h => h)
  have B2 : Blk w1 (w.heap.size + 1) 3 [.int .i64 0] := by
    have := (Blk.new (w.alloc (.cells #[.int .i64 0] 3)) 3 [.int .i64 0]).kp hk (fun h => h)
    simpa using this
  have c1 := B1.cell 0
  have f1 := B1.frozen 0
  have c2 := B2.cell 0
  have f2 := B2.frozen 0
  have l1 := B1.lt
  have l2 := B2.lt
  simp only [List.getElem?_cons_zero] at c1 c2
  have HB1 := hid B1
  have HB2 := hid B2
  clear hk B1 B2 HW
  go_wp2_with fail
  have e1 := (HB1.out.setCell 0 (.int .i64 0)).kp (L := fun y => y = w.heap.size + 1) ((Kp.refl (fun y => y = w.heap.size + 1) _).setCell (p := ⟨w.heap.size + 1, 0, none⟩) (.inl rfl) (.int .i64 0)) (by omega)
  have e2 := (HB2.out.kp (L := fun y => y = w.heap.size) ((Kp.refl (fun y => y = w.heap.size) _).setCell (p := ⟨w.heap.size, 0, none⟩) (.inl rfl) (.int .i64 0)) (by omega)).setCell 0 (.int .i64 0)
  refine bodyPost_ret (v := .tuple #[.int .i64 0, .int .i64 0, .int .i64 1]) (results_cct Tryz.results27 _ _ w.heap.size (w.heap.size + 1) (.int .i64 0) (.int .i64 0) _ rfl rfl Tryz.underlying3 rfl (e1.cell 0) (e2.cell 0)) rfl ⟨rfl, ?_⟩
  refine Kp.setCell (Kp.setCell ?_ (.inr (Nat.le_refl _)) _) (.inr (Nat.le_succ _)) _
  exact (((Kp.refl No w).alloc _).alloc _).trans HK.out (fun x hx => .inl hx)

set_option maxHeartbeats 4000000 in
set_option maxRecDepth 100000 in
theorem need_yes {S : Nat → Prop} (w : World) (v : Value) (zs : List El) (hv : RV S w v zs) (hS : ∀ g, S g → g < w.heap.size) (hl : zs.length ≤ 1000000) (hok : zs.all okR = true) :
    Calls Tryz.prog 27 #[v] w fun e w' => e = .returned (.tuple #[.int .i64 ((parts zs).length : Nat), .int .i64 (szs zs : Nat), .int .i64 0]) ∧ Kp No w w' := by
  have HW := hid (fun V (hV : Kp No w V) => wrong_any V v zs (hv.kept hV) hl)
  have hF : wrongF zs = 0 := by rw [wrongF, hok]; rfl
  rw [hF] at HW
  have HDL := hid (fun V (hV : Kp No w V) gp gb (h1 : w.heap.size ≤ gp) (h2 : w.heap.size ≤ gb) hT => deal_any (T := NT gp gb) V v zs (need_taker gp gb V.heap.size zs S hok hl) hT (hv.kept hV) (fun g hg => by have := hS g hg; have := hV.size; omega) hok hl)
  obtain ⟨t, ht⟩ : ∃ t, szs zs = t := ⟨_, rfl⟩
  obtain ⟨p, hp⟩ : ∃ p, (parts zs).length = p := ⟨_, rfl⟩
  have HTP := hid ((tot_parts zs).trans ht)
  have HPP := hid hp
  rw [ht, hp]
  clear ht hp
  obtain ⟨a, c, rfl, _⟩ := hv
  generalize zs.length = n at *
  clear hok hF
  go_enter Tryz.func27, Tryz.ntmps27
  go_wp2_with fail
  refine (HW.out _ (((Kp.refl No w).alloc _).alloc _)).mono ?_
  rintro e w1 ⟨rfl, hk⟩
  have HK : Hid (Kp No w w1) := (((Kp.refl No w).alloc _).alloc _).trans hk (fun x hx => .inl hx)
  have B1 : Blk w1 w.heap.size 3 [.int .i64 0] := ((Blk.new w 3 [.int .i64 0]).kp ((Kp.refl No _).alloc _) (fun h => h)).kp hk (fun h => h)
  have B2 : Blk w1 (w.heap.size + 1) 3 [.int .i64 0] := by
    have := (Blk.new (w.alloc (.cells #[.int .i64 0] 3)) 3 [.int .i64 0]).kp hk (fun h => h)
    simpa using this
  have HD := hid (HDL.out w1 HK.out w.heap.size (w.heap.size + 1) (Nat.le_refl _) (Nat.le_succ _) ⟨by omega, B1, B2⟩)
  clear hk B1 B2 HW HDL
  go_wp2_with fail
  refine HD.out.mono ?_
  rintro e w2 ⟨φ, rfl, hk2, hy, hno⟩
  have hφ : φ = 0 := by
    by_cases h : φ = 0
    · exact h
    · obtain ⟨_, h'⟩ := hno h
      exact h'.elim
  subst hφ
  obtain ⟨_, b1, b2⟩ := hy rfl
  rw [HTP.out] at b2
  rw [HPP.out] at b1
  have HB1 := hid b1
  have HB2 := hid b2
  have HK2 : Hid (Kp No w w2) := HK.out.trans hk2 (fun x hx => .inr (by have := HK.out.size; omega))
  have c1 := b1.cell 0
  have f1 := b1.frozen 0
  have c2 := b2.cell 0
  have f2 := b2.frozen 0
  have l1 := b1.lt
  have l2 := b2.lt
  simp only [List.getElem?_cons_zero] at c1 c2
  clear hk2 hy hno b1 b2 HD HK
  go_wp2_with fail
  go_region
  all_goals
    go_wp2_with fail
    have e1 := (HB1.out.setCell 0 (.int .i64 (p : Int))).kp (L := fun y => y = w.heap.size + 1) (((Kp.refl (fun y => y = w.heap.size + 1) _).setCell (p := ⟨w.heap.size + 1, 0, none⟩) (.inl rfl) (.int .i64 (t : Int))).drew) (by omega)
    have e2 := ((HB2.out.kp (L := fun y => y = w.heap.size) ((Kp.refl (fun y => y = w.heap.size) _).setCell (p := ⟨w.heap.size, 0, none⟩) (.inl rfl) (.int .i64 (p : Int))) (by omega)).setCell 0 (.int .i64 (t : Int))).kp (L := No) ((Kp.refl No _).drew) (fun h => h)
    refine bodyPost_ret (v := .tuple #[.int .i64 (p : Int), .int .i64 (t : Int), .int .i64 0]) (results_cct Tryz.results27 _ _ w.heap.size (w.heap.size + 1) (.int .i64 (p : Int)) (.int .i64 (t : Int)) _ rfl rfl Tryz.underlying3 rfl (e1.cell 0) (e2.cell 0)) rfl ⟨rfl, ?_⟩
    exact (Kp.setCell (Kp.setCell HK2.out (.inr (Nat.le_refl _)) _) (.inr (Nat.le_succ _)) _).drew

end Go.Proofs.YtaaioaocjfpajaaGreatDoor.Sh
end

section
/-
  add: records into a pack that is being written.
-/
namespace Go.Proofs.YtaaioaocjfpajaaGreatDoor.Sh
open Go.RowKit Go.Shelf
open Tlv (BySlS)
open Sim (hid Kp No PS Done Blk nm pAppend Row)

/-- A place: pack, at, length. -/
abbrev Pl : Type := Nat × Nat × Nat
def plC (q : Pl) : List Value := [.int .i64 (q.1 : Nat), .int .i64 (q.2.1 : Nat), .int .i64 (q.2.2 : Nat)]
def plS (qs : List Pl) : List Value := qs.flatMap plC
/-- Places of records in pack i, from at a on. -/
def plc (i : Nat) : Nat → List El → List Pl
  | _, [] => []
  | a, z :: zs => (i, a, szE z) :: plc i (a + szE z) zs
theorem plc_snoc (i : Nat) (zs : List El) (z : El) : ∀ a, plc i a (zs ++ [z]) = plc i a zs ++ [(i, a + szs zs, szE z)] := by
  induction zs with
  | nil => intro a; simp [plc, szs]
  | cons y zs ih =>
    intro a
    have : szs (y :: zs) = szE y + szs zs := by simp [szs]
    rw [List.cons_append, plc, ih, plc, this, Nat.add_assoc]
    rfl
theorem plc_length (i : Nat) (zs : List El) : ∀ a, (plc i a zs).length = zs.length := by
  induction zs with
  | nil => intro a; rfl
  | cons y zs ih => intro a; rw [plc, List.length_cons, List.length_cons, ih]
theorem plS_snoc (qs : List Pl) (q : Pl) : plS (qs ++ [q]) = plS qs ++ plC q := by simp [plS]
theorem infoW : (Tryz.prog.info? 51).map (fun i => (i.zero, i.size, i.bytes)) = some (some (.agg #[.int .i64 0, .int .i64 0, .int .i64 0]), 3, 24) := by kernel_rfl
theorem run_oneW (x y z : Int) (w : World) : (Instr.buildSlice 36 1 #[(0, .agg #[.int .i64 x, .int .i64 y, .int .i64 z])]).run Tryz.prog w = .ok (.slice (some ⟨w.heap.size, 0, none⟩) 1 1) (w.alloc (.cells #[.int .i64 x, .int .i64 y, .int .i64 z] 51)) := by kernel_rfl
theorem run_makeW (n : Nat) (hn : n ≤ 1000000) (W : World) : (Instr.makeSlice 36 (.int .i64 0) (.int .i64 (n : Int))).run Tryz.prog W = .ok (.slice (some ⟨W.heap.size, 0, none⟩) 0 n) (W.alloc (.cells (madeCells #[.int .i64 0, .int .i64 0, .int .i64 0] (n * 3)) 51)) := by
  obtain ⟨i0, hi, hz0, hz1, hz2⟩ := info_parts infoW
  have h := run_make (P := Tryz.prog) W 36 51 i0 _ Tryz.underlying36 hi hz0 .i64 .i64 0 (n : Int) (by omega) (by omega) (by rw [hz2]; omega) (by omega)
  rw [h, hz1]
  rfl

def frE (z : El) : List Int := putX z.1.1 z.1.2.1 z.1.2.2
theorem frE_length {z : El} (h : okR z = true) (ho : elOk z) (hb : ∀ x ∈ z.1.2.2, 0 ≤ x ∧ x ≤ 255) : (frE z).length = szE z := by
  have hR := good_right (y := z) h ho hb
  have e := frameR_length hR
  have h' : rightB z.1.1 z.1.2.2.length = true := h
  rw [frE, putX, h', if_pos rfl, e, szE]

/-- Frames that are added, one after another, up to the first fault. -/
def aps (i : Nat) (p : PS) (zs : List El) : Nat × PS := zs.foldl (fun r z => if r.1 ≠ 0 then r else pAppend (nm (nameT i)) (nats (frE z)) r.2) (0, p)
theorem aps_snoc (i : Nat) (p : PS) (zs : List El) (z : El) : aps i p (zs ++ [z]) = if (aps i p zs).1 ≠ 0 then aps i p zs else pAppend (nm (nameT i)) (nats (frE z)) (aps i p zs).2 := by simp [aps]
theorem aps_stay (i : Nat) (p : PS) (zs ys : List El) (h : (aps i p zs).1 ≠ 0) : aps i p (zs ++ ys) = aps i p zs := by
  refine list_snoc (p := fun ys => aps i p (zs ++ ys) = aps i p zs) ys (by simp) (fun ys z ih => ?_)
  rw [← List.append_assoc, aps_snoc, ih, if_pos h]

/-- What add leaves. -/
def AddP (P : Nat → Prop) (N : Nat) (w w' : World) (g s b i : Nat) (zs : List El) (u : Value) (r : Nat × PS) : Prop :=
  (∃ sz ct : Nat, WrAt w' g s b i sz ct false ∧ (r.1 = 0 → sz = szs zs ∧ ct = zs.length)) ∧ TabX w' b ∧
    ∃ P', Sim.Sys P' N w' s r.2 ∧ Kp (fun x => P x ∨ x = b ∨ x = g) w w' ∧ (∀ x, P' x → P x ∨ w.heap.size ≤ x) ∧
      (r.1 = 0 → Row w' 51 3 u zs.length (plS (plc i 0 zs)) ∧ ∀ x, u.ownBlock = some x → w.heap.size ≤ x ∧ ¬ P' x)

set_option maxHeartbeats 4000000 in
set_option maxRecDepth 100000 in
theorem add_any {P S : Nat → Prop} {N : Nat} (w : World) (g s b i : Nat) (p : PS) (v : Value) (zs : List El) (hi1 : 1 ≤ i) (hi2 : i < 100) (hW : WrAt w g s b i 0 0 false) (h : Sim.Sys P N w s p) (hN : N + zs.length ≤ 1000) (hT : TabX w b)
    (hb : ¬ P b) (hg : ¬ P g) (hgb : g ≠ b) (hv : RV S w v zs) (hS : ∀ y, S y → ¬ (P y ∨ y = b ∨ y = g)) (hok : zs.all okR = true) (hsz : szs zs ≤ 12000) :
    Calls Tryz.prog 54 #[.pointer (some ⟨g, 0, none⟩), .int .i64 (i : Int), v] w fun e w' => ∃ u, e = .returned (.tuple #[u, .int .i64 ((aps i p zs).1 : Nat)]) ∧ ((aps i p zs).1 ≠ 0 → u = .slice none 0 0) ∧ AddP P (N + zs.length) w w' g s b i zs u (aps i p zs) := by
  have hgl := hW.lt
  have HV := hid hv
  have HSS := hid hS
  have HOK := hid (List.all_eq_true.1 hok)
  have HSY := hid h
  have HWT := hid (And.intro hW hT)
  obtain ⟨a, c, rfl, h1, h2, h3, _⟩ := hv
  obtain ⟨n, hn⟩ : ∃ n, zs.length = n := ⟨_, rfl⟩
  have HN := hid hn
  rw [hn] at HV hN h1 ⊢
  obtain ⟨R, hR⟩ : ∃ R, aps i p zs = R := ⟨_, rfl⟩
  have HR := hid hR
  rw [hR]
  have HSZ := hid hsz
  have hz35 := zero35
  obtain ⟨Z, hZ⟩ : ∃ Z, zRec = Z := ⟨_, rfl⟩
  have HZL : Hid (Z.length = 34) := by rw [← hZ]; rfl
  rw [hZ] at hz35
  have hmk := run_makeW n (by omega)
  have HMS : Hid ((madeCells #[Value.int .i64 0, .int .i64 0, .int .i64 0] (n * 3)).size = n * 3) := size_madeCells _ _
  generalize madeCells #[Value.int .i64 0, .int .i64 0, .int .i64 0] (n * 3) = M at *
  have H0 : Hid ((aps i p (zs.take 0)).1 = 0 ∧ AddP P (N + 0) w (w.alloc (.cells M 51)) g s b i (zs.take 0) (.slice (some ⟨w.heap.size, 0, none⟩) 0 n) (aps i p (zs.take 0))) := by
    have k0 : Kp No w (w.alloc (.cells M 51)) := (Kp.refl No w).alloc _
    refine ⟨rfl, ⟨0, 0, hW.kp k0 (fun x => x), fun _ => ⟨rfl, rfl⟩⟩, hT.kp k0 (fun x => x), P, h.kept k0, k0.ofNo, fun x hx => .inl hx, fun _ => ⟨World.ownsRow_made w _ n (Nat.zero_le _) (by unfold maxLen; omega) HMS.out, fun x hx => ?_⟩⟩
    simp [Value.ownBlock] at hx
    subst hx
    exact ⟨Nat.le_refl _, fun e => by have := h.lt _ e; omega⟩
  clear hn hR hZ hok h3 hW hT h hS hsz
  unfold maxLen at h2
  go_enter Tryz.func54, Tryz.ntmps54
  go_wp2_with fail
  clear hmk
  go_loopw [8, 18] (fun vp vi wr => ∃ (k : Nat) (ad : Option Addr) (cap : Nat), k ≤ n ∧ vi = .int .i64 (k : Int) ∧ vp = .slice ad k cap ∧ Hid ((aps i p (zs.take k)).1 = 0 ∧ AddP P (N + k) w wr g s b i (zs.take k) (.slice ad k cap) (aps i p (zs.take k)))) (fun _ vi _ => n - (intOf vi).toNat)
  case atStart => exact ⟨0, _, _, Nat.zero_le _, rfl, rfl, H0.out⟩
  case round =>
    clear H0
    obtain ⟨k, ad, cap, hk, rfl, rfl, HS⟩ := hrel
    by_cases hlt : k < n
    · have hltI : (k : Int) < (n : Int) := by omega
      obtain ⟨z, hz⟩ : ∃ z, zs[k]? = some z := ⟨_, List.getElem?_eq_getElem (by rw [HN.out]; exact hlt)⟩
      have hzk := HOK.out z (List.mem_of_getElem? hz)
      obtain ⟨hk0, ⟨sz, ct, hWr, hsc⟩, hTr, P', hSr, hKr, hPr, hRow⟩ := HS.out
      have hlk : (zs.take k).length = k := by rw [List.length_take, HN.out]; omega
      obtain ⟨rfl, rfl⟩ := hsc hk0
      obtain ⟨hrow, hrb⟩ := hRow hk0
      rw [hlk] at hWr hrow
      have hvr := HV.out.kp hKr HSS.out
      obtain ⟨a', c', e', h1', h2', h3, h4, h5⟩ := id hvr
      simp only [Value.slice.injEq] at e'
      obtain ⟨rfl, en, rfl⟩ := e'
      obtain ⟨gr, o, rfl, _, hgr, hrg⟩ := h5 (fun e => by rw [e] at hz; simp at hz)
      have HRG := hid (hrg k z hz)
      obtain ⟨hzo, hzb⟩ := h4 z (List.mem_of_getElem? hz)
      have hcl := elC_length hzo
      have hzbb : ∀ x ∈ z.1.2.2, 0 ≤ x ∧ x ≤ 255 := by obtain ⟨_, _, _, _, _, _, _, h, _⟩ := hzb; exact h
      have hfl := frE_length hzk hzo hzbb
      have htk : zs.take (k + 1) = zs.take k ++ [z] := by rw [List.take_add_one, hz]; rfl
      have hsum : szs (zs.take k) + szE z ≤ 12000 := by
        have e := congrArg szs (List.take_append_drop (k + 1) zs)
        rw [szs_app, htk, szs_snoc] at e
        have := HSZ.out
        omega
      have hP'b : ¬ P' b := fun e => by
        rcases hPr b e with e | e
        · exact hb e
        · have := HWT.out.2.lt; omega
      have hP'g : ¬ P' g := fun e => by
        rcases hPr g e with e | e
        · exact hg e
        · omega
      have HADD := hid (fun V (hV : Kp No wr V) => addW_any (P := P') (N := N + k) V g s b i (szs (zs.take k)) k (aps i p (zs.take k)).2 z.1.1 z.1.2.1 z.1.2.2 (elV z) hi1 hi2 (hWr.kp hV (fun x => x)) (hSr.kept hV) (by omega) (hTr.kp hV (fun x => x)) hP'b hP'g hgb
        ((hzb.agree (fun g hg => hV.block g hg.2 (fun h => h)) (fun g hg => (⟨trivial, Nat.lt_of_lt_of_le hg.2 hV.size⟩ : True ∧ g < V.heap.size))).to (fun g hg => hg.2)) hzo.1 hzo.2 (by show (frE z).length ≤ 12000; rw [hfl]; omega) (by omega) (by omega))
      have hzk' : rightB z.1.1 z.1.2.2.length = true := hzk
      have hfr : putX z.1.1 z.1.2.1 z.1.2.2 = frE z := rfl
      have HAF : Hid (addF i (szs (zs.take k)) k (putX z.1.1 z.1.2.1 z.1.2.2) (rightB z.1.1 z.1.2.2.length) (aps i p (zs.take k)).2 = if (aps i p (zs.take (k + 1))).1 = 0 then (((szs (zs.take k) : Nat) : Int), (0 : Int), (aps i p (zs.take (k + 1))).2, szs (zs.take (k + 1)), k + 1) else ((0 : Int), (((aps i p (zs.take (k + 1))).1 : Nat) : Int), (aps i p (zs.take (k + 1))).2, szs (zs.take k), k)) := by
        have ha : aps i p (zs.take k ++ [z]) = pAppend (nm (nameT i)) (nats (frE z)) (aps i p (zs.take k)).2 := by rw [aps_snoc, if_neg (by rw [hk0]; simp)]
        rw [Hid, hzk', hfr, htk, ha, szs_snoc, addF, if_neg (by simp), if_neg (by rw [hfl]; omega), hfl]
      have HO1 : Hid ((elC z).toArray.all (·.oneCell') = true) := all_oneCell_toArray (elC_one z)
      have HTK := hid htk
      have HZ := hid hz
      have HKR := hid (And.intro hKr (And.intro hrow (And.intro hrb (And.intro hSr hPr))))
      obtain ⟨cx, hcx⟩ : ∃ cx, elC z = cx := ⟨_, rfl⟩
      have hcx' : recA z.1.1 z.1.2.1 (elV z) = cx := hcx
      rw [HAF.out, hcx'] at HADD
      rw [hcx] at HRG HO1 hcl
      have HI : Hid ((Tryz.prog.info? 56).map (·.size) = some cx.length) := by rw [Hid, hcl]; exact Tryz.info35
      have HLK := hid hlk
      obtain ⟨m, hm⟩ : ∃ m, szE z = m := ⟨_, rfl⟩
      have HM := hid hm
      rw [hm] at hsum
      obtain ⟨t, ht⟩ : ∃ t, szs (zs.take k) = t := ⟨_, rfl⟩
      have HTT := hid ht
      rw [ht] at hsum HADD
      have ht1 : szs (zs.take (k + 1)) = t + m := by rw [htk, szs_snoc, ht, hm]
      rw [ht1] at HADD
      clear hz hzk hk0 hWr hsc hTr hSr hKr hPr hRow hlk hrow hrb hvr h1' h2' h3 h4 h5 en hrg hzo hzb hzbb hfl htk hzk' hfr HAF hcx hcx' hm ht ht1
      go_wp2_with (first
        | (refine wpList_load_mid (by rfl) 56 _ (by rfl) gr (o + k * 34) (by rfl) cx _ HRG.out Tryz.underlying56 rfl HI.out ?_)
        | (refine Sg.wpList_store_box (fun W => ∀ V, Kp No W V → V.rangeAt wr.heap.size 0 cx ∧ Kp No wr V) (by rfl) 56 _ _ (by rfl) wr.heap.size 0 cx.toArray (by rfl) (by rfl) (Sg.thereE wr _ _ _ (by rw [List.size_toArray, hcl, List.size_toArray, HZL.out]; exact Nat.le_refl _)) HI.out HO1.out (box34 wr _ cx (by rw [List.size_toArray, HZL.out]) hcl) ?_; intro W1 hW1; have HW1 := hid hW1; clear hW1)
        | (refine wpList_load_mid (by rfl) 56 _ (by rfl) wr.heap.size 0 (by rfl) cx _ (HW1.out _ (Kp.refl _ _)).1 Tryz.underlying56 rfl HI.out ?_))
      have HKW : Hid (Kp No wr W1) := (HW1.out _ (Kp.refl _ _)).2
      refine (HADD.out W1 HKW.out).mono ?_
      intro e w2 hA
      have HA := hid hA
      clear hA HADD HW1 HRG HO1 HI
      by_cases hf : (aps i p (zs.take (k + 1))).1 = 0
      · rw [if_pos hf] at HA
        obtain ⟨rfl, hW2, hT2, P2, hS2, hK2, hP2⟩ := HA.out
        simp only at hW2 hS2
        have hK12 : Kp (fun x => P x ∨ x = b ∨ x = g) w w2 := (HKR.out.1.trans HKW.out (fun x hx => hx.elim)).trans hK2 (fun x hx => by
          rcases hx with hx | hx
          · rcases HKR.out.2.2.2.2 x hx with e | e
            · exact .inl (.inl e)
            · exact .inr e
          · exact .inl (.inr hx))
        have hrow2 : Row w2 51 3 (.slice ad k cap) k (plS (plc i 0 (zs.take k))) := (HKR.out.2.1.kept HKW.out).kp hK2 (fun x hx e => by
          have hx' := HKR.out.2.2.1 x hx
          rcases e with e | e | e
          · exact hx'.2 e
          · have := HWT.out.2.lt; omega
          · omega)
        have hb2 : ∀ x, (Value.slice ad k cap).ownBlock = some x → w.heap.size ≤ x ∧ ¬ P2 x := fun x hx => by
          have hx' := HKR.out.2.2.1 x hx
          refine ⟨hx'.1, fun e => ?_⟩
          rcases hP2 x e with e | e
          · exact hx'.2 e
          · have h1 := HKR.out.2.1.lt x hx
            have h2 := HKW.out.size
            omega
        have hP2' : ∀ x, P2 x → P x ∨ w.heap.size ≤ x := fun x hx => by
          rcases hP2 x hx with e | e
          · exact HKR.out.2.2.2.2 x e
          · right
            have h1 := HKR.out.1.size
            have h2 := HKW.out.size
            omega
        have HSW := hid (sizeW_any w2 g s b i ((t + m : Nat) : Int) _ false hW2)
        have HF2 := hid (And.intro hW2 (And.intro hT2 (And.intro hS2 (And.intro hK12 (And.intro hb2 hP2')))))
        have hal : Kp No w2 (w2.alloc (.cells #[.int .i64 (i : Int), .int .i64 (t : Int), .int .i64 (m : Int)] 51)) := (Kp.refl No w2).alloc _
        have HAL := hid hal
        have HR5 := hid (hrow2.kept hal)
        have HSRC : Hid (Sim.Src (w2.alloc (.cells #[.int .i64 (i : Int), .int .i64 (t : Int), .int .i64 (m : Int)] 51)) (.slice (some ⟨w2.heap.size, 0, none⟩) 1 1) 1 3 (plC (i, t, m))) := Sim.Src.one w2 _ 3 51 rfl (by intro u hu; simp at hu; rcases hu with rfl | rfl | rfl <;> rfl)
        have HN1 := hid (fun V => run_oneW (i : Int) (t : Int) (m : Int) V)
        have HFF := hid hf
        have htm : (t : Int) + (m : Int) - (t : Int) = (m : Int) := by omega
        clear hf HA hW2 hT2 hS2 hK2 hP2 hK12 hrow2 hb2 hP2' hal
        go_wp2_with fail
        refine HSW.out.mono ?_
        rintro e w3 ⟨rfl, hw3⟩
        subst w3
        clear HSW
        go_wp2_with (first
          | (refine wpList_val (by rfl) (exec_slice1 36 _ (by rfl) (.agg #[.int .i64 (i : Int), .int .i64 (t : Int), .int .i64 (m : Int)]) _ (by rfl) (HN1.out _)) ?_)
          | (refine Sim.app_row _ (by rfl) _ _ 36 51 (.agg #[.int .i64 0, .int .i64 0, .int .i64 0]) 3 24 (by rfl) Tryz.underlying36 infoW rfl (by omega) (.slice ad k cap) (.slice (some ⟨w2.heap.size, 0, none⟩) 1 1) k 1 (plS (plc i 0 (zs.take k))) (plC (i, t, m)) (by rfl) (by rfl) HR5.out HSRC.out (by omega) (by omega) ?_; intro ad2 cap2 w6 hrow6 hgr6 hown6))
        refine ⟨⟨k + 1, ad2, cap2, by omega, by go_num, rfl, HFF.out, ?_⟩, by simp [intOf]; omega⟩
        have kg : Kp (fun q => (Value.slice ad k cap).ownBlock = some q) (w2.alloc (.cells #[.int .i64 (i : Int), .int .i64 (t : Int), .int .i64 (m : Int)] 51)) w6 := Kp.ofGrown hgr6
        have k6 : Kp (fun q => (Value.slice ad k cap).ownBlock = some q) w2 w6 := HAL.out.ofNo.trans kg (fun x hx => .inl hx)
        obtain ⟨hW2, hT2, hS2, hK12, hb2, hP2'⟩ := HF2.out
        have ng : ¬ (Value.slice ad k cap).ownBlock = some g := fun e => by have := (hb2 g e).1; omega
        have nb : ¬ (Value.slice ad k cap).ownBlock = some b := fun e => by have := (hb2 b e).1; have := HWT.out.2.lt; omega
        have hl1 : (zs.take (k + 1)).length = k + 1 := by rw [List.length_take, HN.out]; omega
        refine ⟨⟨t + m, k + 1, hW2.kp k6 ng, fun _ => ⟨?_, hl1.symm⟩⟩, hT2.kp k6 nb, P2, hS2.kp k6 (fun x hx e => (hb2 x hx).2 e), ?_, hP2', fun _ => ⟨?_, fun x hx => ?_⟩⟩
        · rw [HTK.out, szs_snoc, HTT.out, HM.out]
        · exact hK12.trans k6 (fun x hx => .inr (hb2 x hx).1)
        · rw [hl1, HTK.out, plc_snoc, plS_snoc, HTT.out, HM.out, Nat.zero_add]
          exact hrow6
        · rcases hown6 with e | e
          · rw [e] at hx
            exact hb2 x hx
          · rw [e] at hx
            have hx' : (w2.alloc (.cells #[.int .i64 (i : Int), .int .i64 (t : Int), .int .i64 (m : Int)] 51)).heap.size = x := by simpa using hx
            have h1 := HAL.out.size
            have h2 := hK12.size
            refine ⟨by omega, fun e' => ?_⟩
            have := hS2.lt x e'
            omega
      · rw [if_neg hf] at HA
        obtain ⟨rfl, hW2, hT2, P2, hS2, hK2, hP2⟩ := HA.out
        simp only at hW2 hS2
        have hst : aps i p zs = aps i p (zs.take (k + 1)) := by
          have := aps_stay i p (zs.take (k + 1)) (zs.drop (k + 1)) hf
          rwa [List.take_append_drop] at this
        have hR : aps i p (zs.take (k + 1)) = R := by rw [← hst]; exact HR.out
        rw [hR] at hS2 hf ⊢
        have HFN : Hid (AddP P (N + n) w w2 g s b i zs (.slice none 0 0) R) := by
          refine ⟨⟨t, k, hW2, fun e => absurd e hf⟩, hT2, P2, hS2.more (by omega) hN, ?_, ?_, fun e => absurd e hf⟩
          · exact (HKR.out.1.trans HKW.out (fun x hx => hx.elim)).trans hK2 (fun x hx => by
              rcases hx with hx | hx
              · rcases HKR.out.2.2.2.2 x hx with e | e
                · exact .inl (.inl e)
                · exact .inr e
              · exact .inl (.inr hx))
          · intro x hx
            rcases hP2 x hx with e | e
            · exact HKR.out.2.2.2.2 x e
            · right
              have h1 := HKR.out.1.size
              have h2 := HKW.out.size
              omega
        have hfI : ¬ ((R.1 : Int) = 0) := by omega
        have HNF := hid hf
        clear hf hW2 hT2 hS2 hK2 hP2 hst hR HA
        go_wp2_with fail
        go_ret2
        exact ⟨_, rfl, fun _ => rfl, HFN.out⟩
    · have hltI : ¬ (k : Int) < (n : Int) := by omega
      have hkn : k = n := by omega
      subst hkn
      have HTK : Hid (zs.take k = zs) := by rw [← HN.out]; exact List.take_length
      go_wp2_with fail
      go_ret2
      rw [HTK.out, HR.out] at HS
      refine ⟨_, by rw [HS.out.1]; rfl, fun e => absurd HS.out.1 e, HS.out.2⟩

end Go.Proofs.YtaaioaocjfpajaaGreatDoor.Sh
end

section
/-
  layPack: records into the next pack.
-/
namespace Go.Proofs.YtaaioaocjfpajaaGreatDoor.Sh
open Go.RowKit Go.Shelf
open Tlv (BySlS)
open Sim (hid Kp No PS Done Blk nm pAppend pCreate pRemove finds pList Row)

/-- A pack is begun whose id is free. -/
def BegP (P : Nat → Prop) (N : Nat) (w w' : World) (s b i : Nat) (gv : Value) (c : Nat × PS) : Prop :=
  (c.1 ≠ 0 → Done P N w w' s c.2) ∧ (c.1 = 0 → ∃ g P', gv = .pointer (some ⟨g, 0, none⟩) ∧ WrAt w' g s b i 0 0 false ∧ Sim.Sys P' N w' s c.2 ∧ Kp P w w' ∧ (∀ x, P' x → P x ∨ w.heap.size ≤ x) ∧ ¬ P' g ∧ w.heap.size ≤ g)
theorem begin_new {P : Nat → Prop} {N : Nat} (w : World) (s b : Nat) (p : PS) (i : Nat) (h1 : 1 ≤ i) (h2 : i < 100) (h : Sim.Sys P N w s p) (hN : N + 1 ≤ 1000) (hf : finds p (nm (nameP i)) ≠ 0) :
    Calls Tryz.prog 53 #[.pointer (some ⟨s, 0, none⟩), .pointer (some ⟨b, 0, none⟩), .int .i64 (i : Int)] w fun e w' =>
      ∃ x gv, p.files x = none ∧ e = .returned (.tuple #[gv, .int .i64 ((pCreate (nm (nameT i)) x p).1 : Nat)]) ∧ BegP P (N + 1) w w' s b i gv (pCreate (nm (nameT i)) x p) := by
  refine (begin_any w s b p i h1 h2 h hN).mono ?_
  rintro e w' (⟨h0, _⟩ | ⟨_, x, hx, ⟨hc, rfl, hD⟩ | ⟨hc, g, P', rfl, hr⟩⟩)
  · exact absurd h0 hf
  · exact ⟨x, _, hx, rfl, fun _ => hD, fun e => absurd e hc⟩
  · exact ⟨x, _, hx, by rw [hc]; rfl, fun e => absurd hc e, fun _ => ⟨g, P', rfl, hr⟩⟩

/-- What a pack's laying does to the files. -/
def lpF (i x : Nat) (p : PS) (zs : List El) : Nat × PS :=
  if (pCreate (nm (nameT i)) x p).1 ≠ 0 then pCreate (nm (nameT i)) x p
  else if (aps i (pCreate (nm (nameT i)) x p).2 zs).1 ≠ 0 then ((aps i (pCreate (nm (nameT i)) x p).2 zs).1, (pRemove (nm (nameT i)) (aps i (pCreate (nm (nameT i)) x p).2 zs).2).2)
  else if (sealF i (aps i (pCreate (nm (nameT i)) x p).2 zs).2).1 ≠ 0 then ((sealF i (aps i (pCreate (nm (nameT i)) x p).2 zs).2).1, (pRemove (nm (nameT i)) (sealF i (aps i (pCreate (nm (nameT i)) x p).2 zs).2).2).2)
  else sealF i (aps i (pCreate (nm (nameT i)) x p).2 zs).2
/-- The greatest id that was begun. -/
def lpN (i x : Nat) (p : PS) (n : Int) : Int := if (pCreate (nm (nameT i)) x p).1 ≠ 0 then n else (i : Int)

def LayPost (P : Nat → Prop) (N : Nat) (w w' : World) (h s b i : Nat) (zs : List El) (u : Value) (r : Nat × PS) (n : Int) : Prop :=
  ShAt w' h s b n ∧ TabX w' b ∧ ∃ P', Sim.Sys P' N w' s r.2 ∧ Kp (fun x => P x ∨ x = b ∨ x = h) w w' ∧ (∀ x, P' x → P x ∨ w.heap.size ≤ x) ∧
    (r.1 = 0 → Row w' 51 3 u zs.length (plS (plc i 0 zs)) ∧ ∀ x, u.ownBlock = some x → w.heap.size ≤ x ∧ ¬ P' x)

theorem kp_up {P Q : Nat → Prop} {w w1 w2 : World} {b h g : Nat} (k1 : Kp (fun x => P x ∨ x = b ∨ x = h) w w1) (k2 : Kp (fun x => Q x ∨ x = b ∨ x = g) w1 w2) (hQ : ∀ x, Q x → P x ∨ w.heap.size ≤ x) (hg : w.heap.size ≤ g) : Kp (fun x => P x ∨ x = b ∨ x = h) w w2 :=
  k1.trans k2 (by
    rintro x (hx | hx | hx)
    · rcases hQ x hx with e | e
      · exact .inl (.inl e)
      · exact .inr e
    · exact .inl (.inr (.inl hx))
    · right; omega)
theorem kp_more {L M : Nat → Prop} {w w1 : World} (k : Kp L w w1) (h : ∀ x, L x → M x) : Kp M w w1 := (Kp.refl M w).trans k (fun x hx => .inl (h x hx))
theorem p_up {P Q R : Nat → Prop} {w w1 : World} (h1 : ∀ x, Q x → P x ∨ w.heap.size ≤ x) (h2 : ∀ x, R x → Q x ∨ w1.heap.size ≤ x) (hs : w.heap.size ≤ w1.heap.size) : ∀ x, R x → P x ∨ w.heap.size ≤ x := fun x hx => by
  rcases h2 x hx with e | e
  · exact h1 x e
  · right; omega
theorem p_no {P Q : Nat → Prop} {w : World} {y : Nat} (h1 : ∀ x, Q x → P x ∨ w.heap.size ≤ x) (hy : ¬ P y) (hl : y < w.heap.size) : ¬ Q y := fun e => by
  rcases h1 y e with e | e
  · exact hy e
  · omega

set_option maxHeartbeats 8000000 in
set_option maxRecDepth 100000 in
theorem layPack_any {P S : Nat → Prop} {N : Nat} (w : World) (h s b : Nat) (n : Int) (p : PS) (i : Nat) (v : Value) (zs : List El) (hH : ShAt w h s b n) (hS : Sim.Sys P N w s p) (hT : TabX w b) (hPb : ¬ P b) (hPh : ¬ P h) (hhb : h ≠ b)
    (hV : Vars w) (hnl : ∀ n ∈ pList p, n.length ≤ 20000000) (hl : (idsP p).length ≤ 1000) (hi : maxZ (idsP p ++ [n]) + 1 = (i : Int)) (hi1 : 1 ≤ i) (hi2 : i < 100) (hf : finds p (nm (nameP i)) ≠ 0)
    (hv : RV S w v zs) (hSS : ∀ y, S y → ¬ (P y ∨ y = b ∨ y = h) ∧ y < w.heap.size) (hne : zs ≠ []) (hok : zs.all okR = true) (hsz : szs zs ≤ 12000) (hN : N + zs.length + 5 ≤ 1000) :
    Calls Tryz.prog 30 #[.pointer (some ⟨h, 0, none⟩), v] w fun e w' => ∃ x u, p.files x = none ∧ e = .returned (.tuple #[u, .int .i64 ((lpF i x p zs).1 : Nat)]) ∧ ((lpF i x p zs).1 ≠ 0 → u = .slice none 0 0) ∧ LayPost P (N + zs.length + 5) w w' h s b i zs u (lpF i x p zs) (lpN i x p n) := by
  have HNX := hid (next_any w h s b n p hH hS hV hnl hl (by rw [hi, IntKind.wrap_i64]; omega))
  rw [hi] at HNX
  have HBG := hid (fun V (hV' : Kp No w V) => begin_new V s b p i hi1 hi2 (hS.kept hV') (by omega) hf)
  have hhl := hH.lt
  have hbl := hT.lt
  have HHH := hid (And.intro hH (And.intro hS hT))
  have HVV := hid (And.intro hv hSS)
  have HOK := hid (And.intro hok (And.intro hsz hne))
  obtain ⟨a, c, rfl, _⟩ := hv
  obtain ⟨m, hm⟩ : ∃ m, zs.length = m := ⟨_, rfl⟩
  have HM := hid hm
  rw [hm] at hN HVV ⊢
  clear hH hS hT hV hnl hl hi hf hok hsz hne hm hSS
  go_enter Tryz.func30, Tryz.ntmps30
  go_wp2_with fail
  refine HNX.out.mono ?_
  rintro e w1 ⟨rfl, hk1⟩
  have HK1 := hid hk1
  have c0 : w1.cell? ⟨h, 0, none⟩ = some (.pointer (some ⟨s, 0, none⟩)) := (HHH.out.1.kp hk1 (fun h => h)).cell 0
  have c1 : w1.cell? ⟨h, 1, none⟩ = some (.pointer (some ⟨b, 0, none⟩)) := (HHH.out.1.kp hk1 (fun h => h)).cell 1
  clear hk1 HNX
  go_wp2_with fail
  go_region_with (go_at_call 53; refine (HBG.out _ (HK1.out.drew)).mono ?_; rintro e w2 ⟨x, gv, hx, rfl, hB⟩; have HX := hid (And.intro hx hB); clear hx hB)
  all_goals
    obtain ⟨C, hC⟩ : ∃ C, pCreate (nm (nameT i)) x p = C := ⟨_, rfl⟩
    have HC := hid hC
    rw [hC] at HX
    simp only [hC]
    clear hC c0 c1 HBG
    by_cases hc : C.1 = 0
    · obtain ⟨g, P1, rfl, hW, hS1, hk2, hP1, hg1, hgs⟩ := HX.out.2.2 hc
      have hkd := HK1.out.drew
      have hks := hkd.size
      have hk2w : Kp P w w2 := (hkd.ofNo : Kp P _ _).trans hk2 (fun x hx => .inl hx)
      have hP1w : ∀ x, P1 x → P x ∨ w.heap.size ≤ x := fun x hx => by
        rcases hP1 x hx with e | e
        · exact .inl e
        · right; omega
      have hgw : w.heap.size ≤ g := by omega
      have hA2 : ShAt w2 h s b n := HHH.out.1.kp hk2w hPh
      have hT2 : TabX w2 b := HHH.out.2.2.kp hk2w hPb
      have c2 : w2.cell? ⟨h, 2, none⟩ = some (.int .i64 n) := hA2.cell 2
      have f2 : w2.frozen? ⟨h, 2, none⟩ = false := hA2.frozen 2
      have hh2 := hA2.lt
      have k3 : Kp (fun y => y = h) w2 (w2.setCell ⟨h, 2, none⟩ (.int .i64 (i : Int))) := (Kp.refl (fun y => y = h) _).setCell (p := ⟨h, 2, none⟩) (.inl rfl) _
      have hA3 : ShAt (w2.setCell ⟨h, 2, none⟩ (.int .i64 (i : Int))) h s b i := hA2.setCell 2 (.int .i64 (i : Int))
      have kA : Kp (fun x => P x ∨ x = b ∨ x = h) w (w2.setCell ⟨h, 2, none⟩ (.int .i64 (i : Int))) := (kp_more hk2w (fun x hx => .inl hx)).trans (kp_more k3 (M := fun x => P x ∨ x = b ∨ x = h) (fun x hx => .inr (.inr hx))) (fun x hx => .inl hx)
      have hP1h := p_no hP1w hPh hhl
      have hP1b := p_no hP1w hPb hbl
      have hgh : ¬ g = h := by omega
      have hgb : g ≠ b := by omega
      have HAD := hid (add_any (P := P1) (S := S) (N := N + 1) (w2.setCell ⟨h, 2, none⟩ (.int .i64 (i : Int))) g s b i C.2 (.slice a m c) zs hi1 hi2 (hW.kp k3 hgh) (hS1.kp k3 (fun y hy e => hP1h (hy ▸ e))) (by rw [HM.out]; omega) (hT2.kp k3 (fun e => hhb e.symm)) hP1b hg1 hgb (HVV.out.1.kp kA (fun y hy => (HVV.out.2 y hy).1)) (fun y hy e => by
        have hy' := HVV.out.2 y hy
        rcases e with e | e | e
        · rcases hP1w y e with e | e
          · exact hy'.1 (.inl e)
          · omega
        · exact hy'.1 (.inr (.inl e))
        · omega) HOK.out.1 HOK.out.2.1)
      rw [HM.out] at HAD
      have HF3 := hid (And.intro hA3 (And.intro kA (And.intro hP1w (And.intro hP1h (And.intro hP1b (hW.kp k3 hgh).lt)))))
      have HXN := hid HX.out.1
      have HCZ := hid hc
      rw [hc]
      obtain ⟨A, hA⟩ : ∃ A, aps i C.2 zs = A := ⟨_, rfl⟩
      have HA := hid hA
      rw [hA] at HAD
      have hG := And.intro hgw (And.intro hgh (And.intro hgb hg1))
      have HG := hid (And.intro hG hW.lt)
      clear hc HX hA hW hS1 hk2 hP1 hg1 hgs hkd hks hk2w hP1w hgw hA2 hT2 k3 hA3 kA hP1h hP1b hgh hgb hG
      go_wp2_with fail
      refine HAD.out.mono ?_
      obtain ⟨hA3, kA, hP1w, hP1h, hP1b, hg3⟩ := HF3.out
      generalize w2.setCell ⟨h, 2, none⟩ (.int .i64 (i : Int)) = W3 at HF3 hA3 kA hg3 ⊢
      rintro e w4 ⟨u, rfl, hu, ⟨sz, ct, hW4, hsc⟩, hT4, P2, hS4, hk4, hP2, hR4⟩
      obtain ⟨⟨hgw, hgh, hgb, hg1⟩, hgl2⟩ := HG.out
      have kB : Kp (fun x => P x ∨ x = b ∨ x = h) w w4 := kp_up kA hk4 hP1w hgw
      have hP2w := p_up hP1w hP2 kA.size
      have hA4 : ShAt w4 h s b i := hA3.kp hk4 (by
        rintro (e | e | e)
        · exact hP1h e
        · exact hhb e
        · exact hgh e.symm)
      have hP2g : ¬ P2 g := fun e => by
        rcases hP2 g e with e | e
        · exact hg1 e
        · omega
      clear HAD hk4 hP2 hA3 kA hP1w hP1h hP1b HF3 HG
      by_cases ha : A.1 = 0
      · obtain ⟨rfl, rfl⟩ := hsc ha
        obtain ⟨hrow, hown⟩ := hR4 ha
        obtain ⟨ad, cap, rfl, _⟩ := hrow.shape
        rw [HM.out] at hW4 hrow hown
        have hm1 : 1 ≤ m := by
          rw [← HM.out]
          exact List.length_pos_iff.2 HOK.out.2.2
        have HSL := hid (sealW_any w4 g s b i ((szs zs : Nat) : Int) m A.2 hi1 hi2 hW4 hS4 (by omega) hT4 (p_no hP2w hPb hbl) hP2g hgb hm1)
        obtain ⟨L, hL⟩ : ∃ L, sealF i A.2 = L := ⟨_, rfl⟩
        have HL := hid hL
        rw [hL] at HSL
        have HF4 := hid (And.intro hA4 (And.intro kB (And.intro hP2w (And.intro hrow (And.intro hown hg3)))))
        have HAZ := hid ha
        rw [HM.out] 
        rw [ha]
        clear hL hW4 hS4 hT4 hA4 kB hP2w hrow hown hu hsc hR4 ha
        go_wp2_with fail
        refine HSL.out.mono ?_
        rintro e w5 ⟨rfl, hW5, hT5, P3, hS5, hk5, hP3⟩
        obtain ⟨hA4, kB, hP2w, hrow, hown, hg3'⟩ := HF4.out
        have hk5' : Kp (fun x => P2 x ∨ x = b ∨ x = g) w4 w5 := kp_more hk5 (fun x hx => hx.elim .inl (fun e => .inr (.inr e)))
        have kC : Kp (fun x => P x ∨ x = b ∨ x = h) w w5 := kp_up kB hk5' hP2w hgw
        have hP3w := p_up hP2w hP3 kB.size
        have hA5 : ShAt w5 h s b i := hA4.kp hk5 (by
          rintro (e | e)
          · exact p_no hP2w hPh hhl e
          · exact hgh e.symm)
        by_cases hl : L.1 = 0
        · have hrow5 := hrow.kp hk5 (fun y hy e => by
            rcases e with e | e
            · exact (hown y hy).2 e
            · have := (hown y hy).1; omega)
          have hown5 : ∀ y, (Value.slice ad m cap).ownBlock = some y → w.heap.size ≤ y ∧ ¬ P3 y := fun y hy => by
            have h1 := hown y hy
            have h2 := hrow.lt y hy
            refine ⟨by have := kB.size; omega, fun e => ?_⟩
            rcases hP3 y e with e | e
            · exact h1.2 e
            · omega
          have HLZ := hid hl
          have HF : Hid (LayPost P (N + m + 5) w w5 h s b i zs (.slice ad m cap) L i) := ⟨hA5, hT5, P3, hS5.more (by omega) hN, kC, hP3w, fun _ => ⟨by rw [HM.out]; exact hrow5, hown5⟩⟩
          rw [hl]
          clear HSL hW5 hT5 hS5 hk5 hP3 hA4 kB hP2w hrow hown hk5' kC hP3w hA5 hrow5 hown5 hl HF4
          go_wp2_with fail
          go_ret2
          have e1 : lpF i x p zs = L := by rw [lpF, HC.out, if_neg (by rw [HCZ.out]; simp), HA.out, if_neg (by rw [HAZ.out]; simp), HL.out, if_neg (by rw [HLZ.out]; simp)]
          have e2 : lpN i x p n = (i : Int) := by rw [lpN, HC.out, if_neg (by rw [HCZ.out]; simp)]
          refine ⟨x, _, HXN.out, by rw [e1, HLZ.out]; rfl, fun e => absurd (by rw [e1]; exact HLZ.out) e, ?_⟩
          rw [e1, e2]
          exact HF.out
        · have HLN := hid hl
          have hlI : ¬ ((L.1 : Int) = 0) := by omega
          clear HSL hW5 hk5 hP3 hA4 kB hP2w hrow hown hk5' hl HF4
          have c5 : w5.cell? ⟨h, 0, none⟩ = some (.pointer (some ⟨s, 0, none⟩)) := hA5.cell 0
          have hl5 := hA5.lt
          have HRM := hid (fun V (hV : Kp No w5 V) => Sim.remove_any V s L.2 (nameT i) (name_le _ (by decide) i hi2) (hS5.kept hV) (by omega))
          have HF5 := hid (And.intro hA5 (And.intro hT5 (And.intro kC hP3w)))
          clear hA5 hT5 kC hP3w hS5
          go_wp2_with fail
          go_region_with (first
            | (go_at_call 56; refine (ptemp_small i hi1 hi2 _).mono ?_; rintro e w6 ⟨rfl, h6⟩; subst w6)
            | (go_at_call 49; refine (HRM.out _ ((Kp.refl No _).drew)).mono ?_; rintro e w7 ⟨rfl, hD⟩; have HD := hid hD; clear hD))
          all_goals
            go_wp2_with fail
            go_ret2
            have e2 : lpN i x p n = (i : Int) := by rw [lpN, HC.out, if_neg (by rw [HCZ.out]; simp)]
            have e1 : lpF i x p zs = (L.1, (pRemove (nm (nameT i)) L.2).2) := by rw [lpF, HC.out, if_neg (by rw [HCZ.out]; simp), HA.out, if_neg (by rw [HAZ.out]; simp), HL.out, if_pos HLN.out]
            refine ⟨x, _, HXN.out, by rw [e1]; rfl, fun _ => rfl, ?_⟩
            rw [e1, e2]
            obtain ⟨hA5, hT5, kC, hP3w⟩ := HF5.out
            obtain ⟨P4, h1, h2, h3⟩ := HD.out
            have h2' : Kp P3 w5 _ := ((Kp.refl No w5).drew.ofNo : Kp P3 _ _).trans h2 (fun x hx => .inl hx)
            have hs5 := ((Kp.refl No w5).drew).size
            have hP4w : ∀ y, P4 y → P y ∨ w.heap.size ≤ y := fun y hy => by
              rcases h3 y hy with e | e
              · exact hP3w y e
              · right; have := kC.size; omega
            exact ⟨hA5.kp h2' (p_no hP3w hPh hhl), hT5.kp h2' (p_no hP3w hPb hbl), P4, h1.more (by omega) hN, kC.trans h2' (fun y hy => by
              rcases hP3w y hy with e | e
              · exact .inl (.inl e)
              · exact .inr e), hP4w, fun e => absurd e HLN.out⟩
      · have HAN := hid ha
        have haI : ¬ ((A.1 : Int) = 0) := by omega
        obtain rfl := hu ha
        have hA5 := hA4
        have hT5 := hT4
        have hS5 := hS4
        have kC := kB
        have hP3w := hP2w
        clear hA4 hT4 hS4 kB hP2w hW4 hsc hR4 ha hu
        have c5 : w4.cell? ⟨h, 0, none⟩ = some (.pointer (some ⟨s, 0, none⟩)) := hA5.cell 0
        have hl5 := hA5.lt
        have HRM := hid (fun V (hV : Kp No w4 V) => Sim.remove_any V s A.2 (nameT i) (name_le _ (by decide) i hi2) (hS5.kept hV) (by omega))
        have HF5 := hid (And.intro hA5 (And.intro hT5 (And.intro kC hP3w)))
        clear hA5 hT5 kC hP3w hS5
        go_wp2_with fail
        go_region_with (first
          | (go_at_call 56; refine (ptemp_small i hi1 hi2 _).mono ?_; rintro e w6 ⟨rfl, h6⟩; subst w6)
          | (go_at_call 49; refine (HRM.out _ ((Kp.refl No _).drew)).mono ?_; rintro e w7 ⟨rfl, hD⟩; have HD := hid hD; clear hD))
        all_goals
          go_wp2_with fail
          go_ret2
          have e2 : lpN i x p n = (i : Int) := by rw [lpN, HC.out, if_neg (by rw [HCZ.out]; simp)]
          have e1 : lpF i x p zs = (A.1, (pRemove (nm (nameT i)) A.2).2) := by rw [lpF, HC.out, if_neg (by rw [HCZ.out]; simp), HA.out, if_pos HAN.out]
          refine ⟨x, _, HXN.out, by rw [e1]; rfl, fun _ => rfl, ?_⟩
          rw [e1, e2]
          obtain ⟨hA5, hT5, kC, hP3w⟩ := HF5.out
          obtain ⟨P4, h1, h2, h3⟩ := HD.out
          have h2' : Kp P2 w4 _ := ((Kp.refl No w4).drew.ofNo : Kp P2 _ _).trans h2 (fun x hx => .inl hx)
          have hs5 := ((Kp.refl No w4).drew).size
          have hP4w : ∀ y, P4 y → P y ∨ w.heap.size ≤ y := fun y hy => by
            rcases h3 y hy with e | e
            · exact hP3w y e
            · right; have := kC.size; omega
          exact ⟨hA5.kp h2' (p_no hP3w hPh hhl), hT5.kp h2' (p_no hP3w hPb hbl), P4, h1.more (by omega) hN, kC.trans h2' (fun y hy => by
            rcases hP3w y hy with e | e
            · exact .inl (.inl e)
            · exact .inr e), hP4w, fun e => absurd e HAN.out⟩
    · have HF : Hid (LayPost P (N + m + 5) w w2 h s b i zs (.slice none 0 0) C n) := by
        obtain ⟨P', h1, h2, h3⟩ := HX.out.2.1 hc
        have hkd := HK1.out.drew
        have hks := hkd.size
        have hk : Kp P w w2 := (hkd.ofNo : Kp P _ _).trans h2 (fun x hx => .inl hx)
        refine ⟨HHH.out.1.kp hk hPh, HHH.out.2.2.kp hk hPb, P', h1.more (by omega) hN, kp_more hk (fun x hx => .inl hx), fun x hx => ?_, fun e => absurd e hc⟩
        rcases h3 x hx with e | e
        · exact .inl e
        · right; omega
      have HXN := hid HX.out.1
      have HCN := hid hc
      have hcI : ¬ ((C.1 : Int) = 0) := by omega
      clear hc HX
      go_wp2_with fail
      go_ret2
      have e1 : lpF i x p zs = C := by rw [lpF, HC.out, if_pos HCN.out]
      have e2 : lpN i x p n = n := by rw [lpN, HC.out, if_pos HCN.out]
      refine ⟨x, _, HXN.out, by rw [e1]; rfl, fun _ => rfl, ?_⟩
      rw [e1, e2]
      exact HF.out

end Go.Proofs.YtaaioaocjfpajaaGreatDoor.Sh
end
