/- Of the proof: the texts PkSealing, PkSealW, PkPlain, PkManyM, one behind the other. -/
import Derived.Test.YtaaioaocjfpajaaGreatDoorB10
import Derived.Test.YtaaioaocjfpajaaGreatDoorB1
section
/-
  What a seal takes, laid in an array; Seal.
-/
namespace Go.Proofs.YtaaioaocjfpajaaGreatDoor
open Go.RowKit Go.Shelf
open Sim (hid Kp No PS Done Blk nm finds pFsync pRename pSyncDir)

/-- The two names, in variables of their own. -/
def Two (W : World) (t t' : ByteArray) (p3 p4 : Value) (V : World) : Prop :=
  ∃ c3 c4, p3 = .pointer (some ⟨c3, 0, none⟩) ∧ p4 = .pointer (some ⟨c4, 0, none⟩) ∧ V.cell? ⟨c3, 0, none⟩ = some (.string t) ∧ V.cell? ⟨c4, 0, none⟩ = some (.string t') ∧ W.heap.size ≤ c3 ∧ W.heap.size ≤ c4 ∧ Below W.heap.size W V

theorem two_cells (W : World) (x y : Value) : ((W.alloc (.cells #[x] 9)).alloc (.cells #[y] 9)).drew.cell? ⟨W.heap.size, 0, none⟩ = some x ∧ ((W.alloc (.cells #[x] 9)).alloc (.cells #[y] 9)).drew.cell? ⟨W.heap.size + 1, 0, none⟩ = some y ∧ Below W.heap.size W ((W.alloc (.cells #[x] 9)).alloc (.cells #[y] 9)).drew := by
  have h1 := ((Blk.new W 9 [x]).kp (L := No) ((Kp.refl _ _).alloc (.cells #[y] 9)) (fun h => h)).cell 0
  have h2 := (Blk.new (W.alloc (.cells #[x] 9)) 9 [y]).cell 0
  have e : (W.alloc (.cells #[x] 9)).heap.size = W.heap.size + 1 := by simp
  rw [e] at h2
  exact ⟨h1, h2, (((Below.refl _ _).alloc (Nat.le_refl _) _).alloc (by simp) _).drew⟩
theorem leaf1 (W : World) (t t' : ByteArray) (n : Nat) (h : W.heap.size = n) : Hid (Two W t t' (.pointer (some ⟨n, 0, none⟩)) (.pointer (some ⟨n + 1, 0, none⟩)) ((W.alloc (.cells #[.string t] 9)).alloc (.cells #[.string t'] 9)).drew) := by
  subst h
  obtain ⟨h1, h2, h3⟩ := two_cells W (.string t) (.string t')
  exact ⟨_, _, rfl, rfl, h1, h2, Nat.le_refl _, Nat.le_succ _, h3⟩
theorem leaf2 (W : World) (t t' : ByteArray) (n : Nat) (h : W.heap.size = n) : Hid (Two W t t' (.pointer (some ⟨n + 1, 0, none⟩)) (.pointer (some ⟨n, 0, none⟩)) ((W.alloc (.cells #[.string t'] 9)).alloc (.cells #[.string t] 9)).drew) := by
  subst h
  obtain ⟨h1, h2, h3⟩ := two_cells W (.string t') (.string t)
  exact ⟨_, _, rfl, rfl, h2, h1, Nat.le_succ _, Nat.le_refl _, h3⟩

set_option maxHeartbeats 4000000 in
theorem sealing_any (w : World) (g s b i : Nat) (sz ct : Int) (cl : Bool) (hi1 : 1 ≤ i) (hi2 : i < 100) (hW : WrAt w g s b i sz ct cl) :
    Calls Tryz.prog 84 #[.pointer (some ⟨g, 0, none⟩)] w fun e w' => ∃ c1 c3 c4, e = .returned (.agg #[.func (.func 107) #[] #[.pointer (some ⟨c1, 0, none⟩), .pointer (some ⟨c3, 0, none⟩)], .func (.func 109) #[] #[.pointer (some ⟨c1, 0, none⟩), .pointer (some ⟨c3, 0, none⟩), .pointer (some ⟨c4, 0, none⟩)], .func (.func 50) #[.pointer (some ⟨s, 0, none⟩)] #[]]) ∧
      w'.cell? ⟨c1, 0, none⟩ = some (.pointer (some ⟨g, 0, none⟩)) ∧ w'.cell? ⟨c3, 0, none⟩ = some (.string (nameT i)) ∧ w'.cell? ⟨c4, 0, none⟩ = some (.string (nameP i)) ∧ w.heap.size ≤ c1 ∧ w.heap.size ≤ c3 ∧ w.heap.size ≤ c4 ∧ Below w.heap.size w w' := by
  have HNM := hid (fun V => pname_small i hi1 hi2 V)
  have HTM := hid (fun V => ptemp_small i hi1 hi2 V)
  have hb1 : Below w.heap.size w ((w.alloc (.cells #[.pointer (some ⟨g, 0, none⟩)] 130)).alloc (.cells #[.nilFunc, .nilFunc, .nilFunc] 168)) := ((Below.refl _ _).alloc (Nat.le_refl _) _).alloc (by simp) _
  have hs1 : ((w.alloc (.cells #[.pointer (some ⟨g, 0, none⟩)] 130)).alloc (.cells #[.nilFunc, .nilFunc, .nilFunc] 168)).heap.size = w.heap.size + 2 := by simp
  have k2 : ((w.alloc (.cells #[.pointer (some ⟨g, 0, none⟩)] 130)).alloc (.cells #[.nilFunc, .nilFunc, .nilFunc] 168)).cell? ⟨g, 2, none⟩ = some (.int .i64 (i : Int)) := (hb1.cell (p := ⟨g, 2, none⟩) hW.lt).trans (hW.cell 2)
  have k0 : ((w.alloc (.cells #[.pointer (some ⟨g, 0, none⟩)] 130)).alloc (.cells #[.nilFunc, .nilFunc, .nilFunc] 168)).cell? ⟨g, 0, none⟩ = some (.pointer (some ⟨s, 0, none⟩)) := (hb1.cell (p := ⟨g, 0, none⟩) hW.lt).trans (hW.cell 0)
  have kc1 : ((w.alloc (.cells #[.pointer (some ⟨g, 0, none⟩)] 130)).alloc (.cells #[.nilFunc, .nilFunc, .nilFunc] 168)).cell? ⟨w.heap.size, 0, none⟩ = some (.pointer (some ⟨g, 0, none⟩)) := by
    have h := (Blk.new w 130 [.pointer (some ⟨g, 0, none⟩)]).kp (L := No) ((Kp.refl _ _).alloc (.cells #[.nilFunc, .nilFunc, .nilFunc] 168)) (fun h => h)
    exact h.cell 0
  have hg := hW.lt
  go_enter Tryz.func84, Tryz.ntmps84
  go_upto_region 1 with fail
  generalize hWW : (w.alloc (.cells #[.pointer (some ⟨g, 0, none⟩)] 130)).alloc (.cells #[.nilFunc, .nilFunc, .nilFunc] 168) = W at *
  have hgW : g < W.heap.size := by omega
  have hc1W : w.heap.size < W.heap.size := by omega
  go_cut [3, 4] (fun p3 p4 V => Hid (Two W (nameT i) (nameP i) p3 p4 V))
  case first =>
    refine wp_region_held_drew (S := fun V => Below W.heap.size W V) (by kernel_rfl) (Below.refl _ _).drew (fun hHeld => ?_)
    refine wpAnyH_take (i := 0) (oi := { dst := some 5, op := Op.load 130 (Operand.tmp 1), type := 130, pos := "writer.go:103", after := #[], guard := none }) (v := .pointer (some ⟨g, 0, none⟩)) rfl (by kernel_rfl) (by kernel_rfl) (by kernel_rfl) (fun _ _ _ h => h) (Or.inl ⟨by rfl, fun w' hw' => by (have q0 := (hw'.cell (p := ⟨w.heap.size, 0, none⟩) hc1W).trans kc1; clear hw'; go_simp)⟩) hHeld ?_
    simp only [Act.put, List.setIfInBounds_toArray, List.set_cons_zero, List.set_cons_succ]
    refine wpAnyH_take (i := 1) (oi := { dst := some 6, op := Op.nilCheck (Operand.tmp 5), type := 0, pos := "writer.go:103", after := #[{ on := 0, ground := Ground.data }], guard := none }) (v := .pointer (some ⟨g, 0, none⟩)) rfl (by kernel_rfl) (by kernel_rfl) (by kernel_rfl) (fun _ _ _ h => h) (Or.inl ⟨by rfl, fun w' hw' => by (clear hw'; go_simp)⟩) hHeld ?_
    simp only [Act.put, List.setIfInBounds_toArray, List.set_cons_zero, List.set_cons_succ]
    refine wpAnyH_take (i := 2) (oi := { dst := some 7, op := Op.fieldAddr 166 (Operand.tmp 6) 2, type := 0, pos := "writer.go:103", after := #[{ on := 1, ground := Ground.data }], guard := none }) (v := .pointer (some ⟨g, 2, none⟩)) rfl (by kernel_rfl) (by kernel_rfl) (by kernel_rfl) (fun _ _ _ h => h) (Or.inl ⟨by rfl, fun w' hw' => by (clear hw'; go_simp)⟩) hHeld ?_
    simp only [Act.put, List.setIfInBounds_toArray, List.set_cons_zero, List.set_cons_succ]
    refine wpAnyH_take (i := 3) (oi := { dst := some 8, op := Op.load 3 (Operand.tmp 7), type := 3, pos := "writer.go:103", after := #[{ on := 2, ground := Ground.data }], guard := none }) (v := .int .i64 (i : Int)) rfl (by kernel_rfl) (by kernel_rfl) (by kernel_rfl) (fun _ _ _ h => h) (Or.inl ⟨by rfl, fun w' hw' => by (have q0 := (hw'.cell (p := ⟨g, 2, none⟩) hgW).trans k2; clear hw'; go_simp)⟩) hHeld ?_
    simp only [Act.put, List.setIfInBounds_toArray, List.set_cons_zero, List.set_cons_succ]
    refine wpAnyH_take (i := 5) (oi := { dst := some 10, op := Op.load 130 (Operand.tmp 1), type := 130, pos := "writer.go:103", after := #[], guard := none }) (v := .pointer (some ⟨g, 0, none⟩)) rfl (by kernel_rfl) (by kernel_rfl) (by kernel_rfl) (fun _ _ _ h => h) (Or.inl ⟨by rfl, fun w' hw' => by (have q0 := (hw'.cell (p := ⟨w.heap.size, 0, none⟩) hc1W).trans kc1; clear hw'; go_simp)⟩) hHeld ?_
    simp only [Act.put, List.setIfInBounds_toArray, List.set_cons_zero, List.set_cons_succ]
    refine wpAnyH_take (i := 6) (oi := { dst := some 11, op := Op.nilCheck (Operand.tmp 10), type := 0, pos := "writer.go:103", after := #[{ on := 5, ground := Ground.data }], guard := none }) (v := .pointer (some ⟨g, 0, none⟩)) rfl (by kernel_rfl) (by kernel_rfl) (by kernel_rfl) (fun _ _ _ h => h) (Or.inl ⟨by rfl, fun w' hw' => by (clear hw'; go_simp)⟩) hHeld ?_
    simp only [Act.put, List.setIfInBounds_toArray, List.set_cons_zero, List.set_cons_succ]
    refine wpAnyH_take (i := 7) (oi := { dst := some 12, op := Op.fieldAddr 166 (Operand.tmp 11) 2, type := 0, pos := "writer.go:103", after := #[{ on := 6, ground := Ground.data }], guard := none }) (v := .pointer (some ⟨g, 2, none⟩)) rfl (by kernel_rfl) (by kernel_rfl) (by kernel_rfl) (fun _ _ _ h => h) (Or.inl ⟨by rfl, fun w' hw' => by (clear hw'; go_simp)⟩) hHeld ?_
    simp only [Act.put, List.setIfInBounds_toArray, List.set_cons_zero, List.set_cons_succ]
    refine wpAnyH_take (i := 8) (oi := { dst := some 13, op := Op.load 3 (Operand.tmp 12), type := 3, pos := "writer.go:103", after := #[{ on := 7, ground := Ground.data }], guard := none }) (v := .int .i64 (i : Int)) rfl (by kernel_rfl) (by kernel_rfl) (by kernel_rfl) (fun _ _ _ h => h) (Or.inl ⟨by rfl, fun w' hw' => by (have q0 := (hw'.cell (p := ⟨g, 2, none⟩) hgW).trans k2; clear hw'; go_simp)⟩) hHeld ?_
    simp only [Act.put, List.setIfInBounds_toArray, List.set_cons_zero, List.set_cons_succ]
    refine wpAnyH_ready (rs := [4, 10, 11]) (by kernel_rfl) (by simp) ?_
    refine (AllReadyH.cons (o := { dst := some 9, op := Op.call { callee := Callee.value (Operand.func 56), args := #[Operand.tmp 8], argTypes := #[3] }, type := 9, pos := "writer.go:103", after := #[{ on := 3, ground := Ground.data }], guard := none }) rfl (fun K hK => ?_) (AllReadyH.cons (o := { dst := some 3, op := Op.alloc 9, type := 0, pos := "writer.go:103", after := #[], guard := none }) rfl (fun K hK => ?_) (AllReadyH.cons (o := { dst := some 4, op := Op.alloc 9, type := 0, pos := "writer.go:103", after := #[], guard := none }) rfl (fun K hK => ?_) AllReadyH.nil)))
    · go_simp
      refine (HTM.out _).mono ?_
      rintro e u ⟨rfl, hu⟩
      subst u
      go_wp2_with fail
      refine hK.out _ _ ((Below.refl W.heap.size W).drew) (fun hh => ?_)
      clear hK K hHeld
      have hHeld := hh
      clear hh
      try simp only [Act.put, List.setIfInBounds_toArray, List.set_cons_zero, List.set_cons_succ]
      refine wpAnyH_ready (rs := [9, 10, 11]) (by kernel_rfl) (by simp) ?_
      refine (AllReadyH.cons (o := { dst := some 14, op := Op.call { callee := Callee.value (Operand.func 13), args := #[Operand.tmp 13], argTypes := #[3] }, type := 9, pos := "writer.go:103", after := #[{ on := 8, ground := Ground.data }, { on := 4, ground := Ground.chain }], guard := none }) rfl (fun K hK => ?_) (AllReadyH.cons (o := { dst := some 3, op := Op.alloc 9, type := 0, pos := "writer.go:103", after := #[], guard := none }) rfl (fun K hK => ?_) (AllReadyH.cons (o := { dst := some 4, op := Op.alloc 9, type := 0, pos := "writer.go:103", after := #[], guard := none }) rfl (fun K hK => ?_) AllReadyH.nil)))
      · go_simp
        refine (HNM.out _).mono ?_
        rintro e u ⟨rfl, hu⟩
        subst u
        go_wp2_with fail
        refine hK.out _ _ ((Below.refl W.heap.size W).drew) (fun hh => ?_)
        clear hK K hHeld
        have hHeld := hh
        clear hh
        try simp only [Act.put, List.setIfInBounds_toArray, List.set_cons_zero, List.set_cons_succ]
        refine wpAnyH_ready (rs := [10, 11]) (by kernel_rfl) (by simp) ?_
        refine (AllReadyH.cons (o := { dst := some 3, op := Op.alloc 9, type := 0, pos := "writer.go:103", after := #[], guard := none }) rfl (fun K hK => ?_) (AllReadyH.cons (o := { dst := some 4, op := Op.alloc 9, type := 0, pos := "writer.go:103", after := #[], guard := none }) rfl (fun K hK => ?_) AllReadyH.nil))
        · go_simp
          refine hK.out _ _ ((((Below.refl W.heap.size W).drew).alloc (by simp) _)) (fun hh => ?_)
          clear hK K hHeld
          have hHeld := hh
          clear hh
          try simp only [Act.put, List.setIfInBounds_toArray, List.set_cons_zero, List.set_cons_succ]
          refine wpAnyH_ready (rs := [11]) (by kernel_rfl) (by simp) ?_
          refine (AllReadyH.cons (o := { dst := some 4, op := Op.alloc 9, type := 0, pos := "writer.go:103", after := #[], guard := none }) rfl (fun K hK => ?_) AllReadyH.nil)
          go_simp
          refine hK.out _ _ ((((((Below.refl W.heap.size W).drew).alloc (by simp) _)).alloc (by simp) _)) (fun hh => ?_)
          clear hK K hHeld
          have hHeld := hh
          clear hh
          try simp only [Act.put, List.setIfInBounds_toArray, List.set_cons_zero, List.set_cons_succ]
          refine wpAnyH_ready (rs := [12]) (by kernel_rfl) (by simp) ?_
          refine (AllReadyH.cons (o := { dst := none, op := Op.store 9 (Operand.tmp 3) (Operand.tmp 9), type := 0, pos := "writer.go:103", after := #[{ on := 10, ground := Ground.data }, { on := 4, ground := Ground.data }, { on := 9, ground := Ground.chain }, { on := 0, ground := Ground.phase }, { on := 1, ground := Ground.phase }, { on := 2, ground := Ground.phase }, { on := 3, ground := Ground.phase }, { on := 4, ground := Ground.phase }, { on := 5, ground := Ground.textOnly Departure.lateStores }, { on := 6, ground := Ground.textOnly Departure.lateStores }, { on := 7, ground := Ground.textOnly Departure.lateStores }, { on := 8, ground := Ground.textOnly Departure.lateStores }, { on := 9, ground := Ground.textOnly Departure.lateStoresUnsure }, { on := 10, ground := Ground.phase }, { on := 11, ground := Ground.phase }], guard := none }) rfl (fun K hK => ?_) AllReadyH.nil)
          go_simp
          refine hK.out _ _ ((((Below.refl W.heap.size W).alloc (Nat.le_refl _) _).alloc (by simp) _).drew) (fun hh => ?_)
          clear hK K hHeld
          have hHeld := hh
          clear hh
          try simp only [Act.put, List.setIfInBounds_toArray, List.set_cons_zero, List.set_cons_succ]
          refine wpAnyH_ready (rs := [13]) (by kernel_rfl) (by simp) ?_
          refine (AllReadyH.cons (o := { dst := none, op := Op.store 9 (Operand.tmp 4) (Operand.tmp 14), type := 0, pos := "writer.go:103", after := #[{ on := 11, ground := Ground.data }, { on := 9, ground := Ground.data }, { on := 12, ground := Ground.chain }, { on := 0, ground := Ground.phase }, { on := 1, ground := Ground.phase }, { on := 2, ground := Ground.phase }, { on := 3, ground := Ground.phase }, { on := 4, ground := Ground.phase }, { on := 5, ground := Ground.phase }, { on := 6, ground := Ground.phase }, { on := 7, ground := Ground.phase }, { on := 8, ground := Ground.phase }, { on := 9, ground := Ground.phase }, { on := 10, ground := Ground.phase }, { on := 11, ground := Ground.phase }, { on := 12, ground := Ground.phase }], guard := none }) rfl (fun K hK => ?_) AllReadyH.nil)
          go_simp
          refine hK.out _ _ ((((Below.refl W.heap.size W).alloc (Nat.le_refl _) _).alloc (by simp) _).drew) (fun hh => ?_)
          clear hK K hHeld
          have hHeld := hh
          clear hh
          try simp only [Act.put, List.setIfInBounds_toArray, List.set_cons_zero, List.set_cons_succ]
          refine wpAnyH_done (by kernel_rfl) ?_ _
          go_wp2_with fail
          go_meet
          exact leaf1 W _ _ _ hs1
        · go_simp
          refine hK.out _ _ ((((Below.refl W.heap.size W).drew).alloc (by simp) _)) (fun hh => ?_)
          clear hK K hHeld
          have hHeld := hh
          clear hh
          try simp only [Act.put, List.setIfInBounds_toArray, List.set_cons_zero, List.set_cons_succ]
          refine wpAnyH_ready (rs := [10]) (by kernel_rfl) (by simp) ?_
          refine (AllReadyH.cons (o := { dst := some 3, op := Op.alloc 9, type := 0, pos := "writer.go:103", after := #[], guard := none }) rfl (fun K hK => ?_) AllReadyH.nil)
          go_simp
          refine hK.out _ _ ((((((Below.refl W.heap.size W).drew).alloc (by simp) _)).alloc (by simp) _)) (fun hh => ?_)
          clear hK K hHeld
          have hHeld := hh
          clear hh
          try simp only [Act.put, List.setIfInBounds_toArray, List.set_cons_zero, List.set_cons_succ]
          refine wpAnyH_ready (rs := [12]) (by kernel_rfl) (by simp) ?_
          refine (AllReadyH.cons (o := { dst := none, op := Op.store 9 (Operand.tmp 3) (Operand.tmp 9), type := 0, pos := "writer.go:103", after := #[{ on := 10, ground := Ground.data }, { on := 4, ground := Ground.data }, { on := 9, ground := Ground.chain }, { on := 0, ground := Ground.phase }, { on := 1, ground := Ground.phase }, { on := 2, ground := Ground.phase }, { on := 3, ground := Ground.phase }, { on := 4, ground := Ground.phase }, { on := 5, ground := Ground.textOnly Departure.lateStores }, { on := 6, ground := Ground.textOnly Departure.lateStores }, { on := 7, ground := Ground.textOnly Departure.lateStores }, { on := 8, ground := Ground.textOnly Departure.lateStores }, { on := 9, ground := Ground.textOnly Departure.lateStoresUnsure }, { on := 10, ground := Ground.phase }, { on := 11, ground := Ground.phase }], guard := none }) rfl (fun K hK => ?_) AllReadyH.nil)
          go_simp
          refine hK.out _ _ ((((Below.refl W.heap.size W).alloc (Nat.le_refl _) _).alloc (by simp) _).drew) (fun hh => ?_)
          clear hK K hHeld
          have hHeld := hh
          clear hh
          try simp only [Act.put, List.setIfInBounds_toArray, List.set_cons_zero, List.set_cons_succ]
          refine wpAnyH_ready (rs := [13]) (by kernel_rfl) (by simp) ?_
          refine (AllReadyH.cons (o := { dst := none, op := Op.store 9 (Operand.tmp 4) (Operand.tmp 14), type := 0, pos := "writer.go:103", after := #[{ on := 11, ground := Ground.data }, { on := 9, ground := Ground.data }, { on := 12, ground := Ground.chain }, { on := 0, ground := Ground.phase }, { on := 1, ground := Ground.phase }, { on := 2, ground := Ground.phase }, { on := 3, ground := Ground.phase }, { on := 4, ground := Ground.phase }, { on := 5, ground := Ground.phase }, { on := 6, ground := Ground.phase }, { on := 7, ground := Ground.phase }, { on := 8, ground := Ground.phase }, { on := 9, ground := Ground.phase }, { on := 10, ground := Ground.phase }, { on := 11, ground := Ground.phase }, { on := 12, ground := Ground.phase }], guard := none }) rfl (fun K hK => ?_) AllReadyH.nil)
          go_simp
          refine hK.out _ _ ((((Below.refl W.heap.size W).alloc (Nat.le_refl _) _).alloc (by simp) _).drew) (fun hh => ?_)
          clear hK K hHeld
          have hHeld := hh
          clear hh
          try simp only [Act.put, List.setIfInBounds_toArray, List.set_cons_zero, List.set_cons_succ]
          refine wpAnyH_done (by kernel_rfl) ?_ _
          go_wp2_with fail
          go_meet
          exact leaf2 W _ _ _ hs1
      · go_simp
        refine hK.out _ _ ((((Below.refl W.heap.size W).drew).alloc (by simp) _)) (fun hh => ?_)
        clear hK K hHeld
        have hHeld := hh
        clear hh
        try simp only [Act.put, List.setIfInBounds_toArray, List.set_cons_zero, List.set_cons_succ]
        refine wpAnyH_ready (rs := [9, 11]) (by kernel_rfl) (by simp) ?_
        refine (AllReadyH.cons (o := { dst := some 14, op := Op.call { callee := Callee.value (Operand.func 13), args := #[Operand.tmp 13], argTypes := #[3] }, type := 9, pos := "writer.go:103", after := #[{ on := 8, ground := Ground.data }, { on := 4, ground := Ground.chain }], guard := none }) rfl (fun K hK => ?_) (AllReadyH.cons (o := { dst := some 4, op := Op.alloc 9, type := 0, pos := "writer.go:103", after := #[], guard := none }) rfl (fun K hK => ?_) AllReadyH.nil))
        · go_simp
          refine (HNM.out _).mono ?_
          rintro e u ⟨rfl, hu⟩
          subst u
          go_wp2_with fail
          refine hK.out _ _ ((((Below.refl W.heap.size W).drew).alloc (by simp) _)) (fun hh => ?_)
          clear hK K hHeld
          have hHeld := hh
          clear hh
          try simp only [Act.put, List.setIfInBounds_toArray, List.set_cons_zero, List.set_cons_succ]
          refine wpAnyH_ready (rs := [11]) (by kernel_rfl) (by simp) ?_
          refine (AllReadyH.cons (o := { dst := some 4, op := Op.alloc 9, type := 0, pos := "writer.go:103", after := #[], guard := none }) rfl (fun K hK => ?_) AllReadyH.nil)
          go_simp
          refine hK.out _ _ ((((((Below.refl W.heap.size W).drew).alloc (by simp) _)).alloc (by simp) _)) (fun hh => ?_)
          clear hK K hHeld
          have hHeld := hh
          clear hh
          try simp only [Act.put, List.setIfInBounds_toArray, List.set_cons_zero, List.set_cons_succ]
          refine wpAnyH_ready (rs := [12]) (by kernel_rfl) (by simp) ?_
          refine (AllReadyH.cons (o := { dst := none, op := Op.store 9 (Operand.tmp 3) (Operand.tmp 9), type := 0, pos := "writer.go:103", after := #[{ on := 10, ground := Ground.data }, { on := 4, ground := Ground.data }, { on := 9, ground := Ground.chain }, { on := 0, ground := Ground.phase }, { on := 1, ground := Ground.phase }, { on := 2, ground := Ground.phase }, { on := 3, ground := Ground.phase }, { on := 4, ground := Ground.phase }, { on := 5, ground := Ground.textOnly Departure.lateStores }, { on := 6, ground := Ground.textOnly Departure.lateStores }, { on := 7, ground := Ground.textOnly Departure.lateStores }, { on := 8, ground := Ground.textOnly Departure.lateStores }, { on := 9, ground := Ground.textOnly Departure.lateStoresUnsure }, { on := 10, ground := Ground.phase }, { on := 11, ground := Ground.phase }], guard := none }) rfl (fun K hK => ?_) AllReadyH.nil)
          go_simp
          refine hK.out _ _ ((((Below.refl W.heap.size W).alloc (Nat.le_refl _) _).alloc (by simp) _).drew) (fun hh => ?_)
          clear hK K hHeld
          have hHeld := hh
          clear hh
          try simp only [Act.put, List.setIfInBounds_toArray, List.set_cons_zero, List.set_cons_succ]
          refine wpAnyH_ready (rs := [13]) (by kernel_rfl) (by simp) ?_
          refine (AllReadyH.cons (o := { dst := none, op := Op.store 9 (Operand.tmp 4) (Operand.tmp 14), type := 0, pos := "writer.go:103", after := #[{ on := 11, ground := Ground.data }, { on := 9, ground := Ground.data }, { on := 12, ground := Ground.chain }, { on := 0, ground := Ground.phase }, { on := 1, ground := Ground.phase }, { on := 2, ground := Ground.phase }, { on := 3, ground := Ground.phase }, { on := 4, ground := Ground.phase }, { on := 5, ground := Ground.phase }, { on := 6, ground := Ground.phase }, { on := 7, ground := Ground.phase }, { on := 8, ground := Ground.phase }, { on := 9, ground := Ground.phase }, { on := 10, ground := Ground.phase }, { on := 11, ground := Ground.phase }, { on := 12, ground := Ground.phase }], guard := none }) rfl (fun K hK => ?_) AllReadyH.nil)
          go_simp
          refine hK.out _ _ ((((Below.refl W.heap.size W).alloc (Nat.le_refl _) _).alloc (by simp) _).drew) (fun hh => ?_)
          clear hK K hHeld
          have hHeld := hh
          clear hh
          try simp only [Act.put, List.setIfInBounds_toArray, List.set_cons_zero, List.set_cons_succ]
          refine wpAnyH_done (by kernel_rfl) ?_ _
          go_wp2_with fail
          go_meet
          exact leaf1 W _ _ _ hs1
        · go_simp
          refine hK.out _ _ ((((((Below.refl W.heap.size W).drew).alloc (by simp) _)).alloc (by simp) _)) (fun hh => ?_)
          clear hK K hHeld
          have hHeld := hh
          clear hh
          try simp only [Act.put, List.setIfInBounds_toArray, List.set_cons_zero, List.set_cons_succ]
          refine wpAnyH_ready (rs := [9]) (by kernel_rfl) (by simp) ?_
          refine (AllReadyH.cons (o := { dst := some 14, op := Op.call { callee := Callee.value (Operand.func 13), args := #[Operand.tmp 13], argTypes := #[3] }, type := 9, pos := "writer.go:103", after := #[{ on := 8, ground := Ground.data }, { on := 4, ground := Ground.chain }], guard := none }) rfl (fun K hK => ?_) AllReadyH.nil)
          go_simp
          refine (HNM.out _).mono ?_
          rintro e u ⟨rfl, hu⟩
          subst u
          go_wp2_with fail
          refine hK.out _ _ ((((((Below.refl W.heap.size W).drew).alloc (by simp) _)).alloc (by simp) _)) (fun hh => ?_)
          clear hK K hHeld
          have hHeld := hh
          clear hh
          try simp only [Act.put, List.setIfInBounds_toArray, List.set_cons_zero, List.set_cons_succ]
          refine wpAnyH_ready (rs := [12]) (by kernel_rfl) (by simp) ?_
          refine (AllReadyH.cons (o := { dst := none, op := Op.store 9 (Operand.tmp 3) (Operand.tmp 9), type := 0, pos := "writer.go:103", after := #[{ on := 10, ground := Ground.data }, { on := 4, ground := Ground.data }, { on := 9, ground := Ground.chain }, { on := 0, ground := Ground.phase }, { on := 1, ground := Ground.phase }, { on := 2, ground := Ground.phase }, { on := 3, ground := Ground.phase }, { on := 4, ground := Ground.phase }, { on := 5, ground := Ground.textOnly Departure.lateStores }, { on := 6, ground := Ground.textOnly Departure.lateStores }, { on := 7, ground := Ground.textOnly Departure.lateStores }, { on := 8, ground := Ground.textOnly Departure.lateStores }, { on := 9, ground := Ground.textOnly Departure.lateStoresUnsure }, { on := 10, ground := Ground.phase }, { on := 11, ground := Ground.phase }], guard := none }) rfl (fun K hK => ?_) AllReadyH.nil)
          go_simp
          refine hK.out _ _ ((((Below.refl W.heap.size W).alloc (Nat.le_refl _) _).alloc (by simp) _).drew) (fun hh => ?_)
          clear hK K hHeld
          have hHeld := hh
          clear hh
          try simp only [Act.put, List.setIfInBounds_toArray, List.set_cons_zero, List.set_cons_succ]
          refine wpAnyH_ready (rs := [13]) (by kernel_rfl) (by simp) ?_
          refine (AllReadyH.cons (o := { dst := none, op := Op.store 9 (Operand.tmp 4) (Operand.tmp 14), type := 0, pos := "writer.go:103", after := #[{ on := 11, ground := Ground.data }, { on := 9, ground := Ground.data }, { on := 12, ground := Ground.chain }, { on := 0, ground := Ground.phase }, { on := 1, ground := Ground.phase }, { on := 2, ground := Ground.phase }, { on := 3, ground := Ground.phase }, { on := 4, ground := Ground.phase }, { on := 5, ground := Ground.phase }, { on := 6, ground := Ground.phase }, { on := 7, ground := Ground.phase }, { on := 8, ground := Ground.phase }, { on := 9, ground := Ground.phase }, { on := 10, ground := Ground.phase }, { on := 11, ground := Ground.phase }, { on := 12, ground := Ground.phase }], guard := none }) rfl (fun K hK => ?_) AllReadyH.nil)
          go_simp
          refine hK.out _ _ ((((Below.refl W.heap.size W).alloc (Nat.le_refl _) _).alloc (by simp) _).drew) (fun hh => ?_)
          clear hK K hHeld
          have hHeld := hh
          clear hh
          try simp only [Act.put, List.setIfInBounds_toArray, List.set_cons_zero, List.set_cons_succ]
          refine wpAnyH_done (by kernel_rfl) ?_ _
          go_wp2_with fail
          go_meet
          exact leaf1 W _ _ _ hs1
      · go_simp
        refine hK.out _ _ ((((Below.refl W.heap.size W).drew).alloc (by simp) _)) (fun hh => ?_)
        clear hK K hHeld
        have hHeld := hh
        clear hh
        try simp only [Act.put, List.setIfInBounds_toArray, List.set_cons_zero, List.set_cons_succ]
        refine wpAnyH_ready (rs := [9, 10]) (by kernel_rfl) (by simp) ?_
        refine (AllReadyH.cons (o := { dst := some 14, op := Op.call { callee := Callee.value (Operand.func 13), args := #[Operand.tmp 13], argTypes := #[3] }, type := 9, pos := "writer.go:103", after := #[{ on := 8, ground := Ground.data }, { on := 4, ground := Ground.chain }], guard := none }) rfl (fun K hK => ?_) (AllReadyH.cons (o := { dst := some 3, op := Op.alloc 9, type := 0, pos := "writer.go:103", after := #[], guard := none }) rfl (fun K hK => ?_) AllReadyH.nil))
        · go_simp
          refine (HNM.out _).mono ?_
          rintro e u ⟨rfl, hu⟩
          subst u
          go_wp2_with fail
          refine hK.out _ _ ((((Below.refl W.heap.size W).drew).alloc (by simp) _)) (fun hh => ?_)
          clear hK K hHeld
          have hHeld := hh
          clear hh
          try simp only [Act.put, List.setIfInBounds_toArray, List.set_cons_zero, List.set_cons_succ]
          refine wpAnyH_ready (rs := [10]) (by kernel_rfl) (by simp) ?_
          refine (AllReadyH.cons (o := { dst := some 3, op := Op.alloc 9, type := 0, pos := "writer.go:103", after := #[], guard := none }) rfl (fun K hK => ?_) AllReadyH.nil)
          go_simp
          refine hK.out _ _ ((((((Below.refl W.heap.size W).drew).alloc (by simp) _)).alloc (by simp) _)) (fun hh => ?_)
          clear hK K hHeld
          have hHeld := hh
          clear hh
          try simp only [Act.put, List.setIfInBounds_toArray, List.set_cons_zero, List.set_cons_succ]
          refine wpAnyH_ready (rs := [12]) (by kernel_rfl) (by simp) ?_
          refine (AllReadyH.cons (o := { dst := none, op := Op.store 9 (Operand.tmp 3) (Operand.tmp 9), type := 0, pos := "writer.go:103", after := #[{ on := 10, ground := Ground.data }, { on := 4, ground := Ground.data }, { on := 9, ground := Ground.chain }, { on := 0, ground := Ground.phase }, { on := 1, ground := Ground.phase }, { on := 2, ground := Ground.phase }, { on := 3, ground := Ground.phase }, { on := 4, ground := Ground.phase }, { on := 5, ground := Ground.textOnly Departure.lateStores }, { on := 6, ground := Ground.textOnly Departure.lateStores }, { on := 7, ground := Ground.textOnly Departure.lateStores }, { on := 8, ground := Ground.textOnly Departure.lateStores }, { on := 9, ground := Ground.textOnly Departure.lateStoresUnsure }, { on := 10, ground := Ground.phase }, { on := 11, ground := Ground.phase }], guard := none }) rfl (fun K hK => ?_) AllReadyH.nil)
          go_simp
          refine hK.out _ _ ((((Below.refl W.heap.size W).alloc (Nat.le_refl _) _).alloc (by simp) _).drew) (fun hh => ?_)
          clear hK K hHeld
          have hHeld := hh
          clear hh
          try simp only [Act.put, List.setIfInBounds_toArray, List.set_cons_zero, List.set_cons_succ]
          refine wpAnyH_ready (rs := [13]) (by kernel_rfl) (by simp) ?_
          refine (AllReadyH.cons (o := { dst := none, op := Op.store 9 (Operand.tmp 4) (Operand.tmp 14), type := 0, pos := "writer.go:103", after := #[{ on := 11, ground := Ground.data }, { on := 9, ground := Ground.data }, { on := 12, ground := Ground.chain }, { on := 0, ground := Ground.phase }, { on := 1, ground := Ground.phase }, { on := 2, ground := Ground.phase }, { on := 3, ground := Ground.phase }, { on := 4, ground := Ground.phase }, { on := 5, ground := Ground.phase }, { on := 6, ground := Ground.phase }, { on := 7, ground := Ground.phase }, { on := 8, ground := Ground.phase }, { on := 9, ground := Ground.phase }, { on := 10, ground := Ground.phase }, { on := 11, ground := Ground.phase }, { on := 12, ground := Ground.phase }], guard := none }) rfl (fun K hK => ?_) AllReadyH.nil)
          go_simp
          refine hK.out _ _ ((((Below.refl W.heap.size W).alloc (Nat.le_refl _) _).alloc (by simp) _).drew) (fun hh => ?_)
          clear hK K hHeld
          have hHeld := hh
          clear hh
          try simp only [Act.put, List.setIfInBounds_toArray, List.set_cons_zero, List.set_cons_succ]
          refine wpAnyH_done (by kernel_rfl) ?_ _
          go_wp2_with fail
          go_meet
          exact leaf2 W _ _ _ hs1
        · go_simp
          refine hK.out _ _ ((((((Below.refl W.heap.size W).drew).alloc (by simp) _)).alloc (by simp) _)) (fun hh => ?_)
          clear hK K hHeld
          have hHeld := hh
          clear hh
          try simp only [Act.put, List.setIfInBounds_toArray, List.set_cons_zero, List.set_cons_succ]
          refine wpAnyH_ready (rs := [9]) (by kernel_rfl) (by simp) ?_
          refine (AllReadyH.cons (o := { dst := some 14, op := Op.call { callee := Callee.value (Operand.func 13), args := #[Operand.tmp 13], argTypes := #[3] }, type := 9, pos := "writer.go:103", after := #[{ on := 8, ground := Ground.data }, { on := 4, ground := Ground.chain }], guard := none }) rfl (fun K hK => ?_) AllReadyH.nil)
          go_simp
          refine (HNM.out _).mono ?_
          rintro e u ⟨rfl, hu⟩
          subst u
          go_wp2_with fail
          refine hK.out _ _ ((((((Below.refl W.heap.size W).drew).alloc (by simp) _)).alloc (by simp) _)) (fun hh => ?_)
          clear hK K hHeld
          have hHeld := hh
          clear hh
          try simp only [Act.put, List.setIfInBounds_toArray, List.set_cons_zero, List.set_cons_succ]
          refine wpAnyH_ready (rs := [12]) (by kernel_rfl) (by simp) ?_
          refine (AllReadyH.cons (o := { dst := none, op := Op.store 9 (Operand.tmp 3) (Operand.tmp 9), type := 0, pos := "writer.go:103", after := #[{ on := 10, ground := Ground.data }, { on := 4, ground := Ground.data }, { on := 9, ground := Ground.chain }, { on := 0, ground := Ground.phase }, { on := 1, ground := Ground.phase }, { on := 2, ground := Ground.phase }, { on := 3, ground := Ground.phase }, { on := 4, ground := Ground.phase }, { on := 5, ground := Ground.textOnly Departure.lateStores }, { on := 6, ground := Ground.textOnly Departure.lateStores }, { on := 7, ground := Ground.textOnly Departure.lateStores }, { on := 8, ground := Ground.textOnly Departure.lateStores }, { on := 9, ground := Ground.textOnly Departure.lateStoresUnsure }, { on := 10, ground := Ground.phase }, { on := 11, ground := Ground.phase }], guard := none }) rfl (fun K hK => ?_) AllReadyH.nil)
          go_simp
          refine hK.out _ _ ((((Below.refl W.heap.size W).alloc (Nat.le_refl _) _).alloc (by simp) _).drew) (fun hh => ?_)
          clear hK K hHeld
          have hHeld := hh
          clear hh
          try simp only [Act.put, List.setIfInBounds_toArray, List.set_cons_zero, List.set_cons_succ]
          refine wpAnyH_ready (rs := [13]) (by kernel_rfl) (by simp) ?_
          refine (AllReadyH.cons (o := { dst := none, op := Op.store 9 (Operand.tmp 4) (Operand.tmp 14), type := 0, pos := "writer.go:103", after := #[{ on := 11, ground := Ground.data }, { on := 9, ground := Ground.data }, { on := 12, ground := Ground.chain }, { on := 0, ground := Ground.phase }, { on := 1, ground := Ground.phase }, { on := 2, ground := Ground.phase }, { on := 3, ground := Ground.phase }, { on := 4, ground := Ground.phase }, { on := 5, ground := Ground.phase }, { on := 6, ground := Ground.phase }, { on := 7, ground := Ground.phase }, { on := 8, ground := Ground.phase }, { on := 9, ground := Ground.phase }, { on := 10, ground := Ground.phase }, { on := 11, ground := Ground.phase }, { on := 12, ground := Ground.phase }], guard := none }) rfl (fun K hK => ?_) AllReadyH.nil)
          go_simp
          refine hK.out _ _ ((((Below.refl W.heap.size W).alloc (Nat.le_refl _) _).alloc (by simp) _).drew) (fun hh => ?_)
          clear hK K hHeld
          have hHeld := hh
          clear hh
          try simp only [Act.put, List.setIfInBounds_toArray, List.set_cons_zero, List.set_cons_succ]
          refine wpAnyH_done (by kernel_rfl) ?_ _
          go_wp2_with fail
          go_meet
          exact leaf2 W _ _ _ hs1
    · go_simp
      refine hK.out _ _ ((((Below.refl W.heap.size W).drew).alloc (by simp) _)) (fun hh => ?_)
      clear hK K hHeld
      have hHeld := hh
      clear hh
      try simp only [Act.put, List.setIfInBounds_toArray, List.set_cons_zero, List.set_cons_succ]
      refine wpAnyH_ready (rs := [4, 11]) (by kernel_rfl) (by simp) ?_
      refine (AllReadyH.cons (o := { dst := some 9, op := Op.call { callee := Callee.value (Operand.func 56), args := #[Operand.tmp 8], argTypes := #[3] }, type := 9, pos := "writer.go:103", after := #[{ on := 3, ground := Ground.data }], guard := none }) rfl (fun K hK => ?_) (AllReadyH.cons (o := { dst := some 4, op := Op.alloc 9, type := 0, pos := "writer.go:103", after := #[], guard := none }) rfl (fun K hK => ?_) AllReadyH.nil))
      · go_simp
        refine (HTM.out _).mono ?_
        rintro e u ⟨rfl, hu⟩
        subst u
        go_wp2_with fail
        refine hK.out _ _ ((((Below.refl W.heap.size W).drew).alloc (by simp) _)) (fun hh => ?_)
        clear hK K hHeld
        have hHeld := hh
        clear hh
        try simp only [Act.put, List.setIfInBounds_toArray, List.set_cons_zero, List.set_cons_succ]
        refine wpAnyH_ready (rs := [9, 11]) (by kernel_rfl) (by simp) ?_
        refine (AllReadyH.cons (o := { dst := some 14, op := Op.call { callee := Callee.value (Operand.func 13), args := #[Operand.tmp 13], argTypes := #[3] }, type := 9, pos := "writer.go:103", after := #[{ on := 8, ground := Ground.data }, { on := 4, ground := Ground.chain }], guard := none }) rfl (fun K hK => ?_) (AllReadyH.cons (o := { dst := some 4, op := Op.alloc 9, type := 0, pos := "writer.go:103", after := #[], guard := none }) rfl (fun K hK => ?_) AllReadyH.nil))
        · go_simp
          refine (HNM.out _).mono ?_
          rintro e u ⟨rfl, hu⟩
          subst u
          go_wp2_with fail
          refine hK.out _ _ ((((Below.refl W.heap.size W).drew).alloc (by simp) _)) (fun hh => ?_)
          clear hK K hHeld
          have hHeld := hh
          clear hh
          try simp only [Act.put, List.setIfInBounds_toArray, List.set_cons_zero, List.set_cons_succ]
          refine wpAnyH_ready (rs := [11]) (by kernel_rfl) (by simp) ?_
          refine (AllReadyH.cons (o := { dst := some 4, op := Op.alloc 9, type := 0, pos := "writer.go:103", after := #[], guard := none }) rfl (fun K hK => ?_) AllReadyH.nil)
          go_simp
          refine hK.out _ _ ((((((Below.refl W.heap.size W).drew).alloc (by simp) _)).alloc (by simp) _)) (fun hh => ?_)
          clear hK K hHeld
          have hHeld := hh
          clear hh
          try simp only [Act.put, List.setIfInBounds_toArray, List.set_cons_zero, List.set_cons_succ]
          refine wpAnyH_ready (rs := [12]) (by kernel_rfl) (by simp) ?_
          refine (AllReadyH.cons (o := { dst := none, op := Op.store 9 (Operand.tmp 3) (Operand.tmp 9), type := 0, pos := "writer.go:103", after := #[{ on := 10, ground := Ground.data }, { on := 4, ground := Ground.data }, { on := 9, ground := Ground.chain }, { on := 0, ground := Ground.phase }, { on := 1, ground := Ground.phase }, { on := 2, ground := Ground.phase }, { on := 3, ground := Ground.phase }, { on := 4, ground := Ground.phase }, { on := 5, ground := Ground.textOnly Departure.lateStores }, { on := 6, ground := Ground.textOnly Departure.lateStores }, { on := 7, ground := Ground.textOnly Departure.lateStores }, { on := 8, ground := Ground.textOnly Departure.lateStores }, { on := 9, ground := Ground.textOnly Departure.lateStoresUnsure }, { on := 10, ground := Ground.phase }, { on := 11, ground := Ground.phase }], guard := none }) rfl (fun K hK => ?_) AllReadyH.nil)
          go_simp
          refine hK.out _ _ ((((Below.refl W.heap.size W).alloc (Nat.le_refl _) _).alloc (by simp) _).drew) (fun hh => ?_)
          clear hK K hHeld
          have hHeld := hh
          clear hh
          try simp only [Act.put, List.setIfInBounds_toArray, List.set_cons_zero, List.set_cons_succ]
          refine wpAnyH_ready (rs := [13]) (by kernel_rfl) (by simp) ?_
          refine (AllReadyH.cons (o := { dst := none, op := Op.store 9 (Operand.tmp 4) (Operand.tmp 14), type := 0, pos := "writer.go:103", after := #[{ on := 11, ground := Ground.data }, { on := 9, ground := Ground.data }, { on := 12, ground := Ground.chain }, { on := 0, ground := Ground.phase }, { on := 1, ground := Ground.phase }, { on := 2, ground := Ground.phase }, { on := 3, ground := Ground.phase }, { on := 4, ground := Ground.phase }, { on := 5, ground := Ground.phase }, { on := 6, ground := Ground.phase }, { on := 7, ground := Ground.phase }, { on := 8, ground := Ground.phase }, { on := 9, ground := Ground.phase }, { on := 10, ground := Ground.phase }, { on := 11, ground := Ground.phase }, { on := 12, ground := Ground.phase }], guard := none }) rfl (fun K hK => ?_) AllReadyH.nil)
          go_simp
          refine hK.out _ _ ((((Below.refl W.heap.size W).alloc (Nat.le_refl _) _).alloc (by simp) _).drew) (fun hh => ?_)
          clear hK K hHeld
          have hHeld := hh
          clear hh
          try simp only [Act.put, List.setIfInBounds_toArray, List.set_cons_zero, List.set_cons_succ]
          refine wpAnyH_done (by kernel_rfl) ?_ _
          go_wp2_with fail
          go_meet
          exact leaf1 W _ _ _ hs1
        · go_simp
          refine hK.out _ _ ((((((Below.refl W.heap.size W).drew).alloc (by simp) _)).alloc (by simp) _)) (fun hh => ?_)
          clear hK K hHeld
          have hHeld := hh
          clear hh
          try simp only [Act.put, List.setIfInBounds_toArray, List.set_cons_zero, List.set_cons_succ]
          refine wpAnyH_ready (rs := [9]) (by kernel_rfl) (by simp) ?_
          refine (AllReadyH.cons (o := { dst := some 14, op := Op.call { callee := Callee.value (Operand.func 13), args := #[Operand.tmp 13], argTypes := #[3] }, type := 9, pos := "writer.go:103", after := #[{ on := 8, ground := Ground.data }, { on := 4, ground := Ground.chain }], guard := none }) rfl (fun K hK => ?_) AllReadyH.nil)
          go_simp
          refine (HNM.out _).mono ?_
          rintro e u ⟨rfl, hu⟩
          subst u
          go_wp2_with fail
          refine hK.out _ _ ((((((Below.refl W.heap.size W).drew).alloc (by simp) _)).alloc (by simp) _)) (fun hh => ?_)
          clear hK K hHeld
          have hHeld := hh
          clear hh
          try simp only [Act.put, List.setIfInBounds_toArray, List.set_cons_zero, List.set_cons_succ]
          refine wpAnyH_ready (rs := [12]) (by kernel_rfl) (by simp) ?_
          refine (AllReadyH.cons (o := { dst := none, op := Op.store 9 (Operand.tmp 3) (Operand.tmp 9), type := 0, pos := "writer.go:103", after := #[{ on := 10, ground := Ground.data }, { on := 4, ground := Ground.data }, { on := 9, ground := Ground.chain }, { on := 0, ground := Ground.phase }, { on := 1, ground := Ground.phase }, { on := 2, ground := Ground.phase }, { on := 3, ground := Ground.phase }, { on := 4, ground := Ground.phase }, { on := 5, ground := Ground.textOnly Departure.lateStores }, { on := 6, ground := Ground.textOnly Departure.lateStores }, { on := 7, ground := Ground.textOnly Departure.lateStores }, { on := 8, ground := Ground.textOnly Departure.lateStores }, { on := 9, ground := Ground.textOnly Departure.lateStoresUnsure }, { on := 10, ground := Ground.phase }, { on := 11, ground := Ground.phase }], guard := none }) rfl (fun K hK => ?_) AllReadyH.nil)
          go_simp
          refine hK.out _ _ ((((Below.refl W.heap.size W).alloc (Nat.le_refl _) _).alloc (by simp) _).drew) (fun hh => ?_)
          clear hK K hHeld
          have hHeld := hh
          clear hh
          try simp only [Act.put, List.setIfInBounds_toArray, List.set_cons_zero, List.set_cons_succ]
          refine wpAnyH_ready (rs := [13]) (by kernel_rfl) (by simp) ?_
          refine (AllReadyH.cons (o := { dst := none, op := Op.store 9 (Operand.tmp 4) (Operand.tmp 14), type := 0, pos := "writer.go:103", after := #[{ on := 11, ground := Ground.data }, { on := 9, ground := Ground.data }, { on := 12, ground := Ground.chain }, { on := 0, ground := Ground.phase }, { on := 1, ground := Ground.phase }, { on := 2, ground := Ground.phase }, { on := 3, ground := Ground.phase }, { on := 4, ground := Ground.phase }, { on := 5, ground := Ground.phase }, { on := 6, ground := Ground.phase }, { on := 7, ground := Ground.phase }, { on := 8, ground := Ground.phase }, { on := 9, ground := Ground.phase }, { on := 10, ground := Ground.phase }, { on := 11, ground := Ground.phase }, { on := 12, ground := Ground.phase }], guard := none }) rfl (fun K hK => ?_) AllReadyH.nil)
          go_simp
          refine hK.out _ _ ((((Below.refl W.heap.size W).alloc (Nat.le_refl _) _).alloc (by simp) _).drew) (fun hh => ?_)
          clear hK K hHeld
          have hHeld := hh
          clear hh
          try simp only [Act.put, List.setIfInBounds_toArray, List.set_cons_zero, List.set_cons_succ]
          refine wpAnyH_done (by kernel_rfl) ?_ _
          go_wp2_with fail
          go_meet
          exact leaf1 W _ _ _ hs1
      · go_simp
        refine hK.out _ _ ((((((Below.refl W.heap.size W).drew).alloc (by simp) _)).alloc (by simp) _)) (fun hh => ?_)
        clear hK K hHeld
        have hHeld := hh
        clear hh
        try simp only [Act.put, List.setIfInBounds_toArray, List.set_cons_zero, List.set_cons_succ]
        refine wpAnyH_ready (rs := [4]) (by kernel_rfl) (by simp) ?_
        refine (AllReadyH.cons (o := { dst := some 9, op := Op.call { callee := Callee.value (Operand.func 56), args := #[Operand.tmp 8], argTypes := #[3] }, type := 9, pos := "writer.go:103", after := #[{ on := 3, ground := Ground.data }], guard := none }) rfl (fun K hK => ?_) AllReadyH.nil)
        go_simp
        refine (HTM.out _).mono ?_
        rintro e u ⟨rfl, hu⟩
        subst u
        go_wp2_with fail
        refine hK.out _ _ ((((((Below.refl W.heap.size W).drew).alloc (by simp) _)).alloc (by simp) _)) (fun hh => ?_)
        clear hK K hHeld
        have hHeld := hh
        clear hh
        try simp only [Act.put, List.setIfInBounds_toArray, List.set_cons_zero, List.set_cons_succ]
        refine wpAnyH_ready (rs := [9]) (by kernel_rfl) (by simp) ?_
        refine (AllReadyH.cons (o := { dst := some 14, op := Op.call { callee := Callee.value (Operand.func 13), args := #[Operand.tmp 13], argTypes := #[3] }, type := 9, pos := "writer.go:103", after := #[{ on := 8, ground := Ground.data }, { on := 4, ground := Ground.chain }], guard := none }) rfl (fun K hK => ?_) AllReadyH.nil)
        go_simp
        refine (HNM.out _).mono ?_
        rintro e u ⟨rfl, hu⟩
        subst u
        go_wp2_with fail
        refine hK.out _ _ ((((((Below.refl W.heap.size W).drew).alloc (by simp) _)).alloc (by simp) _)) (fun hh => ?_)
        clear hK K hHeld
        have hHeld := hh
        clear hh
        try simp only [Act.put, List.setIfInBounds_toArray, List.set_cons_zero, List.set_cons_succ]
        refine wpAnyH_ready (rs := [12]) (by kernel_rfl) (by simp) ?_
        refine (AllReadyH.cons (o := { dst := none, op := Op.store 9 (Operand.tmp 3) (Operand.tmp 9), type := 0, pos := "writer.go:103", after := #[{ on := 10, ground := Ground.data }, { on := 4, ground := Ground.data }, { on := 9, ground := Ground.chain }, { on := 0, ground := Ground.phase }, { on := 1, ground := Ground.phase }, { on := 2, ground := Ground.phase }, { on := 3, ground := Ground.phase }, { on := 4, ground := Ground.phase }, { on := 5, ground := Ground.textOnly Departure.lateStores }, { on := 6, ground := Ground.textOnly Departure.lateStores }, { on := 7, ground := Ground.textOnly Departure.lateStores }, { on := 8, ground := Ground.textOnly Departure.lateStores }, { on := 9, ground := Ground.textOnly Departure.lateStoresUnsure }, { on := 10, ground := Ground.phase }, { on := 11, ground := Ground.phase }], guard := none }) rfl (fun K hK => ?_) AllReadyH.nil)
        go_simp
        refine hK.out _ _ ((((Below.refl W.heap.size W).alloc (Nat.le_refl _) _).alloc (by simp) _).drew) (fun hh => ?_)
        clear hK K hHeld
        have hHeld := hh
        clear hh
        try simp only [Act.put, List.setIfInBounds_toArray, List.set_cons_zero, List.set_cons_succ]
        refine wpAnyH_ready (rs := [13]) (by kernel_rfl) (by simp) ?_
        refine (AllReadyH.cons (o := { dst := none, op := Op.store 9 (Operand.tmp 4) (Operand.tmp 14), type := 0, pos := "writer.go:103", after := #[{ on := 11, ground := Ground.data }, { on := 9, ground := Ground.data }, { on := 12, ground := Ground.chain }, { on := 0, ground := Ground.phase }, { on := 1, ground := Ground.phase }, { on := 2, ground := Ground.phase }, { on := 3, ground := Ground.phase }, { on := 4, ground := Ground.phase }, { on := 5, ground := Ground.phase }, { on := 6, ground := Ground.phase }, { on := 7, ground := Ground.phase }, { on := 8, ground := Ground.phase }, { on := 9, ground := Ground.phase }, { on := 10, ground := Ground.phase }, { on := 11, ground := Ground.phase }, { on := 12, ground := Ground.phase }], guard := none }) rfl (fun K hK => ?_) AllReadyH.nil)
        go_simp
        refine hK.out _ _ ((((Below.refl W.heap.size W).alloc (Nat.le_refl _) _).alloc (by simp) _).drew) (fun hh => ?_)
        clear hK K hHeld
        have hHeld := hh
        clear hh
        try simp only [Act.put, List.setIfInBounds_toArray, List.set_cons_zero, List.set_cons_succ]
        refine wpAnyH_done (by kernel_rfl) ?_ _
        go_wp2_with fail
        go_meet
        exact leaf1 W _ _ _ hs1
    · go_simp
      refine hK.out _ _ ((((Below.refl W.heap.size W).drew).alloc (by simp) _)) (fun hh => ?_)
      clear hK K hHeld
      have hHeld := hh
      clear hh
      try simp only [Act.put, List.setIfInBounds_toArray, List.set_cons_zero, List.set_cons_succ]
      refine wpAnyH_ready (rs := [4, 10]) (by kernel_rfl) (by simp) ?_
      refine (AllReadyH.cons (o := { dst := some 9, op := Op.call { callee := Callee.value (Operand.func 56), args := #[Operand.tmp 8], argTypes := #[3] }, type := 9, pos := "writer.go:103", after := #[{ on := 3, ground := Ground.data }], guard := none }) rfl (fun K hK => ?_) (AllReadyH.cons (o := { dst := some 3, op := Op.alloc 9, type := 0, pos := "writer.go:103", after := #[], guard := none }) rfl (fun K hK => ?_) AllReadyH.nil))
      · go_simp
        refine (HTM.out _).mono ?_
        rintro e u ⟨rfl, hu⟩
        subst u
        go_wp2_with fail
        refine hK.out _ _ ((((Below.refl W.heap.size W).drew).alloc (by simp) _)) (fun hh => ?_)
        clear hK K hHeld
        have hHeld := hh
        clear hh
        try simp only [Act.put, List.setIfInBounds_toArray, List.set_cons_zero, List.set_cons_succ]
        refine wpAnyH_ready (rs := [9, 10]) (by kernel_rfl) (by simp) ?_
        refine (AllReadyH.cons (o := { dst := some 14, op := Op.call { callee := Callee.value (Operand.func 13), args := #[Operand.tmp 13], argTypes := #[3] }, type := 9, pos := "writer.go:103", after := #[{ on := 8, ground := Ground.data }, { on := 4, ground := Ground.chain }], guard := none }) rfl (fun K hK => ?_) (AllReadyH.cons (o := { dst := some 3, op := Op.alloc 9, type := 0, pos := "writer.go:103", after := #[], guard := none }) rfl (fun K hK => ?_) AllReadyH.nil))
        · go_simp
          refine (HNM.out _).mono ?_
          rintro e u ⟨rfl, hu⟩
          subst u
          go_wp2_with fail
          refine hK.out _ _ ((((Below.refl W.heap.size W).drew).alloc (by simp) _)) (fun hh => ?_)
          clear hK K hHeld
          have hHeld := hh
          clear hh
          try simp only [Act.put, List.setIfInBounds_toArray, List.set_cons_zero, List.set_cons_succ]
          refine wpAnyH_ready (rs := [10]) (by kernel_rfl) (by simp) ?_
          refine (AllReadyH.cons (o := { dst := some 3, op := Op.alloc 9, type := 0, pos := "writer.go:103", after := #[], guard := none }) rfl (fun K hK => ?_) AllReadyH.nil)
          go_simp
          refine hK.out _ _ ((((((Below.refl W.heap.size W).drew).alloc (by simp) _)).alloc (by simp) _)) (fun hh => ?_)
          clear hK K hHeld
          have hHeld := hh
          clear hh
          try simp only [Act.put, List.setIfInBounds_toArray, List.set_cons_zero, List.set_cons_succ]
          refine wpAnyH_ready (rs := [12]) (by kernel_rfl) (by simp) ?_
          refine (AllReadyH.cons (o := { dst := none, op := Op.store 9 (Operand.tmp 3) (Operand.tmp 9), type := 0, pos := "writer.go:103", after := #[{ on := 10, ground := Ground.data }, { on := 4, ground := Ground.data }, { on := 9, ground := Ground.chain }, { on := 0, ground := Ground.phase }, { on := 1, ground := Ground.phase }, { on := 2, ground := Ground.phase }, { on := 3, ground := Ground.phase }, { on := 4, ground := Ground.phase }, { on := 5, ground := Ground.textOnly Departure.lateStores }, { on := 6, ground := Ground.textOnly Departure.lateStores }, { on := 7, ground := Ground.textOnly Departure.lateStores }, { on := 8, ground := Ground.textOnly Departure.lateStores }, { on := 9, ground := Ground.textOnly Departure.lateStoresUnsure }, { on := 10, ground := Ground.phase }, { on := 11, ground := Ground.phase }], guard := none }) rfl (fun K hK => ?_) AllReadyH.nil)
          go_simp
          refine hK.out _ _ ((((Below.refl W.heap.size W).alloc (Nat.le_refl _) _).alloc (by simp) _).drew) (fun hh => ?_)
          clear hK K hHeld
          have hHeld := hh
          clear hh
          try simp only [Act.put, List.setIfInBounds_toArray, List.set_cons_zero, List.set_cons_succ]
          refine wpAnyH_ready (rs := [13]) (by kernel_rfl) (by simp) ?_
          refine (AllReadyH.cons (o := { dst := none, op := Op.store 9 (Operand.tmp 4) (Operand.tmp 14), type := 0, pos := "writer.go:103", after := #[{ on := 11, ground := Ground.data }, { on := 9, ground := Ground.data }, { on := 12, ground := Ground.chain }, { on := 0, ground := Ground.phase }, { on := 1, ground := Ground.phase }, { on := 2, ground := Ground.phase }, { on := 3, ground := Ground.phase }, { on := 4, ground := Ground.phase }, { on := 5, ground := Ground.phase }, { on := 6, ground := Ground.phase }, { on := 7, ground := Ground.phase }, { on := 8, ground := Ground.phase }, { on := 9, ground := Ground.phase }, { on := 10, ground := Ground.phase }, { on := 11, ground := Ground.phase }, { on := 12, ground := Ground.phase }], guard := none }) rfl (fun K hK => ?_) AllReadyH.nil)
          go_simp
          refine hK.out _ _ ((((Below.refl W.heap.size W).alloc (Nat.le_refl _) _).alloc (by simp) _).drew) (fun hh => ?_)
          clear hK K hHeld
          have hHeld := hh
          clear hh
          try simp only [Act.put, List.setIfInBounds_toArray, List.set_cons_zero, List.set_cons_succ]
          refine wpAnyH_done (by kernel_rfl) ?_ _
          go_wp2_with fail
          go_meet
          exact leaf2 W _ _ _ hs1
        · go_simp
          refine hK.out _ _ ((((((Below.refl W.heap.size W).drew).alloc (by simp) _)).alloc (by simp) _)) (fun hh => ?_)
          clear hK K hHeld
          have hHeld := hh
          clear hh
          try simp only [Act.put, List.setIfInBounds_toArray, List.set_cons_zero, List.set_cons_succ]
          refine wpAnyH_ready (rs := [9]) (by kernel_rfl) (by simp) ?_
          refine (AllReadyH.cons (o := { dst := some 14, op := Op.call { callee := Callee.value (Operand.func 13), args := #[Operand.tmp 13], argTypes := #[3] }, type := 9, pos := "writer.go:103", after := #[{ on := 8, ground := Ground.data }, { on := 4, ground := Ground.chain }], guard := none }) rfl (fun K hK => ?_) AllReadyH.nil)
          go_simp
          refine (HNM.out _).mono ?_
          rintro e u ⟨rfl, hu⟩
          subst u
          go_wp2_with fail
          refine hK.out _ _ ((((((Below.refl W.heap.size W).drew).alloc (by simp) _)).alloc (by simp) _)) (fun hh => ?_)
          clear hK K hHeld
          have hHeld := hh
          clear hh
          try simp only [Act.put, List.setIfInBounds_toArray, List.set_cons_zero, List.set_cons_succ]
          refine wpAnyH_ready (rs := [12]) (by kernel_rfl) (by simp) ?_
          refine (AllReadyH.cons (o := { dst := none, op := Op.store 9 (Operand.tmp 3) (Operand.tmp 9), type := 0, pos := "writer.go:103", after := #[{ on := 10, ground := Ground.data }, { on := 4, ground := Ground.data }, { on := 9, ground := Ground.chain }, { on := 0, ground := Ground.phase }, { on := 1, ground := Ground.phase }, { on := 2, ground := Ground.phase }, { on := 3, ground := Ground.phase }, { on := 4, ground := Ground.phase }, { on := 5, ground := Ground.textOnly Departure.lateStores }, { on := 6, ground := Ground.textOnly Departure.lateStores }, { on := 7, ground := Ground.textOnly Departure.lateStores }, { on := 8, ground := Ground.textOnly Departure.lateStores }, { on := 9, ground := Ground.textOnly Departure.lateStoresUnsure }, { on := 10, ground := Ground.phase }, { on := 11, ground := Ground.phase }], guard := none }) rfl (fun K hK => ?_) AllReadyH.nil)
          go_simp
          refine hK.out _ _ ((((Below.refl W.heap.size W).alloc (Nat.le_refl _) _).alloc (by simp) _).drew) (fun hh => ?_)
          clear hK K hHeld
          have hHeld := hh
          clear hh
          try simp only [Act.put, List.setIfInBounds_toArray, List.set_cons_zero, List.set_cons_succ]
          refine wpAnyH_ready (rs := [13]) (by kernel_rfl) (by simp) ?_
          refine (AllReadyH.cons (o := { dst := none, op := Op.store 9 (Operand.tmp 4) (Operand.tmp 14), type := 0, pos := "writer.go:103", after := #[{ on := 11, ground := Ground.data }, { on := 9, ground := Ground.data }, { on := 12, ground := Ground.chain }, { on := 0, ground := Ground.phase }, { on := 1, ground := Ground.phase }, { on := 2, ground := Ground.phase }, { on := 3, ground := Ground.phase }, { on := 4, ground := Ground.phase }, { on := 5, ground := Ground.phase }, { on := 6, ground := Ground.phase }, { on := 7, ground := Ground.phase }, { on := 8, ground := Ground.phase }, { on := 9, ground := Ground.phase }, { on := 10, ground := Ground.phase }, { on := 11, ground := Ground.phase }, { on := 12, ground := Ground.phase }], guard := none }) rfl (fun K hK => ?_) AllReadyH.nil)
          go_simp
          refine hK.out _ _ ((((Below.refl W.heap.size W).alloc (Nat.le_refl _) _).alloc (by simp) _).drew) (fun hh => ?_)
          clear hK K hHeld
          have hHeld := hh
          clear hh
          try simp only [Act.put, List.setIfInBounds_toArray, List.set_cons_zero, List.set_cons_succ]
          refine wpAnyH_done (by kernel_rfl) ?_ _
          go_wp2_with fail
          go_meet
          exact leaf2 W _ _ _ hs1
      · go_simp
        refine hK.out _ _ ((((((Below.refl W.heap.size W).drew).alloc (by simp) _)).alloc (by simp) _)) (fun hh => ?_)
        clear hK K hHeld
        have hHeld := hh
        clear hh
        try simp only [Act.put, List.setIfInBounds_toArray, List.set_cons_zero, List.set_cons_succ]
        refine wpAnyH_ready (rs := [4]) (by kernel_rfl) (by simp) ?_
        refine (AllReadyH.cons (o := { dst := some 9, op := Op.call { callee := Callee.value (Operand.func 56), args := #[Operand.tmp 8], argTypes := #[3] }, type := 9, pos := "writer.go:103", after := #[{ on := 3, ground := Ground.data }], guard := none }) rfl (fun K hK => ?_) AllReadyH.nil)
        go_simp
        refine (HTM.out _).mono ?_
        rintro e u ⟨rfl, hu⟩
        subst u
        go_wp2_with fail
        refine hK.out _ _ ((((((Below.refl W.heap.size W).drew).alloc (by simp) _)).alloc (by simp) _)) (fun hh => ?_)
        clear hK K hHeld
        have hHeld := hh
        clear hh
        try simp only [Act.put, List.setIfInBounds_toArray, List.set_cons_zero, List.set_cons_succ]
        refine wpAnyH_ready (rs := [9]) (by kernel_rfl) (by simp) ?_
        refine (AllReadyH.cons (o := { dst := some 14, op := Op.call { callee := Callee.value (Operand.func 13), args := #[Operand.tmp 13], argTypes := #[3] }, type := 9, pos := "writer.go:103", after := #[{ on := 8, ground := Ground.data }, { on := 4, ground := Ground.chain }], guard := none }) rfl (fun K hK => ?_) AllReadyH.nil)
        go_simp
        refine (HNM.out _).mono ?_
        rintro e u ⟨rfl, hu⟩
        subst u
        go_wp2_with fail
        refine hK.out _ _ ((((((Below.refl W.heap.size W).drew).alloc (by simp) _)).alloc (by simp) _)) (fun hh => ?_)
        clear hK K hHeld
        have hHeld := hh
        clear hh
        try simp only [Act.put, List.setIfInBounds_toArray, List.set_cons_zero, List.set_cons_succ]
        refine wpAnyH_ready (rs := [12]) (by kernel_rfl) (by simp) ?_
        refine (AllReadyH.cons (o := { dst := none, op := Op.store 9 (Operand.tmp 3) (Operand.tmp 9), type := 0, pos := "writer.go:103", after := #[{ on := 10, ground := Ground.data }, { on := 4, ground := Ground.data }, { on := 9, ground := Ground.chain }, { on := 0, ground := Ground.phase }, { on := 1, ground := Ground.phase }, { on := 2, ground := Ground.phase }, { on := 3, ground := Ground.phase }, { on := 4, ground := Ground.phase }, { on := 5, ground := Ground.textOnly Departure.lateStores }, { on := 6, ground := Ground.textOnly Departure.lateStores }, { on := 7, ground := Ground.textOnly Departure.lateStores }, { on := 8, ground := Ground.textOnly Departure.lateStores }, { on := 9, ground := Ground.textOnly Departure.lateStoresUnsure }, { on := 10, ground := Ground.phase }, { on := 11, ground := Ground.phase }], guard := none }) rfl (fun K hK => ?_) AllReadyH.nil)
        go_simp
        refine hK.out _ _ ((((Below.refl W.heap.size W).alloc (Nat.le_refl _) _).alloc (by simp) _).drew) (fun hh => ?_)
        clear hK K hHeld
        have hHeld := hh
        clear hh
        try simp only [Act.put, List.setIfInBounds_toArray, List.set_cons_zero, List.set_cons_succ]
        refine wpAnyH_ready (rs := [13]) (by kernel_rfl) (by simp) ?_
        refine (AllReadyH.cons (o := { dst := none, op := Op.store 9 (Operand.tmp 4) (Operand.tmp 14), type := 0, pos := "writer.go:103", after := #[{ on := 11, ground := Ground.data }, { on := 9, ground := Ground.data }, { on := 12, ground := Ground.chain }, { on := 0, ground := Ground.phase }, { on := 1, ground := Ground.phase }, { on := 2, ground := Ground.phase }, { on := 3, ground := Ground.phase }, { on := 4, ground := Ground.phase }, { on := 5, ground := Ground.phase }, { on := 6, ground := Ground.phase }, { on := 7, ground := Ground.phase }, { on := 8, ground := Ground.phase }, { on := 9, ground := Ground.phase }, { on := 10, ground := Ground.phase }, { on := 11, ground := Ground.phase }, { on := 12, ground := Ground.phase }], guard := none }) rfl (fun K hK => ?_) AllReadyH.nil)
        go_simp
        refine hK.out _ _ ((((Below.refl W.heap.size W).alloc (Nat.le_refl _) _).alloc (by simp) _).drew) (fun hh => ?_)
        clear hK K hHeld
        have hHeld := hh
        clear hh
        try simp only [Act.put, List.setIfInBounds_toArray, List.set_cons_zero, List.set_cons_succ]
        refine wpAnyH_done (by kernel_rfl) ?_ _
        go_wp2_with fail
        go_meet
        exact leaf2 W _ _ _ hs1
  case rest =>
    obtain ⟨c3, c4, rfl, rfl, k3, k4, l3, l4, hB⟩ := hcut.out
    have hmk := Sim.hmf
    have hc2 : Blk W (w.heap.size + 1) 168 [.nilFunc, .nilFunc, .nilFunc] := by
      rw [← hWW]
      have h := Blk.new (w.alloc (.cells #[.pointer (some ⟨g, 0, none⟩)] 130)) 168 [.nilFunc, .nilFunc, .nilFunc]
      simpa using h
    have hl2 : w.heap.size + 1 < W.heap.size := by omega
    have a0 : wc.cell? ⟨w.heap.size + 1, 0, none⟩ = some .nilFunc := (hB.cell (p := ⟨w.heap.size + 1, 0, none⟩) hl2).trans (hc2.cell 0)
    have a1 : wc.cell? ⟨w.heap.size + 1, 1, none⟩ = some .nilFunc := (hB.cell (p := ⟨w.heap.size + 1, 1, none⟩) hl2).trans (hc2.cell 1)
    have a2 : wc.cell? ⟨w.heap.size + 1, 2, none⟩ = some .nilFunc := (hB.cell (p := ⟨w.heap.size + 1, 2, none⟩) hl2).trans (hc2.cell 2)
    have z0 : wc.frozen? ⟨w.heap.size + 1, 0, none⟩ = false := (hB.frozen (p := ⟨w.heap.size + 1, 0, none⟩) hl2).trans (hc2.frozen 0)
    have z1 : wc.frozen? ⟨w.heap.size + 1, 1, none⟩ = false := (hB.frozen (p := ⟨w.heap.size + 1, 1, none⟩) hl2).trans (hc2.frozen 1)
    have z2 : wc.frozen? ⟨w.heap.size + 1, 2, none⟩ = false := (hB.frozen (p := ⟨w.heap.size + 1, 2, none⟩) hl2).trans (hc2.frozen 2)
    have b0 : wc.cell? ⟨g, 0, none⟩ = some (.pointer (some ⟨s, 0, none⟩)) := (hB.cell (p := ⟨g, 0, none⟩) hgW).trans k0
    have bc : wc.cell? ⟨w.heap.size, 0, none⟩ = some (.pointer (some ⟨g, 0, none⟩)) := (hB.cell (p := ⟨w.heap.size, 0, none⟩) hc1W).trans kc1
    have HB := hid hB
    have HKS := hid (And.intro k3 (And.intro k4 (And.intro l3 l4)))
    have HB1 := hid hb1
    have HS1 := hid hs1
    clear k3 k4 l3 l4 hB hcut k0 k2 kc1 hc2 hb1 hWW hs1
    have HTH : Hid (wc.there (w.heap.size + 1) 0 3) := fun j hj => by
      have : j = 0 ∨ j = 1 ∨ j = 2 := by omega
      rcases this with rfl | rfl | rfl
      · exact ⟨by rw [Nat.zero_add, a0]; rfl, by rw [Nat.zero_add]; exact z0⟩
      · exact ⟨by rw [Nat.zero_add, a1]; rfl, by rw [Nat.zero_add]; exact z1⟩
      · exact ⟨by rw [Nat.zero_add, a2]; rfl, by rw [Nat.zero_add]; exact z2⟩
    obtain ⟨FS, hFS⟩ : ∃ FS : List Value, [.func (.func 107) #[] #[.pointer (some ⟨w.heap.size, 0, none⟩), .pointer (some ⟨c3, 0, none⟩)], .func (.func 109) #[] #[.pointer (some ⟨w.heap.size, 0, none⟩), .pointer (some ⟨c3, 0, none⟩), .pointer (some ⟨c4, 0, none⟩)], .func (.func 50) #[.pointer (some ⟨s, 0, none⟩)] #[]] = FS := ⟨_, rfl⟩
    have HFS := hid hFS
    have HFL : Hid (FS.toArray.size = 3) := by rw [Hid, ← hFS]; rfl
    have HFI : Hid ((Tryz.prog.info? 168).map (·.size) = some FS.toArray.size) := by rw [Hid, HFL.out]; kernel_rfl
    have HFO : Hid (FS.toArray.all (·.oneCell') = true) := by rw [Hid, ← hFS]; exact all_oneCell_toArray (by simp [Value.oneCell'])
    have HBD : Hid (Tryz.prog.built 168 [(0, .func (.func 107) #[] #[.pointer (some ⟨w.heap.size, 0, none⟩), .pointer (some ⟨c3, 0, none⟩)]), (1, .func (.func 109) #[] #[.pointer (some ⟨w.heap.size, 0, none⟩), .pointer (some ⟨c3, 0, none⟩), .pointer (some ⟨c4, 0, none⟩)]), (2, .func (.func 50) #[.pointer (some ⟨s, 0, none⟩)] #[])] = some FS.toArray) := by rw [Hid, ← hFS]; kernel_rfl
    have HTF : Hid (wc.there (w.heap.size + 1) 0 FS.toArray.size) := by rw [Hid, HFL.out]; exact HTH.out
    have hr : World.rangeAt (wc.setCells (w.heap.size + 1) 0 FS) (w.heap.size + 1) 0 FS := World.rangeAt_setCells_same _ _ _ _ HTF.out
    have HRR := hid hr
    clear hFS hr a0 a1 a2 z0 z1 z2
    go_wp2_with (first
      | (refine wpList_build3 (by rfl) 168 _ _ _ (by rfl) _ _ _ (by rfl) (by rfl) (by rfl) _ HBD.out ?_)
      | (refine wpList_store_mid (by rfl) 168 _ _ (by rfl) (w.heap.size + 1) 0 FS.toArray (by rfl) (by rfl) HTF.out HFI.out HFO.out ?_))
    refine bodyPost_ret (v := .agg FS.toArray) (results_cell_mid Tryz.results84 _ _ (w.heap.size + 1) 0 _ _ rfl HRR.out Tryz.underlying168 rfl HFI.out) rfl ?_
    obtain ⟨k3, k4, l3, l4⟩ := HKS.out
    have hs1 := HS1.out
    have hk : ∀ c, w.heap.size + 1 ≠ c → (wc.setCells (w.heap.size + 1) 0 FS).cell? ⟨c, 0, none⟩ = wc.cell? ⟨c, 0, none⟩ := fun c hc => World.cell?_of_block (setCells_block _ _ _ _ _ (fun e => hc e.symm))
    refine ⟨w.heap.size, c3, c4, by rw [← HFS.out], ?_, ?_, ?_, Nat.le_refl _, by omega, by omega, ?_⟩
    · rw [hk _ (by omega)]; exact bc
    · rw [hk _ (by omega)]; exact k3
    · rw [hk _ (by omega)]; exact k4
    · exact (HB1.out.trans (HB.out.mono (by omega))).trans (setCells_below (by omega) _ _ _)
end Go.Proofs.YtaaioaocjfpajaaGreatDoor
end

section
/-
  Seal.
-/
namespace Go.Proofs.YtaaioaocjfpajaaGreatDoor
open Go.RowKit Go.Shelf
open Sim (hid Kp No PS Done Blk nm finds pFsync pRename pSyncDir)

/-- What a seal makes of the files. -/
def sealF (i : Nat) (p : PS) : Nat × PS :=
  if (pFsync (nm (nameT i)) p).1 ≠ 0 then pFsync (nm (nameT i)) p
  else if (pRename (nm (nameT i)) (nm (nameP i)) (pFsync (nm (nameT i)) p).2).1 ≠ 0 then pRename (nm (nameT i)) (nm (nameP i)) (pFsync (nm (nameT i)) p).2
  else pSyncDir (pRename (nm (nameT i)) (nm (nameP i)) (pFsync (nm (nameT i)) p).2).2

/-- In the midst of a seal. -/
def SealSt (P : Nat → Prop) (N : Nat) (w w1 wr : World) (g s b i : Nat) (sz ct : Int) (c1 c3 c4 : Nat) (q : PS) : Prop :=
  ∃ P', Sim.Sys P' N wr s q ∧ (∀ x, P' x → P x ∨ w1.heap.size ≤ x) ∧ Kp (fun x => P x ∨ x = g) w wr ∧ w1.heap.size ≤ wr.heap.size ∧ WrAt wr g s b i sz ct true ∧ TabX wr b ∧
    wr.cell? ⟨c1, 0, none⟩ = some (.pointer (some ⟨g, 0, none⟩)) ∧ wr.cell? ⟨c3, 0, none⟩ = some (.string (nameT i)) ∧ wr.cell? ⟨c4, 0, none⟩ = some (.string (nameP i))

/-- What is told apart: blocks of the files, of the writer, of the table, of the variables. -/
structure Apart (P : Nat → Prop) (w w1 : World) (g b c1 c3 c4 : Nat) : Prop where
  lt : ∀ x, P x → x < w.heap.size
  le : w.heap.size ≤ w1.heap.size
  g : g < w.heap.size ∧ ¬ P g
  b : b < w.heap.size ∧ ¬ P b
  c1 : w.heap.size ≤ c1 ∧ c1 < w1.heap.size
  c3 : w.heap.size ≤ c3 ∧ c3 < w1.heap.size
  c4 : w.heap.size ≤ c4 ∧ c4 < w1.heap.size

theorem Apart.not {P P' : Nat → Prop} {w w1 : World} {g b c1 c3 c4 : Nat} (h : Apart P w w1 g b c1 c3 c4) (hP : ∀ x, P' x → P x ∨ w1.heap.size ≤ x) : ¬ P' g ∧ ¬ P' b ∧ ¬ P' c1 ∧ ¬ P' c3 ∧ ¬ P' c4 := by
  have hl := h.le
  have hg := h.g
  have hb := h.b
  have h1 := h.c1
  have h3 := h.c3
  have h4 := h.c4
  refine ⟨fun e => ?_, fun e => ?_, fun e => ?_, fun e => ?_, fun e => ?_⟩
  · rcases hP _ e with e | e
    · exact hg.2 e
    · omega
  · rcases hP _ e with e | e
    · exact hb.2 e
    · omega
  · rcases hP _ e with e | e
    · have := h.lt _ e; omega
    · omega
  · rcases hP _ e with e | e
    · have := h.lt _ e; omega
    · omega
  · rcases hP _ e with e | e
    · have := h.lt _ e; omega
    · omega

theorem SealSt.step {P P' : Nat → Prop} {N : Nat} {w w1 wr w2 : World} {g s b i : Nat} {sz ct : Int} {c1 c3 c4 : Nat} {q : PS} (hA : Apart P w w1 g b c1 c3 c4) (hP : ∀ x, P' x → P x ∨ w1.heap.size ≤ x) (hK : Kp (fun x => P x ∨ x = g) w wr) (hs : w1.heap.size ≤ wr.heap.size)
    (hW : WrAt wr g s b i sz ct true) (hT : TabX wr b) (k1 : wr.cell? ⟨c1, 0, none⟩ = some (.pointer (some ⟨g, 0, none⟩))) (k3 : wr.cell? ⟨c3, 0, none⟩ = some (.string (nameT i))) (k4 : wr.cell? ⟨c4, 0, none⟩ = some (.string (nameP i))) (hD : Done P' N wr w2 s q) :
    SealSt P N w w1 w2 g s b i sz ct c1 c3 c4 q := by
  obtain ⟨P2, hS, hk, h2⟩ := hD
  obtain ⟨n1, n2, n3, n4, n5⟩ := hA.not hP
  have hl := hA.le
  refine ⟨P2, hS, fun x hx => ?_, hK.trans hk (fun x hx => ?_), Nat.le_trans hs hk.size, hW.kp hk n1, hT.kp hk n2, (hk.cell (p := ⟨c1, 0, none⟩) (World.block_lt_of_cell? wr _ k1) n3).trans k1, (hk.cell (p := ⟨c3, 0, none⟩) (World.block_lt_of_cell? wr _ k3) n4).trans k3, (hk.cell (p := ⟨c4, 0, none⟩) (World.block_lt_of_cell? wr _ k4) n5).trans k4⟩
  · rcases h2 x hx with e | e
    · exact hP x e
    · right; omega
  · rcases hP x hx with e | e
    · exact .inl (.inl e)
    · right; omega

def Sealed (P : Nat → Prop) (N : Nat) (w w' : World) (g s b i : Nat) (sz ct : Int) (q : PS) : Prop :=
  WrAt w' g s b i sz ct true ∧ TabX w' b ∧ ∃ P', Sim.Sys P' (N + 3) w' s q ∧ Kp (fun x => P x ∨ x = g) w w' ∧ ∀ x, P' x → P x ∨ w.heap.size ≤ x
theorem SealSt.end {P : Nat → Prop} {N M : Nat} {w w1 wr : World} {g s b i : Nat} {sz ct : Int} {c1 c3 c4 : Nat} {q : PS} (hA : Apart P w w1 g b c1 c3 c4) (h : SealSt P M w w1 wr g s b i sz ct c1 c3 c4 q) (hM : M ≤ N + 3) (hN : N + 3 ≤ 1000) : Sealed P N w wr g s b i sz ct q := by
  obtain ⟨P', h1, h2, h3, _, h5, h6, _⟩ := h
  refine ⟨h5, h6, P', h1.more hM hN, h3, fun x hx => ?_⟩
  rcases h2 x hx with e | e
  · exact .inl e
  · right; have := hA.le; omega

set_option maxHeartbeats 4000000 in
set_option maxRecDepth 100000 in
theorem sealW_any {P : Nat → Prop} {N : Nat} (w : World) (g s b i : Nat) (sz : Int) (ct : Nat) (p : PS) (hi1 : 1 ≤ i) (hi2 : i < 100) (hW : WrAt w g s b i sz ct false) (h : Sim.Sys P N w s p) (hN : N + 3 ≤ 1000) (hT : TabX w b)
    (hb : ¬ P b) (hg : ¬ P g) (hgb : g ≠ b) (hct : 1 ≤ ct) :
    Calls Tryz.prog 55 #[.pointer (some ⟨g, 0, none⟩)] w fun e w' => e = .returned (.int .i64 ((sealF i p).1 : Nat)) ∧ Sealed P N w w' g s b i sz ct (sealF i p).2 := by
  have k4 : w.cell? ⟨g, 4, none⟩ = some (.int .i64 (ct : Int)) := hW.cell 4
  have k5 : w.cell? ⟨g, 5, none⟩ = some (.bool false) := hW.cell 5
  have f5 : w.frozen? ⟨g, 5, none⟩ = false := hW.frozen 5
  have hct' : ¬ ((ct : Int) = 0) := by omega
  have hgl := hW.lt
  have hbl := hT.lt
  have HW := hid hW
  have hK0 : Kp (fun x => P x ∨ x = g) w (w.setCell ⟨g, 5, none⟩ (.bool true)) := Kp.setCell (p := ⟨g, 5, none⟩) (Kp.refl _ w) (.inl (.inr rfl)) _
  have hKg : Kp (fun x => x = g) w (w.setCell ⟨g, 5, none⟩ (.bool true)) := Kp.setCell (p := ⟨g, 5, none⟩) (Kp.refl (fun x => x = g) w) (.inl rfl) _
  have hW2 : WrAt (w.setCell ⟨g, 5, none⟩ (.bool true)) g s b i sz ct true := Blk.setCell hW 5 (.bool true)
  have hS2 : Sim.Sys P N (w.setCell ⟨g, 5, none⟩ (.bool true)) s p := h.kp hKg (fun x hx => by rw [hx]; exact hg)
  have hT2 : TabX (w.setCell ⟨g, 5, none⟩ (.bool true)) b := hT.kp hKg (fun e => hgb e.symm)
  have hz2 : (w.setCell ⟨g, 5, none⟩ (.bool true)).heap.size = w.heap.size := by simp
  have HSE := hid (sealing_any (w.setCell ⟨g, 5, none⟩ (.bool true)) g s b i sz ct true hi1 hi2 hW2)
  have HZ := hid (And.intro hK0 (And.intro hW2 (And.intro hS2 (And.intro hT2 hz2))))
  have HPL := hid h.lt
  obtain ⟨A, hA⟩ : ∃ A, pFsync (nm (nameT i)) p = A := ⟨_, rfl⟩
  obtain ⟨B, hB⟩ : ∃ B, pRename (nm (nameT i)) (nm (nameP i)) A.2 = B := ⟨_, rfl⟩
  obtain ⟨C, hC⟩ : ∃ C, pSyncDir B.2 = C := ⟨_, rfl⟩
  have hF : sealF i p = if A.1 ≠ 0 then A else if B.1 ≠ 0 then B else C := by rw [sealF, hA, hB, hC]
  have HF := hid hF
  obtain ⟨R, hR⟩ : ∃ R, sealF i p = R := ⟨_, rfl⟩
  rw [hR] at HF ⊢
  have HA := hid hA
  have HB := hid hB
  have HCC := hid hC
  clear hA hB hC hF hR
  clear hK0 hKg hW2 hS2 hT2 hz2 h hT
  go_enter Tryz.func55, Tryz.ntmps55
  go_wp2_with (first
    | (go_at_call 83; refine (wrongW_any _ _ _ _ _ _ _ _ HW.out).mono ?_; rintro e w0 ⟨rfl, h⟩; subst w0)
    | (go_at_call 84; refine HSE.out.mono ?_; rintro e w1 ⟨c1, c3, c4, rfl, hk⟩; have HC := hid hk; clear hk))
  have hk := HC.out
  obtain ⟨hK0, hW2, hS2, hT2, hz2⟩ := HZ.out
  rw [hz2] at hk
  obtain ⟨k1, k3, k4', l1, l3, l4, hB1⟩ := hk
  have HAP : Hid (Apart P w w1 g b c1 c3 c4) := ⟨HPL.out, by have := hB1.size; omega, ⟨hgl, hg⟩, ⟨hbl, hb⟩, ⟨l1, World.block_lt_of_cell? w1 _ k1⟩, ⟨l3, World.block_lt_of_cell? w1 _ k3⟩, ⟨l4, World.block_lt_of_cell? w1 _ k4'⟩⟩
  have hB2 : Below (w.setCell ⟨g, 5, none⟩ (.bool true)).heap.size (w.setCell ⟨g, 5, none⟩ (.bool true)) w1 := by rw [hz2]; exact hB1
  have HST0 : Hid (SealSt P N w w1 w1 g s b i sz ct c1 c3 c4 p) := ⟨P, hS2.kept (Kp.below hB2), fun x hx => .inl hx, hK0.andNone (Kp.below hB2), Nat.le_refl _, hW2.kp (L := No) (Kp.below hB2) (fun h => h), hT2.below hB2, k1, k3, k4'⟩
  clear hK0 hW2 hS2 hT2 hz2 k1 k3 k4' l1 l3 l4 hB1 hB2 HC HZ HSE HW k4 k5 f5
  have ix0 : ∀ V, (Instr.index 168 (.agg #[.func (.func 107) #[] #[.pointer (some ⟨c1, 0, none⟩), .pointer (some ⟨c3, 0, none⟩)], .func (.func 109) #[] #[.pointer (some ⟨c1, 0, none⟩), .pointer (some ⟨c3, 0, none⟩), .pointer (some ⟨c4, 0, none⟩)], .func (.func 50) #[.pointer (some ⟨s, 0, none⟩)] #[]]) (.int .i64 0)).run Tryz.prog V = .ok (.func (.func 107) #[] #[.pointer (some ⟨c1, 0, none⟩), .pointer (some ⟨c3, 0, none⟩)]) V := fun V => by kernel_rfl
  have ix1 : ∀ V, (Instr.index 168 (.agg #[.func (.func 107) #[] #[.pointer (some ⟨c1, 0, none⟩), .pointer (some ⟨c3, 0, none⟩)], .func (.func 109) #[] #[.pointer (some ⟨c1, 0, none⟩), .pointer (some ⟨c3, 0, none⟩), .pointer (some ⟨c4, 0, none⟩)], .func (.func 50) #[.pointer (some ⟨s, 0, none⟩)] #[]]) (.int .i64 1)).run Tryz.prog V = .ok (.func (.func 109) #[] #[.pointer (some ⟨c1, 0, none⟩), .pointer (some ⟨c3, 0, none⟩), .pointer (some ⟨c4, 0, none⟩)]) V := fun V => by kernel_rfl
  have ix2 : ∀ V, (Instr.index 168 (.agg #[.func (.func 107) #[] #[.pointer (some ⟨c1, 0, none⟩), .pointer (some ⟨c3, 0, none⟩)], .func (.func 109) #[] #[.pointer (some ⟨c1, 0, none⟩), .pointer (some ⟨c3, 0, none⟩), .pointer (some ⟨c4, 0, none⟩)], .func (.func 50) #[.pointer (some ⟨s, 0, none⟩)] #[]]) (.int .i64 2)).run Tryz.prog V = .ok (.func (.func 50) #[.pointer (some ⟨s, 0, none⟩)] #[]) V := fun V => by kernel_rfl
  go_loopw [22] (fun iv wr => ∃ j : Nat, j ≤ 3 ∧ iv = .int .i64 (j : Int) ∧ Hid (∃ q, SealSt P (N + j) w w1 wr g s b i sz ct c1 c3 c4 q ∧ (j = 0 → q = p) ∧ (j = 1 → A.1 = 0 ∧ q = A.2) ∧ (j = 2 → A.1 = 0 ∧ B.1 = 0 ∧ q = B.2) ∧ (j = 3 → A.1 = 0 ∧ B.1 = 0 ∧ C.1 = 0 ∧ q = C.2))) (fun iv _ => 3 - (intOf iv).toNat)
  case atStart => exact ⟨0, by omega, rfl, p, HST0.out, fun _ => rfl, fun h => absurd h (by omega), fun h => absurd h (by omega), fun h => absurd h (by omega)⟩
  case round =>
    obtain ⟨j, hj, rfl, HS⟩ := hrel
    have hjj : j = 0 ∨ j = 1 ∨ j = 2 ∨ j = 3 := by omega
    rcases hjj with rfl | rfl | rfl | rfl
    · obtain ⟨q, ⟨P', hS, hP, hK, hs, hW, hT, k1, k3, k4⟩, e0, e1, e2, e3⟩ := HS.out
      obtain ⟨n1, n2, n3, n4, n5⟩ := HAP.out.not hP
      have hq := e0 rfl
      rw [hq] at hS
      have HCALL := hid (seal1_any wr s g c1 c3 (nameT i) p hS (by omega) (name_le _ (by decide) i hi2) k1 (hW.cell 0) k3 n3 n1 n4)
      rw [HA.out] at HCALL
      have HPK := hid (fun w2 (hD : Done P' (N + 0 + 1) wr w2 s A.2) => SealSt.step HAP.out hP hK hs hW hT k1 k3 k4 hD)
      have HZZ : Hid (True) := trivial
      clear HS hS hP hK hs hW hT k1 k3 k4 e0 e1 e2 e3 n1 n2 n3 n4 n5 hq
      go_wp2_with fail
      refine HCALL.out.mono ?_
      rintro e w2 ⟨rfl, hD⟩
      have HST := hid (HPK.out w2 hD)
      clear hD
      by_cases hz : A.1 = 0
      · have HZ2 := hid hz
        rw [hz]
        clear hz
        go_wp2_with fail
        go_round
        case rel => exact ⟨1, by omega, by go_num, A.2, HST.out, fun h => absurd h (by omega), fun _ => ⟨HZ2.out, rfl⟩, fun h => absurd h (by omega), fun h => absurd h (by omega)⟩
        case measure => simp [intOf]
      · have HZ2 := hid hz
        obtain ⟨F, hF⟩ : ∃ F, A.1 = F := ⟨_, rfl⟩
        have HFF := hid hF
        rw [hF] at hz ⊢
        have hz' : ¬ ((F : Int) = 0) := by omega
        clear hF
        go_wp2_with fail
        go_ret
        have hR : R = A := by rw [HF.out, if_pos HZ2.out]
        rw [hR]
        exact ⟨by rw [HFF.out]; rfl, HST.out.end HAP.out (by omega) hN⟩
    · obtain ⟨q, ⟨P', hS, hP, hK, hs, hW, hT, k1, k3, k4⟩, e0, e1, e2, e3⟩ := HS.out
      obtain ⟨n1, n2, n3, n4, n5⟩ := HAP.out.not hP
      obtain ⟨z1, rfl⟩ := e1 rfl
      have HCALL := hid (seal2_any wr s g c1 c3 c4 (nameT i) (nameP i) A.2 hS (by omega) (name_le _ (by decide) i hi2) (name_le _ (by decide) i hi2) k1 (hW.cell 0) k3 k4 n3 n1 n4 n5)
      rw [HB.out] at HCALL
      have HPK := hid (fun w2 (hD : Done P' (N + 1 + 1) wr w2 s B.2) => SealSt.step HAP.out hP hK hs hW hT k1 k3 k4 hD)
      have HZZ : Hid (A.1 = 0) := z1
      clear HS hS hP hK hs hW hT k1 k3 k4 e0 e1 e2 e3 n1 n2 n3 n4 n5 z1
      go_wp2_with fail
      refine HCALL.out.mono ?_
      rintro e w2 ⟨rfl, hD⟩
      have HST := hid (HPK.out w2 hD)
      clear hD
      by_cases hz : B.1 = 0
      · have HZ2 := hid hz
        rw [hz]
        clear hz
        go_wp2_with fail
        go_round
        case rel => exact ⟨2, by omega, by go_num, B.2, HST.out, fun h => absurd h (by omega), fun h => absurd h (by omega), fun _ => ⟨HZZ.out, HZ2.out, rfl⟩, fun h => absurd h (by omega)⟩
        case measure => simp [intOf]
      · have HZ2 := hid hz
        obtain ⟨F, hF⟩ : ∃ F, B.1 = F := ⟨_, rfl⟩
        have HFF := hid hF
        rw [hF] at hz ⊢
        have hz' : ¬ ((F : Int) = 0) := by omega
        clear hF
        go_wp2_with fail
        go_ret
        have hR : R = B := by rw [HF.out, if_neg (by simp [HZZ.out]), if_pos HZ2.out]
        rw [hR]
        exact ⟨by rw [HFF.out]; rfl, HST.out.end HAP.out (by omega) hN⟩
    · obtain ⟨q, ⟨P', hS, hP, hK, hs, hW, hT, k1, k3, k4⟩, e0, e1, e2, e3⟩ := HS.out
      obtain ⟨n1, n2, n3, n4, n5⟩ := HAP.out.not hP
      obtain ⟨z1, z2, rfl⟩ := e2 rfl
      have HCALL := hid (Sim.syncdir_any wr s B.2 hS (by omega))
      rw [HCC.out] at HCALL
      have HPK := hid (fun w2 (hD : Done P' (N + 2 + 1) wr w2 s C.2) => SealSt.step HAP.out hP hK hs hW hT k1 k3 k4 hD)
      have HZZ : Hid (A.1 = 0 ∧ B.1 = 0) := ⟨z1, z2⟩
      clear HS hS hP hK hs hW hT k1 k3 k4 e0 e1 e2 e3 n1 n2 n3 n4 n5 z1 z2
      go_wp2_with fail
      refine HCALL.out.mono ?_
      rintro e w2 ⟨rfl, hD⟩
      have HST := hid (HPK.out w2 hD)
      clear hD
      by_cases hz : C.1 = 0
      · have HZ2 := hid hz
        rw [hz]
        clear hz
        go_wp2_with fail
        go_round
        case rel => exact ⟨3, by omega, by go_num, C.2, HST.out, fun h => absurd h (by omega), fun h => absurd h (by omega), fun h => absurd h (by omega), fun _ => ⟨HZZ.out.1, HZZ.out.2, HZ2.out, rfl⟩⟩
        case measure => simp [intOf]
      · have HZ2 := hid hz
        obtain ⟨F, hF⟩ : ∃ F, C.1 = F := ⟨_, rfl⟩
        have HFF := hid hF
        rw [hF] at hz ⊢
        have hz' : ¬ ((F : Int) = 0) := by omega
        clear hF
        go_wp2_with fail
        go_ret
        have hR : R = C := by rw [HF.out, if_neg (by simp [HZZ.out.1]), if_neg (by simp [HZZ.out.2])]
        rw [hR]
        exact ⟨by rw [HFF.out]; rfl, HST.out.end HAP.out (by omega) hN⟩
    · obtain ⟨q, hst, e0, e1, e2, e3⟩ := HS.out
      obtain ⟨z1, z2, z3, rfl⟩ := e3 rfl
      have HST := hid hst
      have HZZ := hid (And.intro z1 (And.intro z2 z3))
      clear HS hst e0 e1 e2 e3 z1 z2 z3
      go_wp2_with fail
      go_ret
      have hR : R = C := by rw [HF.out, if_neg (by simp [HZZ.out.1]), if_neg (by simp [HZZ.out.2.1])]
      rw [hR]
      exact ⟨by rw [HZZ.out.2.2]; rfl, HST.out.end HAP.out (by omega) hN⟩
end Go.Proofs.YtaaioaocjfpajaaGreatDoor
end

section
/-
  Plain mathematics of a pack: one file made, written, synced, moved.
-/
namespace Go.Proofs.YtaaioaocjfpajaaGreatDoor.Sim

def startPS (room : Nat) : PS := ⟨room, false, [], [], [], false, false, 0, 0, fun _ => none⟩

section
variable {t n : Nm} {r b : Nat} {ys : List Nat}

theorem start_finds (hn : nameB n = true) : finds (startPS r) n = 5 := by simp [finds, wrongs, startPS, hn, dfind]

def q1 (t : Nm) (r b : Nat) : PS := chgd ⟨0, t, [], b⟩ (setF b ⟨[], 0⟩ (tick (startPS r)))
theorem start_create (ht : nameB t = true) : pCreate t b (startPS r) = (0, q1 t r b) := by
  simp [pCreate, wrongs, startPS, ht, dfind, stp, dead, q1]
theorem q1_seen : (q1 t r b).seen = [(t, b)] := by simp [q1, chgd, setF, tick, startPS, pdo, dput, ddel, dins]
theorem q1_down : (q1 t r b).down = false := rfl
theorem q1_dead : dead (q1 t r b) = false := rfl
theorem q1_room : (q1 t r b).room = r := rfl
theorem q1_file : fileAt (q1 t r b) b = ⟨[], 0⟩ := by simp [fileAt, q1, chgd, setF, tick]
theorem q1_finds (ht : nameB t = true) : finds (q1 t r b) t = 0 := by simp [finds, wrongs, q1_down, ht, q1_seen, dfind]
theorem q1_block : blockOf (q1 t r b) t = b := by simp [blockOf, q1_seen, dfind]

def q2 (t : Nm) (r b : Nat) (ys : List Nat) : PS := setF b ⟨ys, 0⟩ (tick (q1 t r b))
theorem q1_append (ht : nameB t = true) (hl : ys.length ≤ r) : pAppend t ys (q1 t r b) = (0, q2 t r b ys) := by
  have hu : used (q1 t r b) = 0 := by simp [used, q1_seen, q1_file]
  simp [pAppend, q1_finds ht, hu, q1_room, q1_block, q1_file, stp, q1_dead, q2]
  omega
theorem q2_seen : (q2 t r b ys).seen = [(t, b)] := q1_seen (r := r)
theorem q2_finds (ht : nameB t = true) : finds (q2 t r b ys) t = 0 := by simp [finds, wrongs, show (q2 t r b ys).down = false from rfl, ht, q2_seen, dfind]
theorem q2_block : blockOf (q2 t r b ys) t = b := by simp [blockOf, q2_seen, dfind]
theorem q2_file : fileAt (q2 t r b ys) b = ⟨ys, 0⟩ := by simp [fileAt, q2, setF]

def q3 (t : Nm) (r b : Nat) (ys : List Nat) : PS := setF b ⟨ys, ys.length⟩ (tick (q2 t r b ys))
theorem q2_fsync (ht : nameB t = true) : pFsync t (q2 t r b ys) = (0, q3 t r b ys) := by
  simp [pFsync, q2_finds ht, q2_block, q2_file, stp, show dead (q2 t r b ys) = false from rfl, q3]
theorem q3_seen : (q3 t r b ys).seen = [(t, b)] := q1_seen (r := r)

def q4 (t n : Nm) (r b : Nat) (ys : List Nat) : PS := chgd ⟨2, t, n, 0⟩ (tick (q3 t r b ys))
theorem q3_rename (ht : nameB t = true) (hn : nameB n = true) : pRename t n (q3 t r b ys) = (0, q4 t n r b ys) := by
  simp [pRename, wrongs, show (q3 t r b ys).down = false from rfl, ht, hn, q3_seen, dfind, stp, show dead (q3 t r b ys) = false from rfl, q4]
theorem q4_seen : (q4 t n r b ys).seen = [(n, b)] := by
  show pdo (q3 t r b ys).seen ⟨2, t, n, 0⟩ = _
  rw [q3_seen]
  simp [pdo, ddel, dput, dins, dfind]

def q5 (t n : Nm) (r b : Nat) (ys : List Nat) : PS := settle (q4 t n r b ys).chg.length (tick (q4 t n r b ys))
theorem q4_sync : pSyncDir (q4 t n r b ys) = (0, q5 t n r b ys) := by
  simp [pSyncDir, wrongs, show (q4 t n r b ys).down = false from rfl, stp, show dead (q4 t n r b ys) = false from rfl, q5]
theorem q5_seen : (q5 t n r b ys).seen = [(n, b)] := q4_seen
theorem q5_finds (hn : nameB n = true) : finds (q5 t n r b ys) n = 0 := by simp [finds, wrongs, show (q5 t n r b ys).down = false from rfl, hn, q5_seen, dfind]
theorem q5_bytes (hn : nameB n = true) : pBytes n (q5 t n r b ys) = ys := by
  have h1 : blockOf (q5 t n r b ys) n = b := by simp [blockOf, q5_seen, dfind]
  have h2 : (fileAt (q5 t n r b ys) b).b = ys := by simp [fileAt, q5, settle, tick, q4, chgd, q3, setF]
  simp [pBytes, q5_finds hn, h1, h2]
end
end Go.Proofs.YtaaioaocjfpajaaGreatDoor.Sim
end

section
/-
  Plain mathematics of a pack with many records: one file that is appended to, synced and moved, on a disk that goes down at any step; and what is there once it is up again.
-/
namespace Go.Proofs.YtaaioaocjfpajaaGreatDoor.Sim

/-- One file x, whatever is seen of it. -/
def one (d ar : Bool) (lf st : Nat) (sn : Dir) (cg : List PC) (sa : Dir) (r x : Nat) (f : Fl) : PS := ⟨r, true, sn, sa, cg, d, ar, lf, st, fun y => if y = x then some f else none⟩
section
variable {t n : Nm} {r x : Nat} {ar d : Bool} {ys bs : List Nat} {p : PS}

def start (r : Nat) (ar : Bool) (lf : Nat) : PS := { startPS r with armed := ar, left := lf }
/-- The pack is begun: the file is seen under its temporary name. -/
def Beg (t : Nm) (r x : Nat) (ar d : Bool) (ys : List Nat) (p : PS) : Prop := (d = true → ar = true) ∧ ∃ lf st, p = one d ar lf st [(t, x)] [⟨0, t, [], x⟩] [] r x ⟨ys, 0⟩

/-- How far a sealing came: 0: nothing of it is safe; 1: the bytes are; 2: they are moved; 3: that is safe. -/
def SealR (t n : Nm) (r x : Nat) (ys : List Nat) (k : Nat) (p : PS) : Prop :=
  ∃ d ar lf st, (k = 0 ∧ p = one d ar lf st [(t, x)] [⟨0, t, [], x⟩] [] r x ⟨ys, 0⟩) ∨ (k = 1 ∧ p = one d ar lf st [(t, x)] [⟨0, t, [], x⟩] [] r x ⟨ys, ys.length⟩) ∨
    (k = 2 ∧ p = one d ar lf st [(n, x)] [⟨0, t, [], x⟩, ⟨2, t, n, 0⟩] [] r x ⟨ys, ys.length⟩) ∨ (k = 3 ∧ p = one d ar lf st [(n, x)] [] [(n, x)] r x ⟨ys, ys.length⟩)
variable {c : Nat}
end
end Go.Proofs.YtaaioaocjfpajaaGreatDoor.Sim
namespace Go.Proofs.YtaaioaocjfpajaaGreatDoor
open Sim (Beg SealR nm nameB PS)

section
variable {i r x : Nat} {ar d : Bool} {ys : List Nat} {p : PS}
end
end Go.Proofs.YtaaioaocjfpajaaGreatDoor
end
