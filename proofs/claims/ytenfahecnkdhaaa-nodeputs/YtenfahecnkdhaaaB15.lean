/- Of the proof: the texts NdGetFile, NdEntry, NdGetDir, one behind the other. -/
import Derived.Test.YtenfahecnkdhaaaB14
section
/-
  GetFile, of the program.
-/
namespace Go.Proofs.Ytenfahecnkdhaaa.Nd
open Go.RowKit
open Tlv (Tr Agree)
open Sim (hid Kp No)
set_option linter.unusedSimpArgs false

theorem Rt_count {n : Nat} {t : Tr (n + 1)} {room : Int} (h : Tlv.Rt (n + 1) t room) : (t.kd.length : Int) ≤ room ∧ ∀ k ∈ t.kd, ∃ r, r ≤ room ∧ Tlv.Rt n k r := by
  have hf := h.facts
  by_cases h3 : t.hd.1 = 3
  · have h1 : t.kd.length ≤ (Tlv.bodyOf (n + 1) t).length := by
      rw [Tlv.bodyOf_kids h3]
      have go : ∀ ks : List (Tr n), ks.length ≤ ((ks.map (Tlv.formOf n)).flatten).length := by
        intro ks
        induction ks with
        | nil => simp
        | cons k ks ih =>
          simp only [List.map_cons, List.flatten_cons, List.length_append, List.length_cons]
          have : 1 ≤ (Tlv.formOf n k).length := by simp [Tlv.formOf]
          omega
      exact go _
    refine ⟨by omega, fun k hk => ?_⟩
    obtain ⟨r, h4, h5⟩ := hf.2.2.2 h3 k hk
    exact ⟨r, by omega, h5⟩
  · have h0 : t.kd.length = 0 := by
      obtain ⟨deep, h⟩ := h
      simp only [Tlv.bsz] at h
      split at h
      · simp at h
      · rename_i h1
        have h2 : Tlv.oeB t.hd.1 t.hd.2.1 t.hd.2.2.length t.kd.length = true := by
          cases hb : Tlv.oeB t.hd.1 t.hd.2.1 t.hd.2.2.length t.kd.length with
          | true => rfl
          | false => exact absurd (.inr hb) h1
        unfold Tlv.oeB at h2
        simp only [Bool.and_eq_true, Bool.or_eq_true, beq_iff_eq] at h2
        rcases h2.2 with h2 | h2
        · exact absurd h2 h3
        · omega
    have h1 : t.kd = [] := List.length_eq_zero_iff.1 h0
    refine ⟨by omega, fun k hk => ?_⟩
    rw [h1] at hk
    cases hk
theorem bodyT_count {bs : List Int} {t : Tr 9} (hb : ∀ x ∈ bs, 0 ≤ x ∧ x ≤ 255) (h : bodyT bs = some t) : t.kd.length ≤ 65535 ∧ ∀ k ∈ t.kd, k.kd.length ≤ 65535 := by
  unfold bodyT at h
  split at h
  · have h1 := (Tlv.get_form hb h).1
    have h2 := Rt_count (⟨8, Tlv.szT_right h1⟩ : Tlv.Rt 9 t 65535)
    refine ⟨by omega, fun k hk => ?_⟩
    obtain ⟨r, h3, h4⟩ := h2.2 k hk
    have := (Rt_count h4).1
    omega
  · cases h

/-- The file that a Body is. -/
def gfile (bs : List Int) : Option (Int × List (List Int)) := match bodyT bs with
  | none => none
  | some t => match t.kd with
    | [t0, t1] => if fileB (wrap64 t0.hd.2.1) (kidsH t1.kd).length && Tlv.sameT 9 t 3 (fileT (wrap64 t0.hd.2.1) (kidsH t1.kd)) then some (wrap64 t0.hd.2.1, kidsH t1.kd) else none
    | _ => none
def zFil : Value := .agg #[.int .i64 0, .slice none 0 0]
/-- What GetFile answers. -/
def GFA (u w : World) (K0 : Int) (bs : List Int) (e : Ending) : Prop :=
  (K0 ≠ 2 ∧ e = .returned (.tuple #[zFil, .int .i64 1])) ∨ (K0 = 2 ∧ gfile bs = none ∧ e = .returned (.tuple #[zFil, .int .i64 3])) ∨
  (∃ s d a l c, K0 = 2 ∧ gfile bs = some (s, d) ∧ e = .returned (.tuple #[.agg #[.int .i64 s, .slice a l c], .int .i64 0]) ∧ HV (fun g => g < w.heap.size ∧ u.heap.size ≤ g) w (.slice a l c) d)

set_option maxHeartbeats 8000000 in
set_option maxRecDepth 100000 in
theorem getFile_any (w : World) (K0 : Int) (v : Value) (bs : List Int) (hv : Tlv.BySl 0 w.heap.size w v bs) :
    Calls Try.prog 18 #[.agg #[.int .i64 K0, v]] w fun e w' => GFA w w' K0 bs e ∧ Below w.heap.size w w' := by
  obtain ⟨a, c, rfl, hxx⟩ := id hv
  clear hxx
  obtain ⟨n, hn⟩ : ∃ n, bs.length = n := ⟨_, rfl⟩
  rw [hn] at hv ⊢
  have HBS := hid (Tlv.BySl.bytes hv)
  obtain ⟨W0, hW0⟩ : ∃ W, (w.alloc (.cells #[.int .i64 K0, .slice a n c] 31)).alloc (.cells #[.int .i64 0, .slice none 0 0] 35) = W := ⟨_, rfl⟩
  have HB0 : Hid (Below w.heap.size w W0) := by rw [Hid, ← hW0]; exact ((Below.refl _ _).alloc (Nat.le_refl _) _).alloc (by simp) _
  have HZ0 : Hid (W0.heap.size = w.heap.size + 2) := by rw [Hid, ← hW0]; simp
  have HX0 : Hid (∀ V, Below W0.heap.size W0 V → V.cell? ⟨w.heap.size + 1, 0, none⟩ = some (.int .i64 0) ∧ V.cell? ⟨w.heap.size + 1, 1, none⟩ = some (.slice none 0 0) ∧ (∀ o, V.frozen? ⟨w.heap.size + 1, o, none⟩ = false) ∧ w.heap.size + 1 < V.heap.size) := fun V hV => by
    have hs := hV.size
    have hz := HZ0.out
    refine ⟨?_, ?_, fun o => ?_, by omega⟩
    · rw [hV.cell (p := ⟨w.heap.size + 1, 0, none⟩) (by show w.heap.size + 1 < _; omega), ← hW0]; simp [go_sem]
    · rw [hV.cell (p := ⟨w.heap.size + 1, 1, none⟩) (by show w.heap.size + 1 < _; omega), ← hW0]; simp [go_sem]
    · rw [hV.frozen (p := ⟨w.heap.size + 1, o, none⟩) (by show w.heap.size + 1 < _; omega), ← hW0]; simp [go_sem]
  have hbox : W0.cell? ⟨w.heap.size, 0, none⟩ = some (.int .i64 K0) ∧ W0.cell? ⟨w.heap.size, 1, none⟩ = some (.slice a n c) := by rw [← hW0]; simp [go_sem]
  have HBD := hid (body_any W0 K0 2 (.slice a n c) bs (hv.agree (Agree.below HB0.out) (Nat.le_refl _) HB0.out.size))
  clear hv hn
  go_enter Try.func18, Try.ntmps18
  obtain ⟨hx0, hx1⟩ := hbox
  go_wp2_with fail
  refine HBD.out.mono ?_
  rintro e w2 ⟨hres, hb2⟩
  have HB2 := hid hb2
  clear hx0 hx1 hW0 HBD hb2
  rcases hres with ⟨hk, rfl⟩ | ⟨hk, hno, rfl⟩ | ⟨t, a3, l3, p3, a4, l4, p4, hk, ht, rfl, hrep⟩
  · unfold zVal
    have HA : Hid (∀ w', GFA w w' K0 bs (.returned (.tuple #[zFil, .int .i64 1]))) := fun w' => .inl ⟨hk, rfl⟩
    obtain ⟨g0, g1, gf, hg2⟩ := HX0.out _ (HB2.out.alloc HB2.out.size (.cells #[.int .i64 0, .int .u64 0, .slice none 0 0, .slice none 0 0] 95))
    go_wp2_with fail
    obtain ⟨q0, q1⟩ := set2_read (u0 := .int .i64 0) (u1 := .slice none 0 0) g0 g1
    refine bodyPost_ret (v := .tuple #[zFil, .int .i64 1]) (by simp [results, Try.results18, go_sem, q0, q1, zFil]) rfl ⟨HA.out _, ?_⟩
    exact (((HB0.out.trans (HB2.out.mono HB0.out.size)).alloc (Nat.le_trans HB0.out.size HB2.out.size) _).setCell (by simp) _).setCell (by simp) _
  · unfold zVal
    have HA : Hid (∀ w', GFA w w' K0 bs (.returned (.tuple #[zFil, .int .i64 3]))) := fun w' => .inr (.inl ⟨hk, by rw [gfile, hno], rfl⟩)
    obtain ⟨g0, g1, gf, hg2⟩ := HX0.out _ (HB2.out.alloc HB2.out.size (.cells #[.int .i64 0, .int .u64 0, .slice none 0 0, .slice none 0 0] 95))
    go_wp2_with fail
    obtain ⟨q0, q1⟩ := set2_read (u0 := .int .i64 0) (u1 := .slice none 0 0) g0 g1
    refine bodyPost_ret (v := .tuple #[zFil, .int .i64 3]) (by simp [results, Try.results18, go_sem, q0, q1, zFil]) rfl ⟨HA.out _, ?_⟩
    exact (((HB0.out.trans (HB2.out.mono HB0.out.size)).alloc (Nat.le_trans HB0.out.size HB2.out.size) _).setCell (by simp) _).setCell (by simp) _
  · have HT := hid ht
    have HREP := hid hrep
    obtain ⟨tg, htg⟩ : ∃ x, t.hd.1 = x := ⟨_, rfl⟩
    obtain ⟨nm, hnm⟩ : ∃ x, t.hd.2.1 = x := ⟨_, rfl⟩
    obtain ⟨hxa, hxb, hxc, hks⟩ := hrep
    clear hxa hxb hxc
    have h4 : l4 = t.kd.length := by
      obtain ⟨_, _, e, _⟩ := hks
      simp only [Value.slice.injEq] at e
      exact e.2.1
    have HTG := hid htg
    have HNM := hid hnm
    rw [htg, hnm]
    clear htg hnm
    obtain ⟨W2, hW2⟩ : ∃ W, w2.alloc (.cells #[.int .i64 tg, .int .u64 nm, .slice a3 l3 p3, .slice a4 l4 p4] 95) = W := ⟨_, rfl⟩
    have HBW2 : Hid (Below W0.heap.size W0 W2) := by rw [Hid, ← hW2]; exact HB2.out.alloc HB2.out.size _
    have HZ2 : Hid (W2.heap.size = w2.heap.size + 1) := by rw [Hid, ← hW2]; simp
    have HV2 : Hid (W2.cell? ⟨w2.heap.size, 0, none⟩ = some (.int .i64 tg) ∧ W2.cell? ⟨w2.heap.size, 1, none⟩ = some (.int .u64 nm) ∧ W2.cell? ⟨w2.heap.size, 2, none⟩ = some (.slice a3 l3 p3) ∧ W2.cell? ⟨w2.heap.size, 3, none⟩ = some (.slice a4 l4 p4)) := by rw [Hid, ← hW2]; simp
    have HR2 : Hid (Tlv.Rep 0 W2.heap.size W2 9 t (.slice a3 l3 p3) (.slice a4 l4 p4)) := HREP.out.agree (by rw [← hW2]; exact (Agree.refl _ _ _).alloc (Nat.le_refl _) _) (Nat.zero_le _) (by rw [HZ2.out]; omega)
    by_cases h2 : l4 = 2
    · subst h2
      obtain ⟨t0, t1, hkd⟩ : ∃ t0 t1, t.kd = [t0, t1] := by
        match hk' : t.kd, h4 with
        | [t0, t1], _ => exact ⟨t0, t1, rfl⟩
      have HGF : Hid (gfile bs = if fileB (wrap64 t0.hd.2.1) (kidsH t1.kd).length && Tlv.sameT 9 t 3 (fileT (wrap64 t0.hd.2.1) (kidsH t1.kd)) then some (wrap64 t0.hd.2.1, kidsH t1.kd) else none) := by rw [Hid, gfile, HT.out]; simp only [hkd]
      have hcnt : t1.kd.length ≤ 65535 := (bodyT_count HBS.out HT.out).2 t1 (by rw [hkd]; simp)
      have hk2 : Tlv.KSl 0 W2.heap.size W2 (Tlv.Rep 0 W2.heap.size W2 8) (.slice a4 2 p4) [t0, t1] := by
        obtain ⟨_, _, _, h⟩ := HR2.out
        rw [hkd] at h
        exact h
      have HFL := hid (file_any W2 _ t0 t1 hk2 (by omega))
      have HLN : Hid ((kidsH t1.kd).length ≤ 65535) := by rw [Hid]; simp [kidsH, hcnt]
      obtain ⟨s, hs⟩ : ∃ s, wrap64 t0.hd.2.1 = s := ⟨_, rfl⟩
      obtain ⟨d, hd⟩ : ∃ d, kidsH t1.kd = d := ⟨_, rfl⟩
      rw [hs, hd] at HGF HFL
      rw [hd] at HLN
      obtain ⟨v0, hv0⟩ : ∃ x, W2.cell? ⟨w2.heap.size, 0, none⟩ = x := ⟨_, rfl⟩
      obtain ⟨f0, f1, f2, f3⟩ := HV2.out
      clear hks h4 hkd hk2 hs hd hv0 v0 hcnt
      go_wp2_with fail
      refine HFL.out.mono ?_
      rintro e w3 ⟨ax, lx, cx, rfl, hhv, hb3⟩
      have HHV := hid hhv
      have HB3 := hid hb3
      have HOD := hid hhv.ok
      have hlx : lx = d.length := by
        obtain ⟨_, _, e, _⟩ := hhv
        simp only [Value.slice.injEq] at e
        exact e.2.1
      have HLX := hid hlx
      clear f0 f1 f2 f3 hhv hb3 hlx HFL hW2
      obtain ⟨W3, hW3⟩ : ∃ W, w3.alloc (.cells #[.int .i64 s, .slice ax lx cx] 35) = W := ⟨_, rfl⟩
      have HZ3 : Hid (W3.heap.size = w3.heap.size + 1) := by rw [Hid, ← hW3]; simp
      have HX3 : Hid (W3.cell? ⟨w3.heap.size, 0, none⟩ = some (.int .i64 s) ∧ W3.cell? ⟨w3.heap.size, 1, none⟩ = some (.slice ax lx cx)) := by rw [Hid, ← hW3]; simp
      have HK3 : Hid (Below W2.heap.size W2 W3) := by rw [Hid, ← hW3]; exact HB3.out.alloc HB3.out.size _
      have HH3 : Hid (HV (fun g => g < W3.heap.size ∧ W2.heap.size ≤ g) W3 (.slice ax lx cx) d) := (HHV.out.kept (Kp.below (by rw [← hW3]; exact (Below.refl _ _).alloc (Nat.le_refl _) _))).lt
      have HS3 : Hid (∀ V, Kp No W3 V → V.cell? ⟨w3.heap.size, 0, none⟩ = some (.int .i64 s) ∧ V.cell? ⟨w3.heap.size, 1, none⟩ = some (.slice ax lx cx)) := fun V hV => by
        have hz := HZ3.out
        exact ⟨(hV.cell (p := ⟨w3.heap.size, 0, none⟩) (by show w3.heap.size < _; omega) (fun x => x)).trans HX3.out.1, (hV.cell (p := ⟨w3.heap.size, 1, none⟩) (by show w3.heap.size < _; omega) (fun x => x)).trans HX3.out.2⟩
      have HS2 : Hid (∀ V, Kp No W3 V → V.cell? ⟨w2.heap.size, 0, none⟩ = some (.int .i64 tg) ∧ V.cell? ⟨w2.heap.size, 1, none⟩ = some (.int .u64 nm) ∧ V.cell? ⟨w2.heap.size, 2, none⟩ = some (.slice a3 l3 p3) ∧ V.cell? ⟨w2.heap.size, 3, none⟩ = some (.slice a4 2 p4)) := fun V hV => by
        have hz := HZ2.out
        have hs := HK3.out.size
        obtain ⟨f0, f1, f2, f3⟩ := HV2.out
        have e : ∀ o, V.cell? ⟨w2.heap.size, o, none⟩ = W2.cell? ⟨w2.heap.size, o, none⟩ := fun o => (hV.cell (p := ⟨w2.heap.size, o, none⟩) (by show w2.heap.size < _; omega) (fun x => x)).trans (HK3.out.cell (p := ⟨w2.heap.size, o, none⟩) (by show w2.heap.size < _; omega))
        exact ⟨(e _).trans f0, (e _).trans f1, (e _).trans f2, (e _).trans f3⟩
      have HTAIL : Hid (∀ V, Kp No W3 V → V.cell? ⟨w.heap.size + 1, 0, none⟩ = some (.int .i64 0) ∧ V.cell? ⟨w.heap.size + 1, 1, none⟩ = some (.slice none 0 0) ∧ (∀ o, V.frozen? ⟨w.heap.size + 1, o, none⟩ = false) ∧ w.heap.size + 1 < V.heap.size) := fun V hV =>
        HX0.out V ((HBW2.out.trans (HK3.out.mono HBW2.out.size)).trans (hV.toBelow'.mono (Nat.le_trans HBW2.out.size HK3.out.size)))
      have HBW : Hid (∀ V, Kp No W3 V → Below w.heap.size w V) := fun V hV =>
        ((HB0.out.trans (HBW2.out.mono HB0.out.size)).trans (HK3.out.mono (Nat.le_trans HB0.out.size HBW2.out.size))).trans (hV.toBelow'.mono (Nat.le_trans HB0.out.size (Nat.le_trans HBW2.out.size HK3.out.size)))
      have HRT := hid (fun (V : World) => fright_any V s ax lx cx (by rw [HLX.out]; have := HLN.out; omega))
      have qx0 := HX3.out.1
      have qx1 := HX3.out.2
      cases hfb : fileB s lx with
      | false =>
        rw [hfb] at HRT
        have HG : Hid (gfile bs = none) := by rw [Hid, HGF.out, ← HLX.out, hfb]; simp
        have HA : Hid (∀ w', GFA w w' K0 bs (.returned (.tuple #[zFil, .int .i64 3]))) := fun w' => .inr (.inl ⟨hk, HG.out, rfl⟩)
        clear hfb HG HGF
        go_wp2_with fail
        refine wp_region_held_drew (S := fun V => Kp No W3 V) (by kernel_rfl) ((Kp.refl _ _).drew) (fun hHeld => ?_)
        refine wpAnyH_take (i := 0) (oi := { dst := some 24, op := Op.load 35 (Operand.tmp 6), type := 35, pos := "file.go:38", after := #[], guard := none }) (v := .agg #[.int .i64 s, .slice ax lx cx]) rfl (by kernel_rfl) (by kernel_rfl) (by kernel_rfl) (fun _ _ _ h => h) (Or.inl ⟨by rfl, fun w' hw' => by (obtain ⟨q0, q1⟩ := HS3.out _ hw'; clear hw'; go_simp)⟩) hHeld ?_
        simp only [Act.put, List.setIfInBounds_toArray, List.set_cons_zero, List.set_cons_succ]
        refine wpAnyH_ready (rs := [1]) (by kernel_rfl) (by simp) ?_
        refine (AllReadyH.cons (o := { dst := some 25, op := Op.call { callee := Callee.value (Operand.func 37), args := #[Operand.tmp 24], argTypes := #[35] }, type := 4, pos := "file.go:38", after := #[{ on := 0, ground := Ground.data }], guard := none }) rfl (fun K hK => ?_) AllReadyH.nil)
        go_simp
        refine (HRT.out _).mono ?_
        rintro e' w4 ⟨rfl, hb4⟩
        have HK4 : Hid (Kp No W3 w4) := ((Kp.refl No W3).drew).andNone (Kp.below hb4)
        clear hb4
        go_wp2_with fail
        refine hK.out _ _ (HK4.out) (fun hh => ?_)
        clear hK K hHeld
        have hHeld := hh
        clear hh
        try simp only [Act.put, List.setIfInBounds_toArray, List.set_cons_zero, List.set_cons_succ]
        refine wpAnyH_take (i := 2) (oi := { dst := some 26, op := Op.unOp UnOp.not 4 (Operand.tmp 25), type := 4, pos := "file.go:38", after := #[{ on := 1, ground := Ground.data }], guard := none }) (v := .bool true) rfl (by kernel_rfl) (by kernel_rfl) (by kernel_rfl) (fun _ _ _ h => h) (Or.inl ⟨by rfl, fun w' hw' => by (clear hw'; go_simp)⟩) hHeld ?_
        simp only [Act.put, List.setIfInBounds_toArray, List.set_cons_zero, List.set_cons_succ]
        refine wpAnyH_take (i := 3) (oi := { dst := some 27, op := Op.move (Operand.tmp 26), type := 4, pos := "file.go:38", after := #[{ on := 2, ground := Ground.data }, { on := 1, ground := Ground.chain }], guard := none }) (v := .bool true) rfl (by kernel_rfl) (by kernel_rfl) (by kernel_rfl) (fun _ _ _ h => h) (Or.inl ⟨by rfl, fun w' hw' => by (clear hw'; go_simp)⟩) hHeld ?_
        simp only [Act.put, List.setIfInBounds_toArray, List.set_cons_zero, List.set_cons_succ]
        refine wpAnyH_take (i := 4) (oi := { dst := some 28, op := Op.load 95 (Operand.tmp 4), type := 95, pos := "file.go:38", after := #[{ on := 3, ground := Ground.guard }], guard := some (3, false) }) (v := undef) rfl (by kernel_rfl) (by kernel_rfl) (by kernel_rfl) (fun _ _ _ h => h) (Or.inr ⟨by rfl, rfl⟩) hHeld ?_
        simp only [Act.put, List.setIfInBounds_toArray, List.set_cons_zero, List.set_cons_succ]
        refine wpAnyH_take (i := 5) (oi := { dst := some 29, op := Op.load 35 (Operand.tmp 6), type := 35, pos := "file.go:38", after := #[{ on := 3, ground := Ground.guard }], guard := some (3, false) }) (v := undef) rfl (by kernel_rfl) (by kernel_rfl) (by kernel_rfl) (fun _ _ _ h => h) (Or.inr ⟨by rfl, rfl⟩) hHeld ?_
        simp only [Act.put, List.setIfInBounds_toArray, List.set_cons_zero, List.set_cons_succ]
        refine wpAnyH_take (i := 6) (oi := { dst := some 30, op := Op.call { callee := Callee.value (Operand.func 39), args := #[Operand.tmp 29], argTypes := #[35] }, type := 95, pos := "file.go:38", after := #[{ on := 5, ground := Ground.data }, { on := 3, ground := Ground.chain }, { on := 3, ground := Ground.guard }], guard := some (3, false) }) (v := undef) rfl (by kernel_rfl) (by kernel_rfl) (by kernel_rfl) (fun _ _ _ h => h) (Or.inr ⟨by rfl, rfl⟩) hHeld ?_
        simp only [Act.put, List.setIfInBounds_toArray, List.set_cons_zero, List.set_cons_succ]
        refine wpAnyH_take (i := 7) (oi := { dst := some 31, op := Op.call { callee := Callee.value (Operand.func 50), args := #[Operand.tmp 28, Operand.tmp 30], argTypes := #[95, 95] }, type := 4, pos := "file.go:38", after := #[{ on := 4, ground := Ground.data }, { on := 6, ground := Ground.data }, { on := 6, ground := Ground.chain }, { on := 3, ground := Ground.guard }], guard := some (3, false) }) (v := undef) rfl (by kernel_rfl) (by kernel_rfl) (by kernel_rfl) (fun _ _ _ h => h) (Or.inr ⟨by rfl, rfl⟩) hHeld ?_
        simp only [Act.put, List.setIfInBounds_toArray, List.set_cons_zero, List.set_cons_succ]
        refine wpAnyH_take (i := 8) (oi := { dst := some 32, op := Op.unOp UnOp.not 4 (Operand.tmp 31), type := 4, pos := "file.go:38", after := #[{ on := 7, ground := Ground.data }, { on := 3, ground := Ground.guard }], guard := some (3, false) }) (v := undef) rfl (by kernel_rfl) (by kernel_rfl) (by kernel_rfl) (fun _ _ _ h => h) (Or.inr ⟨by rfl, rfl⟩) hHeld ?_
        simp only [Act.put, List.setIfInBounds_toArray, List.set_cons_zero, List.set_cons_succ]
        refine wpAnyH_take (i := 9) (oi := { dst := some 33, op := Op.pick (Operand.tmp 27) (Operand.const (Value.bool true)) (Operand.tmp 32), type := 4, pos := "file.go:38", after := #[{ on := 3, ground := Ground.data }, { on := 8, ground := Ground.data }], guard := none }) (v := .bool true) rfl (by kernel_rfl) (by kernel_rfl) (by kernel_rfl) (fun _ _ _ h => h) (Or.inl ⟨by rfl, fun w' hw' => by (clear hw'; go_simp)⟩) hHeld ?_
        simp only [Act.put, List.setIfInBounds_toArray, List.set_cons_zero, List.set_cons_succ]
        refine wpAnyH_done (by kernel_rfl) ?_ _
        clear hHeld
        obtain ⟨g0, g1, gf, hg2⟩ := HTAIL.out _ HK4.out
        go_wp2_with fail
        obtain ⟨q0, q1⟩ := set2_read (u0 := .int .i64 0) (u1 := .slice none 0 0) g0 g1
        refine bodyPost_ret (v := .tuple #[zFil, .int .i64 3]) (by simp [results, Try.results18, go_sem, q0, q1, zFil]) rfl ⟨HA.out _, ?_⟩
        exact ((HBW.out _ HK4.out).setCell (by simp) _).setCell (by simp) _
      | true =>
        rw [hfb] at HRT
        have h0s : 0 ≤ s ∧ s ≤ 2000 := by
          unfold fileB at hfb
          simp only [decide_eq_true_eq] at hfb
          exact ⟨hfb.1, hfb.2.1⟩
        have HVAL := hid (fun (V : World) (hV : Kp No W3 V) => fvalue_any V s _ d _ (HH3.out.kept hV) (fun g hg => Nat.lt_of_lt_of_le hg.1 hV.size) (by omega) (by have := HLN.out; omega))
        have HSM := hid (fun (V : World) (sb sk : Value) (h : Tlv.Rep 0 V.heap.size V 9 t (.slice a3 l3 p3) (.slice a4 2 p4)) (h' : Tlv.Rep 0 V.heap.size V 3 (fileT s d) sb sk) => Tlv.Same_any t (fileT s d) _ _ sb sk V h h' (by omega))
        rw [HTG.out, HNM.out, show (fileT s d).hd.1 = 3 from rfl, show (fileT s d).hd.2.1 = 0 from rfl] at HSM
        have HRV : Hid (∀ V, Kp No W3 V → Tlv.Rep 0 V.heap.size V 9 t (.slice a3 l3 p3) (.slice a4 2 p4)) := fun V hV =>
          HR2.out.agree (Agree.below (HK3.out.trans (hV.toBelow'.mono HK3.out.size))) (Nat.le_refl _) (Nat.le_trans HK3.out.size hV.size)
        have HFB : Hid (fileB s d.length = true) := by rw [Hid, ← HLX.out]; exact hfb
        clear hfb h0s
        go_wp2_with fail
        obtain ⟨r, hr⟩ : ∃ r, Tlv.sameT 9 t 3 (fileT s d) = r := ⟨_, rfl⟩
        have HR := hid hr
        rw [hr] at HSM
        clear hr
        refine wp_region_held_drew (S := fun V => Kp No W3 V) (by kernel_rfl) ((Kp.refl _ _).drew) (fun hHeld => ?_)
        refine wpAnyH_take (i := 0) (oi := { dst := some 24, op := Op.load 35 (Operand.tmp 6), type := 35, pos := "file.go:38", after := #[], guard := none }) (v := .agg #[.int .i64 s, .slice ax lx cx]) rfl (by kernel_rfl) (by kernel_rfl) (by kernel_rfl) (fun _ _ _ h => h) (Or.inl ⟨by rfl, fun w' hw' => by (obtain ⟨q0, q1⟩ := HS3.out _ hw'; clear hw'; go_simp)⟩) hHeld ?_
        simp only [Act.put, List.setIfInBounds_toArray, List.set_cons_zero, List.set_cons_succ]
        refine wpAnyH_ready (rs := [1]) (by kernel_rfl) (by simp) ?_
        refine (AllReadyH.cons (o := { dst := some 25, op := Op.call { callee := Callee.value (Operand.func 37), args := #[Operand.tmp 24], argTypes := #[35] }, type := 4, pos := "file.go:38", after := #[{ on := 0, ground := Ground.data }], guard := none }) rfl (fun K hK => ?_) AllReadyH.nil)
        go_simp
        refine (HRT.out _).mono ?_
        rintro e' w4 ⟨rfl, hb4⟩
        have HK4 : Hid (Kp No W3 w4) := ((Kp.refl No W3).drew).andNone (Kp.below hb4)
        clear hb4
        go_wp2_with fail
        refine hK.out _ _ (HK4.out) (fun hh => ?_)
        clear hK K hHeld
        have hHeld := hh
        clear hh
        try simp only [Act.put, List.setIfInBounds_toArray, List.set_cons_zero, List.set_cons_succ]
        refine wpAnyH_take (i := 2) (oi := { dst := some 26, op := Op.unOp UnOp.not 4 (Operand.tmp 25), type := 4, pos := "file.go:38", after := #[{ on := 1, ground := Ground.data }], guard := none }) (v := .bool false) rfl (by kernel_rfl) (by kernel_rfl) (by kernel_rfl) (fun _ _ _ h => h) (Or.inl ⟨by rfl, fun w' hw' => by (clear hw'; go_simp)⟩) hHeld ?_
        simp only [Act.put, List.setIfInBounds_toArray, List.set_cons_zero, List.set_cons_succ]
        refine wpAnyH_take (i := 3) (oi := { dst := some 27, op := Op.move (Operand.tmp 26), type := 4, pos := "file.go:38", after := #[{ on := 2, ground := Ground.data }, { on := 1, ground := Ground.chain }], guard := none }) (v := .bool false) rfl (by kernel_rfl) (by kernel_rfl) (by kernel_rfl) (fun _ _ _ h => h) (Or.inl ⟨by rfl, fun w' hw' => by (clear hw'; go_simp)⟩) hHeld ?_
        simp only [Act.put, List.setIfInBounds_toArray, List.set_cons_zero, List.set_cons_succ]
        refine wpAnyH_take (i := 4) (oi := { dst := some 28, op := Op.load 95 (Operand.tmp 4), type := 95, pos := "file.go:38", after := #[{ on := 3, ground := Ground.guard }], guard := some (3, false) }) (v := .agg #[.int .i64 tg, .int .u64 nm, .slice a3 l3 p3, .slice a4 2 p4]) rfl (by kernel_rfl) (by kernel_rfl) (by kernel_rfl) (fun _ _ _ h => h) (Or.inl ⟨by rfl, fun w' hw' => by (obtain ⟨q0, q1, q2, q3⟩ := HS2.out _ hw'; clear hw'; go_simp)⟩) hHeld ?_
        simp only [Act.put, List.setIfInBounds_toArray, List.set_cons_zero, List.set_cons_succ]
        refine wpAnyH_take (i := 5) (oi := { dst := some 29, op := Op.load 35 (Operand.tmp 6), type := 35, pos := "file.go:38", after := #[{ on := 3, ground := Ground.guard }], guard := some (3, false) }) (v := .agg #[.int .i64 s, .slice ax lx cx]) rfl (by kernel_rfl) (by kernel_rfl) (by kernel_rfl) (fun _ _ _ h => h) (Or.inl ⟨by rfl, fun w' hw' => by (obtain ⟨q0, q1⟩ := HS3.out _ hw'; clear hw'; go_simp)⟩) hHeld ?_
        simp only [Act.put, List.setIfInBounds_toArray, List.set_cons_zero, List.set_cons_succ]
        refine wpAnyH_ready (rs := [6]) (by kernel_rfl) (by simp) ?_
        refine (AllReadyH.cons (o := { dst := some 30, op := Op.call { callee := Callee.value (Operand.func 39), args := #[Operand.tmp 29], argTypes := #[35] }, type := 95, pos := "file.go:38", after := #[{ on := 5, ground := Ground.data }, { on := 3, ground := Ground.chain }, { on := 3, ground := Ground.guard }], guard := some (3, false) }) rfl (fun K hK => ?_) AllReadyH.nil)
        go_simp
        refine (HVAL.out _ HK4.out).mono ?_
        rintro e' w5 ⟨b3, m3, r3, b4, m4, r4, rfl, hrp, hb5⟩
        have HK5 : Hid (Kp No W3 w5) := HK4.out.andNone (Kp.below hb5)
        have HRP : Hid (Tlv.Rep 0 w5.heap.size w5 3 (fileT s d) (.slice b3 m3 r3) (.slice b4 m4 r4)) := hrp.agree (Agree.refl _ _ _) (Nat.zero_le _) (Nat.le_refl _)
        clear hb5 hrp
        go_wp2_with fail
        refine hK.out _ _ (HK5.out) (fun hh => ?_)
        clear hK K hHeld
        have hHeld := hh
        clear hh
        try simp only [Act.put, List.setIfInBounds_toArray, List.set_cons_zero, List.set_cons_succ]
        refine wpAnyH_ready (rs := [7]) (by kernel_rfl) (by simp) ?_
        refine (AllReadyH.cons (o := { dst := some 31, op := Op.call { callee := Callee.value (Operand.func 50), args := #[Operand.tmp 28, Operand.tmp 30], argTypes := #[95, 95] }, type := 4, pos := "file.go:38", after := #[{ on := 4, ground := Ground.data }, { on := 6, ground := Ground.data }, { on := 6, ground := Ground.chain }, { on := 3, ground := Ground.guard }], guard := some (3, false) }) rfl (fun K hK => ?_) AllReadyH.nil)
        go_simp
        refine (HSM.out _ _ _ (HRV.out _ HK5.out) HRP.out).mono ?_
        rintro e' w6 ⟨rfl, hb6⟩
        have HK6 : Hid (Kp No W3 w6) := HK5.out.andNone (Kp.below hb6)
        clear hb6
        go_wp2_with fail
        refine hK.out _ _ (HK6.out) (fun hh => ?_)
        clear hK K hHeld
        have hHeld := hh
        clear hh
        try simp only [Act.put, List.setIfInBounds_toArray, List.set_cons_zero, List.set_cons_succ]
        refine wpAnyH_take (i := 8) (oi := { dst := some 32, op := Op.unOp UnOp.not 4 (Operand.tmp 31), type := 4, pos := "file.go:38", after := #[{ on := 7, ground := Ground.data }, { on := 3, ground := Ground.guard }], guard := some (3, false) }) (v := .bool (!r)) rfl (by kernel_rfl) (by kernel_rfl) (by kernel_rfl) (fun _ _ _ h => h) (Or.inl ⟨by rfl, fun w' hw' => by (clear hw'; go_simp)⟩) hHeld ?_
        simp only [Act.put, List.setIfInBounds_toArray, List.set_cons_zero, List.set_cons_succ]
        refine wpAnyH_take (i := 9) (oi := { dst := some 33, op := Op.pick (Operand.tmp 27) (Operand.const (Value.bool true)) (Operand.tmp 32), type := 4, pos := "file.go:38", after := #[{ on := 3, ground := Ground.data }, { on := 8, ground := Ground.data }], guard := none }) (v := .bool (!r)) rfl (by kernel_rfl) (by kernel_rfl) (by kernel_rfl) (fun _ _ _ h => h) (Or.inl ⟨by rfl, fun w' hw' => by (clear hw'; go_simp)⟩) hHeld ?_
        simp only [Act.put, List.setIfInBounds_toArray, List.set_cons_zero, List.set_cons_succ]
        refine wpAnyH_done (by kernel_rfl) ?_ _
        clear hHeld
        obtain ⟨g0, g1, gf, hg2⟩ := HTAIL.out _ HK6.out
        cases r with
        | false =>
          have HG : Hid (gfile bs = none) := by rw [Hid, HGF.out, HR.out]; simp
          have HA : Hid (∀ w', GFA w w' K0 bs (.returned (.tuple #[zFil, .int .i64 3]))) := fun w' => .inr (.inl ⟨hk, HG.out, rfl⟩)
          go_wp2_with fail
          obtain ⟨q0, q1⟩ := set2_read (u0 := .int .i64 0) (u1 := .slice none 0 0) g0 g1
          refine bodyPost_ret (v := .tuple #[zFil, .int .i64 3]) (by simp [results, Try.results18, go_sem, q0, q1, zFil]) rfl ⟨HA.out _, ?_⟩
          exact ((HBW.out _ HK6.out).setCell (by simp) _).setCell (by simp) _
        | true =>
          have HG : Hid (gfile bs = some (s, d)) := by rw [Hid, HGF.out, HR.out, HFB.out]; rfl
          have HA : Hid (∀ w', HV (fun g => g < w'.heap.size ∧ w.heap.size ≤ g) w' (.slice ax lx cx) d → GFA w w' K0 bs (.returned (.tuple #[.agg #[.int .i64 s, .slice ax lx cx], .int .i64 0]))) := fun w' h => .inr (.inr ⟨s, d, ax, lx, cx, hk, HG.out, rfl, h⟩)
          obtain ⟨y0, y1⟩ := HS3.out _ HK6.out
          go_wp2_with fail
          obtain ⟨q0, q1⟩ := set2_read (u0 := .int .i64 s) (u1 := .slice ax lx cx) g0 g1
          refine bodyPost_ret (v := .tuple #[.agg #[.int .i64 s, .slice ax lx cx], .int .i64 0]) (by simp [results, Try.results18, go_sem, q0, q1]) rfl ⟨HA.out _ ?_, ?_⟩
          · have hkk : Kp (· = w.heap.size + 1) w6 ((w6.setCell ⟨w.heap.size + 1, 0, none⟩ (.int .i64 s)).setCell ⟨w.heap.size + 1, 1, none⟩ (.slice ax lx cx)) := ((Kp.refl (· = w.heap.size + 1) _).setCell (p := ⟨w.heap.size + 1, 0, none⟩) (.inl rfl) _).setCell (p := ⟨w.heap.size + 1, 1, none⟩) (.inl rfl) _
            exact hv_kept2 (HH3.out.kept HK6.out) hkk (fun g hg => ⟨by have := HZ0.out; have := HBW2.out.size; omega, Nat.lt_of_lt_of_le hg.1 (Nat.le_trans HK6.out.size hkk.size), by have := HZ0.out; have := HBW2.out.size; omega⟩)
          · exact ((HBW.out _ HK6.out).setCell (by simp) _).setCell (by simp) _
    · have hne : ¬ ((l4 : Int) = 2) := by omega
      have hneb : ((l4 : Int) == 2) = false := by simpa using hne
      have hneb2 : ((l4 : Int) != 2) = true := by simpa using hne
      have hneb3 : (l4 == 2) = false := by simpa using h2
      have hneb4 : (l4 != 2) = true := by simpa using h2
      have HG : Hid (gfile bs = none) := by
        rw [Hid, gfile, HT.out]
        show (match t.kd with | [t0, t1] => _ | _ => none) = none
        split
        · rename_i h5
          rw [h5] at h4
          exact absurd h4 h2
        · rfl
      have HA : Hid (∀ w', GFA w w' K0 bs (.returned (.tuple #[zFil, .int .i64 3]))) := fun w' => .inr (.inl ⟨hk, HG.out, rfl⟩)
      obtain ⟨f0, f1, f2, f3⟩ := HV2.out
      obtain ⟨g0, g1, gf, hg2⟩ := HX0.out _ HBW2.out
      clear h2 h4 hks
      go_wp2_with fail
      obtain ⟨q0, q1⟩ := set2_read (u0 := .int .i64 0) (u1 := .slice none 0 0) g0 g1
      refine bodyPost_ret (v := .tuple #[zFil, .int .i64 3]) (by simp [results, Try.results18, go_sem, q0, q1, zFil]) rfl ⟨HA.out _, ?_⟩
      exact ((HB0.out.trans (HBW2.out.mono HB0.out.size)).setCell (by simp) _).setCell (by simp) _
end Go.Proofs.Ytenfahecnkdhaaa.Nd
end

section
/-
  entry, of the program: what three values tell.
-/
namespace Go.Proofs.Ytenfahecnkdhaaa.Nd
open Go.RowKit
open Tlv (Tr Agree)
open Sim (hid Kp No)
set_option linter.unusedSimpArgs false

theorem exec_storeE {P : Program} {o : Oper} {a : Act} {w : World} (ty : TypeId) (x y : Operand) (ho : o.op = .store ty x y) (b off : Nat) (cells : Array Value) (hx : a.eval x = .pointer (some ⟨b, off, none⟩)) (hy : a.eval y = .agg cells)
    (ht : w.there b off cells.size) (hi : (P.info? ty).map (·.size) = some cells.size) (h1 : cells.all (·.oneCell') = true) : (execOp a.eval o).run P w = .ok .skip (w.setCells b off cells.toList) := by
  unfold execOp
  simp only [ho, hx, hy, Instr.storeAt, Instr.sureAddr, Sem.run_bind, Sem.run_pure, Result.andThen_ok, run_storeVar_mid w b off ty cells ht hi h1]
theorem wp_skipE {P : Program} {o : Oper} {a : Act} {K : Act → World → Prop} {Q : Exit → Act → World → Prop} {w w' : World} (hr : (execOp a.eval o).run P w = .ok .skip w') (h : K (a.put o.dst undef) w') : Oper.wp P o a w K Q := by
  unfold Oper.wp
  rw [hr]
  exact h
/-- The entry that three values tell. -/
def entryOf {n m k : Nat} (t0 : Tr n) (t1 : Tr m) (t2 : Tr k) : Ent := (t0.hd.2.2, decide (t1.hd.2.1 = 1), h32 t2.hd.2.2)

set_option maxHeartbeats 4000000 in
set_option maxRecDepth 100000 in
theorem entry_any (w : World) (v : Value) (t0 t1 t2 : Tr 7) (hv : Tlv.KSl 0 w.heap.size w (Tlv.Rep 0 w.heap.size w 7) v [t0, t1, t2]) :
    Calls Try.prog 53 #[v] w fun e w' => e = .returned (.agg (entC (entryOf t0 t1 t2)).toArray) ∧ EOk (entryOf t0 t1 t2) ∧ Below w.heap.size w w' := by
  obtain ⟨a, c, rfl, hxx⟩ := id hv
  clear hxx
  obtain ⟨g, o, t, sb0, sk0, rfl, hg, ht, a0, a1, a2, a3, r0⟩ := kid_at hv (k := 0) (by simp)
  obtain ⟨g', o', t', sb1, sk1, e, _, ht', b0, b1, b2, b3, r1⟩ := kid_at hv (k := 1) (by simp)
  simp only [Option.some.injEq, Addr.mk.injEq] at e
  obtain ⟨rfl, rfl, hxx⟩ := e
  clear hxx
  obtain ⟨g', o', t'', sb2, sk2, e, _, ht'', c0, c1, c2, c3, r2⟩ := kid_at hv (k := 2) (by simp)
  simp only [Option.some.injEq, Addr.mk.injEq] at e
  obtain ⟨rfl, rfl, hxx⟩ := e
  clear hxx
  simp only [List.getElem?_cons_zero, List.getElem?_cons_succ, Option.some.injEq] at ht ht' ht''
  subst ht
  subst ht'
  subst ht''
  obtain ⟨hxa, hxb, hby0, hxc⟩ := r0
  clear hxa hxb hxc
  obtain ⟨hxa, hxb, hby2, hxc⟩ := r2
  clear hxa hxb hxc
  clear hv a0 a1 a3 b0 b2 b3 c0 c1 c3 r1
  simp only [Nat.zero_mul, Nat.one_mul, Nat.add_zero, Nat.add_assoc, Nat.reduceAdd, Nat.reduceMul, List.length_cons, List.length_nil] at a2 b1 c2 ⊢
  have hEO : EOk (entryOf t0 t1 t2) := ⟨Tlv.BySl.bytes hby0, (h32_ok (Tlv.BySl.bytes hby2)).1, (h32_ok (Tlv.BySl.bytes hby2)).2⟩
  have HEO := hid hEO
  unfold entryOf at HEO ⊢
  obtain ⟨q, hq⟩ : ∃ q, t1.hd.2.1 = q := ⟨_, rfl⟩
  rw [hq] at b1 HEO ⊢
  obtain ⟨nm, hnm⟩ : ∃ x, t0.hd.2.2 = x := ⟨_, rfl⟩
  rw [hnm] at hby0 HEO ⊢
  obtain ⟨hs, hhs⟩ : ∃ x, t2.hd.2.2 = x := ⟨_, rfl⟩
  rw [hhs] at hby2 HEO ⊢
  have HOKH : Hid (HOk (h32 hs)) := h32_ok (Tlv.BySl.bytes hby2)
  obtain ⟨ln, hln⟩ : ∃ x, nm.length = x := ⟨_, rfl⟩
  obtain ⟨lh, hlh⟩ : ∃ x, hs.length = x := ⟨_, rfl⟩
  obtain ⟨an, cn, rfl, hxx⟩ := id hby0
  clear hxx
  obtain ⟨ah, ch, rfl, hxx⟩ := id hby2
  clear hxx
  rw [hln] at a2 hby0
  rw [hlh] at c2 hby2
  clear hq hnm hhs t0 t1 t2 hEO hln hlh
  obtain ⟨W0, hW0⟩ : ∃ W, w.alloc (.cells #[.string ⟨#[]⟩, .bool false, .int .u8 0, .int .u8 0, .int .u8 0, .int .u8 0, .int .u8 0, .int .u8 0, .int .u8 0, .int .u8 0, .int .u8 0, .int .u8 0, .int .u8 0, .int .u8 0, .int .u8 0, .int .u8 0, .int .u8 0, .int .u8 0, .int .u8 0, .int .u8 0, .int .u8 0, .int .u8 0, .int .u8 0, .int .u8 0, .int .u8 0, .int .u8 0, .int .u8 0, .int .u8 0, .int .u8 0, .int .u8 0, .int .u8 0, .int .u8 0, .int .u8 0, .int .u8 0] 70) = W := ⟨_, rfl⟩
  have hz0 : W0.heap.size = w.heap.size + 1 := by rw [← hW0]; simp
  have HK0 : Hid (Kp No w W0) := by rw [Hid, ← hW0]; exact (Kp.refl No w).alloc _
  have hgn : ¬ g = w.heap.size := by omega
  have HA : Hid (∀ V, Kp (· = w.heap.size) W0 V → V.cell? ⟨g, o + 2, none⟩ = some (.slice an ln cn) ∧ V.cell? ⟨g, o + 5, none⟩ = some (.int .u64 q) ∧ V.cell? ⟨g, o + 10, none⟩ = some (.slice ah lh ch)) := fun V hV => by
    have hh : ∀ j, V.cell? ⟨g, j, none⟩ = w.cell? ⟨g, j, none⟩ := fun j => (hV.cell (p := ⟨g, j, none⟩) (by rw [hz0]; show g < _; omega) hgn).trans (HK0.out.cell (p := ⟨g, j, none⟩) hg (fun x => x))
    exact ⟨(hh _).trans a2, (hh _).trans b1, (hh _).trans c2⟩
  have HCV : Hid (∀ V, Kp (· = w.heap.size) W0 V → (convert 26 9 (.slice an ln cn)).run Try.prog V = .ok (.string (txt nm)) V) := fun V hV =>
    Tlv.conv_bytes (hby0.agree (L' := 0) (B' := w.heap.size) (w' := V) (fun j _ hj => (hV.block j (by omega) (by show ¬ j = _; omega)).trans (HK0.out.block j hj (fun x => x))) (Nat.le_refl _) (Nat.le_refl _))
  have HBY : Hid (Tlv.BySl 0 W0.drew.heap.size W0.drew (.slice ah lh ch) hs) := hby2.agree (w' := W0.drew) (fun j _ hj => HK0.out.block j hj (fun x => x)) (Nat.le_refl _) (by show _ ≤ W0.heap.size; omega)
  have HTH : Hid (∀ V, Below W0.heap.size W0 V → V.there w.heap.size 0 34) := fun V hV j hj => by
    rw [hV.cell (p := ⟨w.heap.size, _, none⟩) (by show w.heap.size < _; omega), hV.frozen (p := ⟨w.heap.size, _, none⟩) (by show w.heap.size < _; omega), ← hW0]
    exact thereE _ _ _ _ (by simp) j hj
  have HB1 := hid (builtN' nm (decide (q = 1)) (h32 hs) HOKH.out.1)
  obtain ⟨C, hC⟩ : ∃ C, entC (nm, decide (q = 1), h32 hs) = C := ⟨_, rfl⟩
  have HLC : Hid (C.length = 34) := by rw [Hid, ← hC]; exact entC_length HEO.out
  have HOC : Hid (C.toArray.all (·.oneCell') = true) := by rw [Hid, ← hC]; exact all_oneCell_toArray (entC_one _)
  have HIC : Hid ((Try.prog.info? 70).map (·.size) = some C.length) := by rw [Hid, HLC.out]; exact info48
  have HEO2 := HEO
  rw [hC] at HB1 ⊢
  have HQ1 : Hid ((q == 1) = decide (q = 1)) := by rw [Hid, Bool.eq_iff_iff]; simp
  clear hC hby0 hby2 hgn a2 b1 c2
  generalize txt nm = T at *
  go_enter Try.func53, Try.ntmps53
  go_wp2_with fail
  refine wp_region_held_drew (S := fun V => Kp (· = w.heap.size) W0 V) (by kernel_rfl) ((Kp.refl _ _).drew) (fun hHeld => ?_)
  refine wpAnyH_take (i := 0) (oi := { dst := some 3, op := Op.move (Operand.tmp 0), type := 93, pos := "dir.go:113", after := #[], guard := none }) (v := .slice (some ⟨g, o, none⟩) 3 c) rfl (by kernel_rfl) (by kernel_rfl) (by kernel_rfl) (fun _ _ _ h => h) (Or.inl ⟨by rfl, fun w' hw' => by (clear hw'; go_simp)⟩) hHeld ?_
  simp only [Act.put, List.setIfInBounds_toArray, List.set_cons_zero, List.set_cons_succ]
  refine wpAnyH_take (i := 1) (oi := { dst := some 4, op := Op.indexAddr 93 (Operand.tmp 3) (Operand.const (Value.int IntKind.i64 0)), type := 0, pos := "dir.go:113", after := #[{ on := 0, ground := Ground.data }], guard := none }) (v := .pointer (some ⟨g, o, none⟩)) rfl (by kernel_rfl) (by kernel_rfl) (by kernel_rfl) (fun _ _ _ h => h) (Or.inl ⟨by rfl, fun w' hw' => by (clear hw'; go_simp)⟩) hHeld ?_
  simp only [Act.put, List.setIfInBounds_toArray, List.set_cons_zero, List.set_cons_succ]
  refine wpAnyH_take (i := 2) (oi := { dst := some 5, op := Op.fieldAddr 95 (Operand.tmp 4) 2, type := 0, pos := "dir.go:113", after := #[{ on := 1, ground := Ground.data }], guard := none }) (v := .pointer (some ⟨g, o + 2, none⟩)) rfl (by kernel_rfl) (by kernel_rfl) (by kernel_rfl) (fun _ _ _ h => h) (Or.inl ⟨by rfl, fun w' hw' => by (clear hw'; go_simp)⟩) hHeld ?_
  simp only [Act.put, List.setIfInBounds_toArray, List.set_cons_zero, List.set_cons_succ]
  refine wpAnyH_take (i := 3) (oi := { dst := some 6, op := Op.load 26 (Operand.tmp 5), type := 26, pos := "dir.go:113", after := #[{ on := 2, ground := Ground.data }], guard := none }) (v := .slice an ln cn) rfl (by kernel_rfl) (by kernel_rfl) (by kernel_rfl) (fun _ _ _ h => h) (Or.inl ⟨by rfl, fun w' hw' => by (have q := (HA.out _ hw').1; clear hw'; go_simp)⟩) hHeld ?_
  simp only [Act.put, List.setIfInBounds_toArray, List.set_cons_zero, List.set_cons_succ]
  refine wpAnyH_take (i := 4) (oi := { dst := some 7, op := Op.convert 26 9 (Operand.tmp 6), type := 9, pos := "dir.go:113", after := #[{ on := 3, ground := Ground.data }], guard := none }) (v := .string T) rfl (by kernel_rfl) (by kernel_rfl) (by kernel_rfl) (fun _ _ _ h => h) (Or.inl ⟨by rfl, fun w' hw' => exec_conv 26 9 (.tmp 6) rfl (.slice an ln cn) (.string T) rfl (HCV.out w' hw')⟩) hHeld ?_
  simp only [Act.put, List.setIfInBounds_toArray, List.set_cons_zero, List.set_cons_succ]
  refine wpAnyH_take (i := 5) (oi := { dst := some 8, op := Op.move (Operand.tmp 0), type := 93, pos := "dir.go:113", after := #[], guard := none }) (v := .slice (some ⟨g, o, none⟩) 3 c) rfl (by kernel_rfl) (by kernel_rfl) (by kernel_rfl) (fun _ _ _ h => h) (Or.inl ⟨by rfl, fun w' hw' => by (clear hw'; go_simp)⟩) hHeld ?_
  simp only [Act.put, List.setIfInBounds_toArray, List.set_cons_zero, List.set_cons_succ]
  refine wpAnyH_take (i := 6) (oi := { dst := some 9, op := Op.indexAddr 93 (Operand.tmp 8) (Operand.const (Value.int IntKind.i64 1)), type := 0, pos := "dir.go:113", after := #[{ on := 5, ground := Ground.data }], guard := none }) (v := .pointer (some ⟨g, o + 4, none⟩)) rfl (by kernel_rfl) (by kernel_rfl) (by kernel_rfl) (fun _ _ _ h => h) (Or.inl ⟨by rfl, fun w' hw' => by (clear hw'; go_simp)⟩) hHeld ?_
  simp only [Act.put, List.setIfInBounds_toArray, List.set_cons_zero, List.set_cons_succ]
  refine wpAnyH_take (i := 7) (oi := { dst := some 10, op := Op.fieldAddr 95 (Operand.tmp 9) 1, type := 0, pos := "dir.go:113", after := #[{ on := 6, ground := Ground.data }], guard := none }) (v := .pointer (some ⟨g, o + 5, none⟩)) rfl (by kernel_rfl) (by kernel_rfl) (by kernel_rfl) (fun _ _ _ h => h) (Or.inl ⟨by rfl, fun w' hw' => by (clear hw'; go_simp)⟩) hHeld ?_
  simp only [Act.put, List.setIfInBounds_toArray, List.set_cons_zero, List.set_cons_succ]
  refine wpAnyH_take (i := 8) (oi := { dst := some 11, op := Op.load 83 (Operand.tmp 10), type := 83, pos := "dir.go:113", after := #[{ on := 7, ground := Ground.data }], guard := none }) (v := .int .u64 q) rfl (by kernel_rfl) (by kernel_rfl) (by kernel_rfl) (fun _ _ _ h => h) (Or.inl ⟨by rfl, fun w' hw' => by (have q := (HA.out _ hw').2.1; clear hw'; go_simp)⟩) hHeld ?_
  simp only [Act.put, List.setIfInBounds_toArray, List.set_cons_zero, List.set_cons_succ]
  refine wpAnyH_take (i := 9) (oi := { dst := some 12, op := Op.binOp BinOp.eql 83 (Operand.tmp 11) (Operand.const (Value.int IntKind.u64 1)) 83, type := 4, pos := "dir.go:113", after := #[{ on := 8, ground := Ground.data }], guard := none }) (v := .bool (decide (q = 1))) rfl (by kernel_rfl) (by kernel_rfl) (by kernel_rfl) (fun _ _ _ h => h) (Or.inl ⟨by rfl, fun w' hw' => by (clear hw'; go_simp; exact HQ1.out)⟩) hHeld ?_
  simp only [Act.put, List.setIfInBounds_toArray, List.set_cons_zero, List.set_cons_succ]
  refine wpAnyH_take (i := 10) (oi := { dst := some 13, op := Op.move (Operand.tmp 0), type := 93, pos := "dir.go:113", after := #[], guard := none }) (v := .slice (some ⟨g, o, none⟩) 3 c) rfl (by kernel_rfl) (by kernel_rfl) (by kernel_rfl) (fun _ _ _ h => h) (Or.inl ⟨by rfl, fun w' hw' => by (clear hw'; go_simp)⟩) hHeld ?_
  simp only [Act.put, List.setIfInBounds_toArray, List.set_cons_zero, List.set_cons_succ]
  refine wpAnyH_take (i := 11) (oi := { dst := some 14, op := Op.indexAddr 93 (Operand.tmp 13) (Operand.const (Value.int IntKind.i64 2)), type := 0, pos := "dir.go:113", after := #[{ on := 10, ground := Ground.data }], guard := none }) (v := .pointer (some ⟨g, o + 8, none⟩)) rfl (by kernel_rfl) (by kernel_rfl) (by kernel_rfl) (fun _ _ _ h => h) (Or.inl ⟨by rfl, fun w' hw' => by (clear hw'; go_simp)⟩) hHeld ?_
  simp only [Act.put, List.setIfInBounds_toArray, List.set_cons_zero, List.set_cons_succ]
  refine wpAnyH_take (i := 12) (oi := { dst := some 15, op := Op.fieldAddr 95 (Operand.tmp 14) 2, type := 0, pos := "dir.go:113", after := #[{ on := 11, ground := Ground.data }], guard := none }) (v := .pointer (some ⟨g, o + 10, none⟩)) rfl (by kernel_rfl) (by kernel_rfl) (by kernel_rfl) (fun _ _ _ h => h) (Or.inl ⟨by rfl, fun w' hw' => by (clear hw'; go_simp)⟩) hHeld ?_
  simp only [Act.put, List.setIfInBounds_toArray, List.set_cons_zero, List.set_cons_succ]
  refine wpAnyH_take (i := 13) (oi := { dst := some 16, op := Op.load 26 (Operand.tmp 15), type := 26, pos := "dir.go:113", after := #[{ on := 12, ground := Ground.data }], guard := none }) (v := .slice ah lh ch) rfl (by kernel_rfl) (by kernel_rfl) (by kernel_rfl) (fun _ _ _ h => h) (Or.inl ⟨by rfl, fun w' hw' => by (have q := (HA.out _ hw').2.2; clear hw'; go_simp)⟩) hHeld ?_
  simp only [Act.put, List.setIfInBounds_toArray, List.set_cons_zero, List.set_cons_succ]
  refine wpAnyH_ready (rs := [14]) (by kernel_rfl) (by simp) ?_
  refine (AllReadyH.cons (o := { dst := some 17, op := Op.call { callee := Callee.value (Operand.func 73), args := #[Operand.tmp 16], argTypes := #[26] }, type := 68, pos := "dir.go:113", after := #[{ on := 13, ground := Ground.data }], guard := none }) rfl (fun K hK => ?_) AllReadyH.nil)
  go_simp
  refine (hash_any _ _ _ HBY.out).mono ?_
  rintro e' w2 ⟨rfl, hb2⟩
  have HB2 : Hid (Below W0.heap.size W0 w2) := (Below.refl _ _).drew.trans hb2
  clear hb2
  go_wp2_with fail
  refine hK.out _ _ ((Kp.below HB2.out)) (fun hh => ?_)
  clear hK K hHeld
  have hHeld := hh
  clear hh
  try simp only [Act.put, List.setIfInBounds_toArray, List.set_cons_zero, List.set_cons_succ]
  refine wpAnyH_take (i := 15) (oi := { dst := some 18, op := Op.build 70 #[(0, Operand.tmp 7), (1, Operand.tmp 12), (2, Operand.tmp 17)], type := 70, pos := "dir.go:113", after := #[{ on := 4, ground := Ground.data }, { on := 9, ground := Ground.data }, { on := 14, ground := Ground.data }], guard := none }) (v := .agg C.toArray) rfl (by kernel_rfl) (by kernel_rfl) (by kernel_rfl) (fun _ _ _ h => h) (yields_three (by rfl) 70 (.tmp 7) (.tmp 12) (.tmp 17) rfl (.string T) (.bool (decide (q = 1))) (.agg (b8 (h32 hs)).toArray) rfl rfl rfl _ HB1.out) hHeld ?_
  simp only [Act.put, List.setIfInBounds_toArray, List.set_cons_zero, List.set_cons_succ]
  refine wpAnyH_ready (rs := [16]) (by kernel_rfl) (by simp) ?_
  refine (AllReadyH.cons (o := { dst := none, op := Op.store 70 (Operand.tmp 2) (Operand.tmp 18), type := 0, pos := "dir.go:113", after := #[{ on := 15, ground := Ground.data }, { on := 14, ground := Ground.chain }, { on := 0, ground := Ground.phase }, { on := 1, ground := Ground.phase }, { on := 2, ground := Ground.phase }, { on := 3, ground := Ground.phase }, { on := 4, ground := Ground.phase }, { on := 5, ground := Ground.phase }, { on := 6, ground := Ground.phase }, { on := 7, ground := Ground.phase }, { on := 8, ground := Ground.phase }, { on := 9, ground := Ground.phase }, { on := 10, ground := Ground.phase }, { on := 11, ground := Ground.phase }, { on := 12, ground := Ground.phase }, { on := 13, ground := Ground.phase }, { on := 14, ground := Ground.phase }, { on := 15, ground := Ground.phase }], guard := none }) rfl (fun K hK => ?_) AllReadyH.nil)
  rw [if_pos (by rfl)]
  refine wp_skipE (exec_storeE 70 _ _ rfl w.heap.size 0 C.toArray rfl rfl (by show World.there _ _ _ C.length; rw [HLC.out]; exact HTH.out _ HB2.out) HIC.out HOC.out) ?_
  refine hK.out _ _ (((Kp.below HB2.out).trans (setCells_kp _ _ _ _) (fun x hx => .inl hx))) (fun hh => ?_)
  clear hK K hHeld
  have hHeld := hh
  clear hh
  try simp only [Act.put, List.setIfInBounds_toArray, List.set_cons_zero, List.set_cons_succ]
  refine wpAnyH_done (by kernel_rfl) ?_ _
  clear hHeld
  go_wp2_with fail
  refine bodyPost_ret (results_cell_one rfl _ _ w.heap.size 0 C _ rfl (World.rangeAt_setCells_same _ _ _ _ (by rw [HLC.out]; exact HTH.out _ HB2.out)) Try.underlying70 rfl HIC.out) rfl ⟨rfl, HEO2.out, ?_⟩
  exact (HK0.out.toBelow'.trans (HB2.out.mono HK0.out.size)).trans (setCells_bel (Nat.le_refl _) _ _ _)
end Go.Proofs.Ytenfahecnkdhaaa.Nd
end

section
/-
  GetDir, of the program.
-/
namespace Go.Proofs.Ytenfahecnkdhaaa.Nd
open Go.RowKit
open Tlv (Tr Agree)
open Sim (hid Kp No)
set_option linter.unusedSimpArgs false

theorem app_runN (w : World) (ty : TypeId) (v vx : Value) (n m : Nat) (xs ys : List Value) (hown : Sim.Row w 70 34 v n xs) (hy : Sim.Src w vx m 34 ys) (hm : 0 < m) (hlen : n + m ≤ 2000000) :
    ∃ ad cap w', (Builtin.append_ #[90, 90] ty #[v, vx]).run Try.prog w = .ok (.slice ad (n + m) cap) w' ∧ Sim.Row w' 70 34 (.slice ad (n + m) cap) (n + m) (xs ++ ys) ∧ w.grownBy w' v.ownBlock ∧ ((Value.slice ad (n + m) cap).ownBlock = v.ownBlock ∨ (Value.slice ad (n + m) cap).ownBlock = some w.heap.size) := by
  obtain ⟨i0, hi, hz0, hz1', hz2⟩ := info_parts infoE
  rcases hy with ⟨rfl, rfl, rfl⟩ | ⟨ad, c, rfl, hl, hc, h1⟩
  · omega
  · obtain ⟨v', w', hr, h8, h9, _, h10⟩ := run_append_own_at (P := Try.prog) w 0 90 ty 70 i0 (.agg zE.toArray) 34 56 Try.underlying90 hi hz0 hz1' hz2 rfl (by omega) v n xs hown ad m c ys hl hc h1 (by unfold maxLen; omega) (by omega) (Nat.zero_le _)
    have h8' : Sim.Row w' 70 34 v' (n + m) (xs ++ ys) := h8
    obtain ⟨ad', cap', rfl, _⟩ := h8'.shape
    exact ⟨ad', cap', w', hr, h8, h9, h10⟩
theorem run_oneM (T : ByteArray) (p : Bool) (hs : List Int) (h : hs.length = 32) (w : World) : (Instr.buildSlice 90 1 #[(0, .agg (Value.string T :: .bool p :: b8 hs).toArray)]).run Try.prog w = .ok (.slice (some ⟨w.heap.size, 0, none⟩) 1 1) (w.alloc (.cells (Value.string T :: .bool p :: b8 hs).toArray 70)) := by
  obtain ⟨x0, x1, x2, x3, x4, x5, x6, x7, x8, x9, x10, x11, x12, x13, x14, x15, x16, x17, x18, x19, x20, x21, x22, x23, x24, x25, x26, x27, x28, x29, x30, x31, rfl⟩ := x32 h
  kernel_rfl
/-- One more entry behind those that there are. -/
theorem next_E {w wr W1 : World} {ad : Option Addr} {k cap : Nat} {xs : List Ent} {e : Ent} (hM : Mine w wr (.slice ad k cap) xs) (hxk : xs.length = k) (hW : Kp No wr W1) (heo : EOk e) (hk : k ≤ 1000000) (ty : TypeId) :
    ∃ ad2 cap2 w2, (Builtin.append_ #[90, 90] ty #[.slice ad k cap, .slice (some ⟨W1.heap.size, 0, none⟩) 1 1]).run Try.prog (W1.alloc (.cells (entC e).toArray 70)) = .ok (.slice ad2 (k + 1) cap2) w2 ∧
      Kp (fun x => (Value.slice ad k cap).ownBlock = some x) wr w2 ∧ Mine w w2 (.slice ad2 (k + 1) cap2) (xs ++ [e]) := by
  have hRA : Sim.Row (W1.alloc (.cells (entC e).toArray 70)) 70 34 (.slice ad k cap) k (ents xs) := by
    have := hM.1
    rw [hxk] at this
    exact this.kept (hW.alloc _)
  have hSC : Sim.Src (W1.alloc (.cells (entC e).toArray 70)) (.slice (some ⟨W1.heap.size, 0, none⟩) 1 1) 1 34 (entC e) := Sim.Src.one W1 (entC e) 34 70 (entC_length heo) (entC_one _)
  obtain ⟨ad2, cap2, w2, hap, hrow2, hgr2, hown2⟩ := app_runN _ ty (.slice ad k cap) (.slice (some ⟨W1.heap.size, 0, none⟩) 1 1) k 1 _ _ hRA hSC (by omega) (by omega)
  have HKA : Kp (fun x => (Value.slice ad k cap).ownBlock = some x) wr (W1.alloc (.cells (entC e).toArray 70)) := (hW.ofNo).alloc _
  have HK2 : Kp (fun x => (Value.slice ad k cap).ownBlock = some x) wr w2 := HKA.grown hgr2 (fun x hx => .inl hx)
  refine ⟨ad2, cap2, w2, hap, HK2, ?_, fun x hx => ?_, hM.2.2.trans HK2 (fun x hx => .inr (hM.2.1 x hx))⟩
  · rw [List.length_append, hxk, ents_append]
    have : ents [e] = entC e := by simp [ents]
    rw [this]
    exact hrow2
  · rcases hown2 with e1 | e1
    · exact hM.2.1 x (by rw [← e1]; exact hx)
    · rw [e1] at hx
      cases hx
      exact Nat.le_trans hM.2.2.size HKA.size
theorem wpList_valE {P : Program} {ops : Array Oper} {rest : List Oper} {o : Oper} {a : Act} {Q : Exit → Act → World → Prop} {w w' : World} {v : Value} (hg : o.guard = none) (hr : (execOp a.eval o).run P w = .ok (.value v) w') (h : wpList P ops Q rest (a.put o.dst v) w') : wpList P ops Q (o :: rest) a w :=
  wpList_plain hg fun _ hK => by unfold Oper.wp; rw [hr]; exact hK _ _ h
theorem run_oneX {e : Ent} (h : EOk e) (w : World) : (Instr.buildSlice 90 1 #[(0, .agg (entC e).toArray)]).run Try.prog w = .ok (.slice (some ⟨w.heap.size, 0, none⟩) 1 1) (w.alloc (.cells (entC e).toArray 70)) := by
  obtain ⟨nm, p, hs⟩ := e
  exact run_oneM (txt nm) p hs h.2.1 w
/-- The entry that a value tells. -/
def entOf (x : Tr 8) : Ent := match x.kd with
  | [a, b, c] => entryOf a b c
  | _ => zEn
theorem entOf_3 {x : Tr 8} {a b c : Tr 7} (h : x.kd = [a, b, c]) : entOf x = entryOf a b c := by rw [entOf, h]
/-- The value of a directory. -/
def GoodD (t : Tr 9) : Prop := (∀ x ∈ t.kd, x.kd.length = 3) ∧ RightP (t.kd.map entOf) ∧ Tlv.sameT 9 t 3 (entsT (t.kd.map entOf)) = true
/-- The directory that a Body is. -/
def IsDir (bs : List Int) (d : List Ent) : Prop := ∃ t, bodyT bs = some t ∧ GoodD t ∧ d = t.kd.map entOf
/-- What GetDir answers. -/
def GDA (u w : World) (K0 : Int) (bs : List Int) (e : Ending) : Prop :=
  (K0 ≠ 3 ∧ e = .returned (.tuple #[.slice none 0 0, .int .i64 1])) ∨ (K0 = 3 ∧ (∀ d, ¬ IsDir bs d) ∧ e = .returned (.tuple #[.slice none 0 0, .int .i64 3])) ∨
  (∃ d a l c, K0 = 3 ∧ IsDir bs d ∧ e = .returned (.tuple #[.slice a l c, .int .i64 0]) ∧ EV (fun g => u.heap.size ≤ g) w (.slice a l c) d)
theorem Rt_bytes {n : Nat} {t : Tr (n + 1)} {room : Int} (h : Tlv.Rt (n + 1) t room) : (t.hd.2.2.length : Int) ≤ room := by
  have hf := h.facts
  by_cases h2 : t.hd.1 = 2
  · have h1 : Tlv.bodyOf (n + 1) t = t.hd.2.2 := by
      simp only [Tlv.bodyOf]
      rw [if_neg (by omega), if_pos h2]
    rw [h1] at hf
    exact hf.2.1
  · have h0 : t.hd.2.2.length = 0 := by
      obtain ⟨deep, h⟩ := h
      simp only [Tlv.bsz] at h
      split at h
      · simp at h
      · rename_i h1
        have h3 : Tlv.oeB t.hd.1 t.hd.2.1 t.hd.2.2.length t.kd.length = true := by
          cases hb : Tlv.oeB t.hd.1 t.hd.2.1 t.hd.2.2.length t.kd.length with
          | true => rfl
          | false => exact absurd (.inr hb) h1
        unfold Tlv.oeB at h3
        simp only [Bool.and_eq_true, Bool.or_eq_true, beq_iff_eq] at h3
        rcases h3.1.2 with h3 | h3
        · exact absurd h3 h2
        · omega
    omega
theorem bodyT_names {bs : List Int} {t : Tr 9} (hb : ∀ x ∈ bs, 0 ≤ x ∧ x ≤ 255) (h : bodyT bs = some t) : ∀ x ∈ t.kd, (entOf x).1.length ≤ 65535 := by
  unfold bodyT at h
  split at h
  · have h1 := (Tlv.get_form hb h).1
    have h2 := Rt_count (⟨8, Tlv.szT_right h1⟩ : Tlv.Rt 9 t 65535)
    intro x hx
    obtain ⟨r, h3, h4⟩ := h2.2 x hx
    unfold entOf
    split
    · rename_i a b c hk
      obtain ⟨r', h5, h6⟩ := (Rt_count h4).2 a (by rw [hk]; simp)
      have := Rt_bytes h6
      show a.hd.2.2.length ≤ 65535
      omega
    · simp [zEn]
  · cases h
theorem kd3 {x : Tr 8} (h : x.kd.length = 3) : ∃ a b c, x.kd = [a, b, c] := by
  match hk : x.kd, h with
  | [a, b, c], _ => exact ⟨a, b, c, rfl⟩
theorem run_makeE (n : Nat) (hn : n ≤ 1000000) (W : World) : (Instr.makeSlice 90 (.int .i64 0) (.int .i64 (n : Int))).run Try.prog W = .ok (.slice (some ⟨W.heap.size, 0, none⟩) 0 n) (W.alloc (.cells (madeCells zE.toArray (n * 34)) 70)) := by
  obtain ⟨i0, hi, hz0, hz1, hz2⟩ := info_parts infoE
  have h := run_make (P := Try.prog) W 90 70 i0 _ Try.underlying90 hi hz0 .i64 .i64 0 (n : Int) (by omega) (by omega) (by rw [hz2]; omega) (by omega)
  rw [h, hz1]
  rfl
theorem exec_makeE {P : Program} {o : Oper} {a : Act} {w w' : World} (t : TypeId) (x y : Operand) (ho : o.op = .makeSlice t x y) (v1 v2 u : Value) (hx : a.eval x = v1) (hy : a.eval y = v2) (hr : (Instr.makeSlice t v1 v2).run P w = .ok u w') : (execOp a.eval o).run P w = .ok (.value u) w' := by
  unfold execOp
  simp [ho, hx, hy, hr, Result.andThen]

set_option maxHeartbeats 8000000 in
set_option maxRecDepth 100000 in
theorem getDir_any (w : World) (K0 : Int) (v : Value) (bs : List Int) (hv : Tlv.BySl 0 w.heap.size w v bs) :
    Calls Try.prog 21 #[.agg #[.int .i64 K0, v]] w fun e w' => GDA w w' K0 bs e ∧ Below w.heap.size w w' := by
  obtain ⟨a, c, rfl, hxx⟩ := id hv
  clear hxx
  obtain ⟨n, hn⟩ : ∃ n, bs.length = n := ⟨_, rfl⟩
  rw [hn] at hv ⊢
  have HBS := hid (Tlv.BySl.bytes hv)
  obtain ⟨W0, hW0⟩ : ∃ W, w.alloc (.cells #[.int .i64 K0, .slice a n c] 31) = W := ⟨_, rfl⟩
  have HB0 : Hid (Below w.heap.size w W0) := by rw [Hid, ← hW0]; exact (Below.refl _ _).alloc (Nat.le_refl _) _
  have hbox : W0.cell? ⟨w.heap.size, 0, none⟩ = some (.int .i64 K0) ∧ W0.cell? ⟨w.heap.size, 1, none⟩ = some (.slice a n c) := by rw [← hW0]; simp [go_sem]
  have HBD := hid (body_any W0 K0 3 (.slice a n c) bs (hv.agree (Agree.below HB0.out) (Nat.le_refl _) HB0.out.size))
  clear hv hn
  go_enter Try.func21, Try.ntmps21
  obtain ⟨hx0, hx1⟩ := hbox
  go_wp2_with fail
  refine HBD.out.mono ?_
  rintro e w2 ⟨hres, hb2⟩
  have HB2 := hid hb2
  have HBW : Hid (Below w.heap.size w w2) := HB0.out.trans (hb2.mono HB0.out.size)
  clear hx0 hx1 hW0 HBD hb2
  rcases hres with ⟨hk, rfl⟩ | ⟨hk, hno, rfl⟩ | ⟨t, a3, l3, p3, a4, l4, p4, hk, ht, rfl, hrep⟩
  · unfold zVal
    have HA : Hid (∀ w', GDA w w' K0 bs (.returned (.tuple #[.slice none 0 0, .int .i64 1]))) := fun w' => .inl ⟨hk, rfl⟩
    go_wp2_with fail
    go_ret2
    exact ⟨HA.out _, HBW.out.alloc HBW.out.size _⟩
  · unfold zVal
    subst hk
    have HA : Hid (∀ w', GDA w w' 3 bs (.returned (.tuple #[.slice none 0 0, .int .i64 3]))) := fun w' => .inr (.inl ⟨rfl, (fun d h => by obtain ⟨t, h1, _⟩ := h; rw [hno] at h1; cases h1), rfl⟩)
    go_wp2_with fail
    go_ret2
    exact ⟨HA.out _, HBW.out.alloc HBW.out.size _⟩
  · subst hk
    have HT := hid ht
    have HREP := hid hrep
    obtain ⟨tg, htg⟩ : ∃ x, t.hd.1 = x := ⟨_, rfl⟩
    obtain ⟨nm, hnm⟩ : ∃ x, t.hd.2.1 = x := ⟨_, rfl⟩
    obtain ⟨hxa, hxb, hxc, hks⟩ := hrep
    clear hxa hxb hxc
    have h4 : l4 = t.kd.length := by
      obtain ⟨_, _, e, _⟩ := hks
      simp only [Value.slice.injEq] at e
      exact e.2.1
    have HN := hid h4.symm
    have HTG := hid htg
    have HNM := hid hnm
    rw [htg, hnm]
    have hcnt : l4 ≤ 65535 := by rw [h4]; exact (bodyT_count HBS.out ht).1
    have HNL : Hid (∀ x ∈ t.kd, (entOf x).1.length ≤ 65535) := bodyT_names HBS.out ht
    obtain ⟨D, hD⟩ : ∃ D, t.kd.map entOf = D := ⟨_, rfl⟩
    have HD := hid hD
    clear htg hnm hks h4 hD
    obtain ⟨W2, hW2⟩ : ∃ W, w2.alloc (.cells #[.int .i64 tg, .int .u64 nm, .slice a3 l3 p3, .slice a4 l4 p4] 95) = W := ⟨_, rfl⟩
    have HBW2 : Hid (Below w.heap.size w W2) := by rw [Hid, ← hW2]; exact HBW.out.alloc HBW.out.size _
    have HZ2 : Hid (W2.heap.size = w2.heap.size + 1) := by rw [Hid, ← hW2]; simp
    have HR2 : Hid (Tlv.Rep 0 W2.heap.size W2 9 t (.slice a3 l3 p3) (.slice a4 l4 p4)) := HREP.out.agree (by rw [← hW2]; exact (Agree.refl _ _ _).alloc (Nat.le_refl _) _) (Nat.zero_le _) (by rw [HZ2.out]; omega)
    have HBX : Hid (∀ V, Kp No W2 V → V.cell? ⟨w2.heap.size, 0, none⟩ = some (.int .i64 tg) ∧ V.cell? ⟨w2.heap.size, 1, none⟩ = some (.int .u64 nm) ∧ V.cell? ⟨w2.heap.size, 2, none⟩ = some (.slice a3 l3 p3) ∧ V.cell? ⟨w2.heap.size, 3, none⟩ = some (.slice a4 l4 p4)) := fun V hV => by
      have hz := HZ2.out
      have e : ∀ o, V.cell? ⟨w2.heap.size, o, none⟩ = W2.cell? ⟨w2.heap.size, o, none⟩ := fun o => hV.cell (p := ⟨w2.heap.size, o, none⟩) (by show w2.heap.size < _; omega) (fun x => x)
      rw [e, e, e, e, ← hW2]
      exact ⟨by simp, by simp, by simp, by simp⟩
    have hMS : (madeCells zE.toArray (l4 * 34)).size = l4 * 34 := size_madeCells _ _
    have HMS := hid hMS
    have HMK := hid (fun W => run_makeE l4 (by omega) W)
    generalize madeCells zE.toArray (l4 * 34) = M at *
    have HM0 : Hid (Mine W2 (W2.alloc (.cells M 70)) (.slice (some ⟨W2.heap.size, 0, none⟩) 0 l4) []) :=
      ⟨World.ownsRow_made W2 _ l4 (Nat.zero_le _) (by unfold maxLen; omega) HMS.out, fun x hx => by simp [Value.ownBlock] at hx; omega, (Kp.refl No W2).alloc _⟩
    have hd3 : (W2.alloc (.cells M 70)).cell? ⟨w2.heap.size, 3, none⟩ = some (.slice a4 l4 p4) := (HBX.out _ ((Kp.refl No W2).alloc _)).2.2.2
    have he3 : W2.cell? ⟨w2.heap.size, 3, none⟩ = some (.slice a4 l4 p4) := (HBX.out _ (Kp.refl No W2)).2.2.2
    have hzl : w2.heap.size < W2.heap.size := by rw [HZ2.out]; omega
    clear hMS
    go_wp2_with (refine wpList_valE (by rfl) (exec_makeE 90 _ _ rfl (.int .i64 0) (.int .i64 (l4 : Int)) _ rfl rfl (HMK.out _)) ?_)
    clear he3 hd3 hW2
    go_loopw [6, 24] (fun v6 v24 wr => ∃ (k : Nat) (ad : Option Addr) (cap : Nat), v6 = .slice ad k cap ∧ v24 = .int .i64 (k : Int) ∧ k ≤ l4 ∧ Hid (Mine W2 wr (.slice ad k cap) (D.take k)) ∧ Hid (∀ x ∈ t.kd.take k, x.kd.length = 3 ∧ EOk (entOf x))) (fun _ v24 _ => l4 - (intOf v24).toNat)
    case atStart => exact ⟨0, _, _, rfl, rfl, Nat.zero_le _, HM0.out, by intro x hx; simp at hx⟩
    case round =>
      obtain ⟨k, ad, cap, rfl, rfl, hkn, HS, H4⟩ := hrel
      by_cases hlt : k < l4
      · have hltI : (k : Int) < (l4 : Int) := by omega
        have hwk : IntKind.i64.wrap ((k : Int) + 1) = ((k + 1 : Nat) : Int) := by rw [IntKind.wrap_i64]; omega
        have HKw : Hid (Kp No W2 wr) := HS.out.2.2
        obtain ⟨g, o, x, sb, sk, rfl, hg, hx, c0, c1, c2, c3, hrx⟩ := kid_at HR2.out.2.2.2 (k := k) (by rw [HN.out]; exact hlt)
        obtain ⟨a1, m1, p1, a2, l2, p2, rfl, rfl⟩ := hrx.sl
        rw [← HKw.out.cell (p := ⟨g, _, none⟩) hg (fun x => x)] at c0 c1 c2 c3
        have hgw : g < wr.heap.size := Nat.lt_of_lt_of_le hg HKw.out.size
        obtain ⟨m, hm⟩ : ∃ m, x.kd.length = m := ⟨_, rfl⟩
        have HMM := hid hm
        have hl2 : l2 = m := by
          obtain ⟨a, c, e, _⟩ := hrx.2.2.2
          simp only [Value.slice.injEq] at e
          omega
        subst hl2
        have HRX := hid hrx
        have HX := hid hx
        have hDk : D[k]? = some (entOf x) := by rw [← HD.out, List.getElem?_map, hx]; rfl
        have HNX : Hid (D.take (k + 1) = D.take k ++ [entOf x]) := by rw [Hid, List.take_add_one, hDk]; rfl
        have hDl : (D.take k).length = k := by rw [List.length_take, ← HD.out, List.length_map, HN.out]; omega
        have HDL := hid hDl
        clear hm hx hrx hDk hDl hg
        generalize htg : x.hd.1 = tg1 at *
        generalize hnu : x.hd.2.1 = nu1 at *
        clear htg hnu
        by_cases h3 : l2 = 3
        · subst h3
          obtain ⟨ka, kb, kc, hkd⟩ := kd3 HMM.out
          have HEO := hid (entOf_3 hkd)
          have HKD := hid hkd
          clear hkd
          have hz1 : (wr.alloc (.cells #[.int .i64 tg1, .int .u64 nu1, .slice a1 m1 p1, .slice a2 3 p2] 95)).heap.size = wr.heap.size + 1 := by simp
          have HKA : Hid (Kp No wr (wr.alloc (.cells #[.int .i64 tg1, .int .u64 nu1, .slice a1 m1 p1, .slice a2 3 p2] 95))) := (Kp.refl No wr).alloc _
          have HKS : Hid (Tlv.KSl 0 (wr.alloc (.cells #[.int .i64 tg1, .int .u64 nu1, .slice a1 m1 p1, .slice a2 3 p2] 95)).heap.size (wr.alloc (.cells #[.int .i64 tg1, .int .u64 nu1, .slice a1 m1 p1, .slice a2 3 p2] 95)) (Tlv.Rep 0 (wr.alloc (.cells #[.int .i64 tg1, .int .u64 nu1, .slice a1 m1 p1, .slice a2 3 p2] 95)).heap.size (wr.alloc (.cells #[.int .i64 tg1, .int .u64 nu1, .slice a1 m1 p1, .slice a2 3 p2] 95)) 7) (.slice a2 3 p2) [ka, kb, kc]) := by
            have hk := HKw.out.andNone HKA.out
            have := (HRX.out.agree (L' := 0) (B' := (wr.alloc (.cells #[.int .i64 tg1, .int .u64 nu1, .slice a1 m1 p1, .slice a2 3 p2] 95)).heap.size) (Agree.below hk.toBelow') (Nat.le_refl _) hk.size).2.2.2
            rwa [HKD.out] at this
          have HEN := hid (entry_any _ _ ka kb kc HKS.out)
          clear hz1 HKS
          go_wp2_with fail
          refine HEN.out.mono ?_
          rintro e w3 ⟨rfl, heo, hb3⟩
          rw [← HEO.out]
          rw [← HEO.out] at heo
          have HK3 : Hid (Kp No wr w3) := HKA.out.andNone (Kp.below hb3)
          have HEK := hid heo
          obtain ⟨ad2, cap2, w4, hap, hk4, hm4⟩ := next_E HS.out HDL.out HK3.out heo (by omega) 90
          have HB2 := hid (run_oneX heo)
          have HM4 : Hid (Mine W2 w4 (.slice ad2 (k + 1) cap2) (D.take (k + 1))) := by rw [HNX.out]; exact hm4
          have H5 : Hid (∀ y ∈ t.kd.take (k + 1), y.kd.length = 3 ∧ EOk (entOf y)) := by
            intro y hy
            rw [List.take_add_one, HX.out] at hy
            rcases List.mem_append.1 hy with hy | hy
            · exact H4.out y hy
            · simp at hy
              subst hy
              exact ⟨by rw [HKD.out]; rfl, heo⟩
          obtain ⟨C, hC⟩ : ∃ C, entC (entOf x) = C := ⟨_, rfl⟩
          rw [hC] at hap HB2 ⊢
          have HAP := hid hap
          clear hC heo hb3 hk4 hm4 hap c0 c1 c2 c3 HEN
          go_wp2_with (first
            | (refine wpList_valE (by rfl) (exec_sliceE 90 _ rfl (.agg C.toArray) _ rfl (HB2.out _)) ?_)
            | (refine wpList_valE (by rfl) (exec_appE _ _ 90 rfl (.slice ad k cap) (.slice (some ⟨w3.heap.size, 0, none⟩) 1 1) _ rfl rfl HAP.out) ?_))
          go_round
          case rel => exact ⟨k + 1, ad2, cap2, rfl, by first | rfl | go_num, by omega, HM4.out, H5.out⟩
          case measure => simp [intOf]; omega
        · have hne : ((l2 : Int) != 3) = true := by simp; omega
          have HNG : Hid (∀ d, ¬ IsDir bs d) := fun d hg => by
            obtain ⟨t', h1, h2, _⟩ := hg
            rw [HT.out] at h1
            cases h1
            exact h3 (by rw [← HMM.out]; exact h2.1 x (List.mem_of_getElem? HX.out))
          have HA : Hid (∀ w', GDA w w' 3 bs (.returned (.tuple #[.slice none 0 0, .int .i64 3]))) := fun w' => .inr (.inl ⟨rfl, HNG.out, rfl⟩)
          have HKW : Hid (Below w.heap.size w wr) := HBW2.out.trans (HKw.out.toBelow'.mono HBW2.out.size)
          clear h3 hkn hlt
          go_wp2_with fail
          go_ret2
          exact ⟨HA.out _, HKW.out.alloc HKW.out.size _⟩
      · have hltI : ¬ (k : Int) < (l4 : Int) := by omega
        have hkn' : k = l4 := by omega
        have hDl : D.length = l4 := by rw [← HD.out, List.length_map, HN.out]
        have HDT : Hid (Mine W2 wr (.slice ad k cap) D) := by
          have := HS.out
          rw [List.take_of_length_le (by omega)] at this
          exact this
        have HAL : Hid ((∀ x ∈ t.kd, x.kd.length = 3) ∧ ∀ x ∈ D, EOk x) := by
          have h := H4.out
          rw [List.take_of_length_le (by rw [HN.out]; omega)] at h
          refine ⟨fun x hx => (h x hx).1, fun x hx => ?_⟩
          rw [← HD.out] at hx
          obtain ⟨y, hy, rfl⟩ := List.mem_map.1 hx
          exact (h y hy).2
        have HSZ : Hid (∀ e ∈ D, e.1.length ≤ 1000000) := fun e he => by
          rw [← HD.out] at he
          obtain ⟨y, hy, rfl⟩ := List.mem_map.1 he
          have := HNL.out y hy
          omega
        have HKW : Hid (Kp No W2 wr) := HDT.out.2.2
        have HEV : Hid (EV (fun g => W2.heap.size ≤ g) wr (.slice ad k cap) D) := ev_of_rowT HDT.out.1 HAL.out.2 HDT.out.2.1
        have HBR : Hid (∀ V, Kp No wr V → Below w.heap.size w V) := fun V hV => HBW2.out.trans ((HKW.out.andNone hV).toBelow'.mono HBW2.out.size)
        have HDN : Hid (¬ (RightP D ∧ Tlv.sameT 9 t 3 (entsT D) = true) → ∀ d, ¬ IsDir bs d) := fun h d hg => by
          obtain ⟨t', h1, h2, _⟩ := hg
          rw [HT.out] at h1
          cases h1
          rw [GoodD, HD.out] at h2
          exact h ⟨h2.2.1, h2.2.2⟩
        have HDY : Hid (RightP D → Tlv.sameT 9 t 3 (entsT D) = true → IsDir bs D) := fun h1 h2 => ⟨t, HT.out, ⟨HAL.out.1, by rw [HD.out]; exact ⟨h1, h2⟩⟩, HD.out.symm⟩
        have HRT := hid (fun (V : World) (hV : Kp No wr V) => right_any V _ D _ (HEV.out.kept hV) (by omega) HSZ.out)
        have HVAL := hid (fun (V : World) (hV : Kp No wr V) => value_any V _ D _ (HEV.out.kept hV) HSZ.out (by omega))
        have HSM := hid (fun (V : World) (sb sk : Value) (h : Tlv.Rep 0 V.heap.size V 9 t (.slice a3 l3 p3) (.slice a4 l4 p4)) (h' : Tlv.Rep 0 V.heap.size V 3 (entsT D) sb sk) => Tlv.Same_any t (entsT D) _ _ sb sk V h h' (by omega))
        rw [HTG.out, HNM.out, show (entsT D).hd.1 = 3 from rfl, show (entsT D).hd.2.1 = 0 from rfl] at HSM
        have HRV : Hid (∀ V, Kp No wr V → Tlv.Rep 0 V.heap.size V 9 t (.slice a3 l3 p3) (.slice a4 l4 p4)) := fun V hV =>
          HR2.out.agree (Agree.below (HKW.out.andNone hV).toBelow') (Nat.le_refl _) (Nat.le_trans HKW.out.size hV.size)
        have HBV : Hid (∀ V, Kp No wr V → V.cell? ⟨w2.heap.size, 0, none⟩ = some (.int .i64 tg) ∧ V.cell? ⟨w2.heap.size, 1, none⟩ = some (.int .u64 nm) ∧ V.cell? ⟨w2.heap.size, 2, none⟩ = some (.slice a3 l3 p3) ∧ V.cell? ⟨w2.heap.size, 3, none⟩ = some (.slice a4 l4 p4)) := fun V hV => HBX.out V (HKW.out.andNone hV)
        obtain ⟨r, hr⟩ : ∃ r, Tlv.sameT 9 t 3 (entsT D) = r := ⟨_, rfl⟩
        have HR := hid hr
        rw [hr] at HSM HDN HDY
        clear hr hkn' HS H4 hlt hDl
        go_wp2_with fail
        refine wp_region_held_drew (S := fun V => Kp No wr V) (by kernel_rfl) ((Kp.refl _ _).drew) (fun hHeld => ?_)
        refine wpAnyH_take (i := 0) (oi := { dst := some 39, op := Op.move (Operand.tmp 6), type := 90, pos := "dir.go:48", after := #[], guard := none }) (v := .slice ad k cap) rfl (by kernel_rfl) (by kernel_rfl) (by kernel_rfl) (fun _ _ _ h => h) (Or.inl ⟨by rfl, fun w' hw' => by (clear hw'; go_simp)⟩) hHeld ?_
        simp only [Act.put, List.setIfInBounds_toArray, List.set_cons_zero, List.set_cons_succ]
        refine wpAnyH_ready (rs := [1]) (by kernel_rfl) (by simp) ?_
        refine (AllReadyH.cons (o := { dst := some 40, op := Op.call { callee := Callee.value (Operand.func 44), args := #[Operand.tmp 39], argTypes := #[90] }, type := 4, pos := "dir.go:48", after := #[{ on := 0, ground := Ground.data }], guard := none }) rfl (fun K hK => ?_) AllReadyH.nil)
        go_simp
        refine (HRT.out _ ((Kp.refl No wr).drew)).mono ?_
        rintro e' w4 ⟨⟨rb, rfl, hrb⟩, hb4⟩
        have HK4 : Hid (Kp No wr w4) := ((Kp.refl No wr).drew).andNone hb4
        have HRB := hid hrb
        clear hb4 hrb
        cases rb with
        | false =>
          have HA : Hid (∀ w', GDA w w' 3 bs (.returned (.tuple #[.slice none 0 0, .int .i64 3]))) := fun w' => .inr (.inl ⟨rfl, HDN.out (fun h => by have := HRB.out.2 h.1; cases this), rfl⟩)
          go_wp2_with fail
          refine hK.out _ _ (HK4.out) (fun hh => ?_)
          clear hK K hHeld
          have hHeld := hh
          clear hh
          try simp only [Act.put, List.setIfInBounds_toArray, List.set_cons_zero, List.set_cons_succ]
          refine wpAnyH_take (i := 2) (oi := { dst := some 41, op := Op.unOp UnOp.not 4 (Operand.tmp 40), type := 4, pos := "dir.go:48", after := #[{ on := 1, ground := Ground.data }], guard := none }) (v := .bool true) rfl (by kernel_rfl) (by kernel_rfl) (by kernel_rfl) (fun _ _ _ h => h) (Or.inl ⟨by rfl, fun w' hw' => by (clear hw'; go_simp)⟩) hHeld ?_
          simp only [Act.put, List.setIfInBounds_toArray, List.set_cons_zero, List.set_cons_succ]
          refine wpAnyH_take (i := 3) (oi := { dst := some 42, op := Op.move (Operand.tmp 41), type := 4, pos := "dir.go:48", after := #[{ on := 2, ground := Ground.data }, { on := 1, ground := Ground.chain }], guard := none }) (v := .bool true) rfl (by kernel_rfl) (by kernel_rfl) (by kernel_rfl) (fun _ _ _ h => h) (Or.inl ⟨by rfl, fun w' hw' => by (clear hw'; go_simp)⟩) hHeld ?_
          simp only [Act.put, List.setIfInBounds_toArray, List.set_cons_zero, List.set_cons_succ]
          refine wpAnyH_take (i := 4) (oi := { dst := some 43, op := Op.load 95 (Operand.tmp 4), type := 95, pos := "dir.go:48", after := #[{ on := 3, ground := Ground.guard }], guard := some (3, false) }) (v := undef) rfl (by kernel_rfl) (by kernel_rfl) (by kernel_rfl) (fun _ _ _ h => h) (Or.inr ⟨by rfl, rfl⟩) hHeld ?_
          simp only [Act.put, List.setIfInBounds_toArray, List.set_cons_zero, List.set_cons_succ]
          refine wpAnyH_take (i := 5) (oi := { dst := some 44, op := Op.move (Operand.tmp 6), type := 90, pos := "dir.go:48", after := #[{ on := 3, ground := Ground.guard }], guard := some (3, false) }) (v := undef) rfl (by kernel_rfl) (by kernel_rfl) (by kernel_rfl) (fun _ _ _ h => h) (Or.inr ⟨by rfl, rfl⟩) hHeld ?_
          simp only [Act.put, List.setIfInBounds_toArray, List.set_cons_zero, List.set_cons_succ]
          refine wpAnyH_take (i := 6) (oi := { dst := some 45, op := Op.call { callee := Callee.value (Operand.func 45), args := #[Operand.tmp 44], argTypes := #[90] }, type := 95, pos := "dir.go:48", after := #[{ on := 5, ground := Ground.data }, { on := 3, ground := Ground.chain }, { on := 3, ground := Ground.guard }], guard := some (3, false) }) (v := undef) rfl (by kernel_rfl) (by kernel_rfl) (by kernel_rfl) (fun _ _ _ h => h) (Or.inr ⟨by rfl, rfl⟩) hHeld ?_
          simp only [Act.put, List.setIfInBounds_toArray, List.set_cons_zero, List.set_cons_succ]
          refine wpAnyH_take (i := 7) (oi := { dst := some 46, op := Op.call { callee := Callee.value (Operand.func 50), args := #[Operand.tmp 43, Operand.tmp 45], argTypes := #[95, 95] }, type := 4, pos := "dir.go:48", after := #[{ on := 4, ground := Ground.data }, { on := 6, ground := Ground.data }, { on := 6, ground := Ground.chain }, { on := 3, ground := Ground.guard }], guard := some (3, false) }) (v := undef) rfl (by kernel_rfl) (by kernel_rfl) (by kernel_rfl) (fun _ _ _ h => h) (Or.inr ⟨by rfl, rfl⟩) hHeld ?_
          simp only [Act.put, List.setIfInBounds_toArray, List.set_cons_zero, List.set_cons_succ]
          refine wpAnyH_take (i := 8) (oi := { dst := some 47, op := Op.unOp UnOp.not 4 (Operand.tmp 46), type := 4, pos := "dir.go:48", after := #[{ on := 7, ground := Ground.data }, { on := 3, ground := Ground.guard }], guard := some (3, false) }) (v := undef) rfl (by kernel_rfl) (by kernel_rfl) (by kernel_rfl) (fun _ _ _ h => h) (Or.inr ⟨by rfl, rfl⟩) hHeld ?_
          simp only [Act.put, List.setIfInBounds_toArray, List.set_cons_zero, List.set_cons_succ]
          refine wpAnyH_take (i := 9) (oi := { dst := some 48, op := Op.pick (Operand.tmp 42) (Operand.const (Value.bool true)) (Operand.tmp 47), type := 4, pos := "dir.go:48", after := #[{ on := 3, ground := Ground.data }, { on := 8, ground := Ground.data }], guard := none }) (v := .bool true) rfl (by kernel_rfl) (by kernel_rfl) (by kernel_rfl) (fun _ _ _ h => h) (Or.inl ⟨by rfl, fun w' hw' => by (clear hw'; go_simp)⟩) hHeld ?_
          simp only [Act.put, List.setIfInBounds_toArray, List.set_cons_zero, List.set_cons_succ]
          refine wpAnyH_done (by kernel_rfl) ?_ _
          clear hHeld
          go_wp2_with fail
          go_ret2
          exact ⟨HA.out _, HBR.out _ HK4.out⟩
        | true =>
          go_wp2_with fail
          refine hK.out _ _ (HK4.out) (fun hh => ?_)
          clear hK K hHeld
          have hHeld := hh
          clear hh
          try simp only [Act.put, List.setIfInBounds_toArray, List.set_cons_zero, List.set_cons_succ]
          refine wpAnyH_take (i := 2) (oi := { dst := some 41, op := Op.unOp UnOp.not 4 (Operand.tmp 40), type := 4, pos := "dir.go:48", after := #[{ on := 1, ground := Ground.data }], guard := none }) (v := .bool false) rfl (by kernel_rfl) (by kernel_rfl) (by kernel_rfl) (fun _ _ _ h => h) (Or.inl ⟨by rfl, fun w' hw' => by (clear hw'; go_simp)⟩) hHeld ?_
          simp only [Act.put, List.setIfInBounds_toArray, List.set_cons_zero, List.set_cons_succ]
          refine wpAnyH_take (i := 3) (oi := { dst := some 42, op := Op.move (Operand.tmp 41), type := 4, pos := "dir.go:48", after := #[{ on := 2, ground := Ground.data }, { on := 1, ground := Ground.chain }], guard := none }) (v := .bool false) rfl (by kernel_rfl) (by kernel_rfl) (by kernel_rfl) (fun _ _ _ h => h) (Or.inl ⟨by rfl, fun w' hw' => by (clear hw'; go_simp)⟩) hHeld ?_
          simp only [Act.put, List.setIfInBounds_toArray, List.set_cons_zero, List.set_cons_succ]
          refine wpAnyH_take (i := 4) (oi := { dst := some 43, op := Op.load 95 (Operand.tmp 4), type := 95, pos := "dir.go:48", after := #[{ on := 3, ground := Ground.guard }], guard := some (3, false) }) (v := .agg #[.int .i64 tg, .int .u64 nm, .slice a3 l3 p3, .slice a4 l4 p4]) rfl (by kernel_rfl) (by kernel_rfl) (by kernel_rfl) (fun _ _ _ h => h) (Or.inl ⟨by rfl, fun w' hw' => by (obtain ⟨q0, q1, q2, q3⟩ := HBV.out _ hw'; clear hw'; go_simp)⟩) hHeld ?_
          simp only [Act.put, List.setIfInBounds_toArray, List.set_cons_zero, List.set_cons_succ]
          refine wpAnyH_take (i := 5) (oi := { dst := some 44, op := Op.move (Operand.tmp 6), type := 90, pos := "dir.go:48", after := #[{ on := 3, ground := Ground.guard }], guard := some (3, false) }) (v := .slice ad k cap) rfl (by kernel_rfl) (by kernel_rfl) (by kernel_rfl) (fun _ _ _ h => h) (Or.inl ⟨by rfl, fun w' hw' => by (clear hw'; go_simp)⟩) hHeld ?_
          simp only [Act.put, List.setIfInBounds_toArray, List.set_cons_zero, List.set_cons_succ]
          refine wpAnyH_ready (rs := [6]) (by kernel_rfl) (by simp) ?_
          refine (AllReadyH.cons (o := { dst := some 45, op := Op.call { callee := Callee.value (Operand.func 45), args := #[Operand.tmp 44], argTypes := #[90] }, type := 95, pos := "dir.go:48", after := #[{ on := 5, ground := Ground.data }, { on := 3, ground := Ground.chain }, { on := 3, ground := Ground.guard }], guard := some (3, false) }) rfl (fun K hK => ?_) AllReadyH.nil)
          go_simp
          refine (HVAL.out _ HK4.out).mono ?_
          rintro e' w5 ⟨b3, m3, r3, b4, m4, r4, rfl, hrp, hb5⟩
          have HK5 : Hid (Kp No wr w5) := HK4.out.andNone (Kp.below hb5)
          have HRP : Hid (Tlv.Rep 0 w5.heap.size w5 3 (entsT D) (.slice b3 m3 r3) (.slice b4 m4 r4)) := hrp.agree (Agree.refl _ _ _) (Nat.zero_le _) (Nat.le_refl _)
          clear hb5 hrp
          go_wp2_with fail
          refine hK.out _ _ (HK5.out) (fun hh => ?_)
          clear hK K hHeld
          have hHeld := hh
          clear hh
          try simp only [Act.put, List.setIfInBounds_toArray, List.set_cons_zero, List.set_cons_succ]
          refine wpAnyH_ready (rs := [7]) (by kernel_rfl) (by simp) ?_
          refine (AllReadyH.cons (o := { dst := some 46, op := Op.call { callee := Callee.value (Operand.func 50), args := #[Operand.tmp 43, Operand.tmp 45], argTypes := #[95, 95] }, type := 4, pos := "dir.go:48", after := #[{ on := 4, ground := Ground.data }, { on := 6, ground := Ground.data }, { on := 6, ground := Ground.chain }, { on := 3, ground := Ground.guard }], guard := some (3, false) }) rfl (fun K hK => ?_) AllReadyH.nil)
          go_simp
          refine (HSM.out _ _ _ (HRV.out _ HK5.out) HRP.out).mono ?_
          rintro e' w6 ⟨rfl, hb6⟩
          have HK6 : Hid (Kp No wr w6) := HK5.out.andNone (Kp.below hb6)
          clear hb6
          go_wp2_with fail
          refine hK.out _ _ (HK6.out) (fun hh => ?_)
          clear hK K hHeld
          have hHeld := hh
          clear hh
          try simp only [Act.put, List.setIfInBounds_toArray, List.set_cons_zero, List.set_cons_succ]
          refine wpAnyH_take (i := 8) (oi := { dst := some 47, op := Op.unOp UnOp.not 4 (Operand.tmp 46), type := 4, pos := "dir.go:48", after := #[{ on := 7, ground := Ground.data }, { on := 3, ground := Ground.guard }], guard := some (3, false) }) (v := .bool (!r)) rfl (by kernel_rfl) (by kernel_rfl) (by kernel_rfl) (fun _ _ _ h => h) (Or.inl ⟨by rfl, fun w' hw' => by (clear hw'; go_simp)⟩) hHeld ?_
          simp only [Act.put, List.setIfInBounds_toArray, List.set_cons_zero, List.set_cons_succ]
          refine wpAnyH_take (i := 9) (oi := { dst := some 48, op := Op.pick (Operand.tmp 42) (Operand.const (Value.bool true)) (Operand.tmp 47), type := 4, pos := "dir.go:48", after := #[{ on := 3, ground := Ground.data }, { on := 8, ground := Ground.data }], guard := none }) (v := .bool (!r)) rfl (by kernel_rfl) (by kernel_rfl) (by kernel_rfl) (fun _ _ _ h => h) (Or.inl ⟨by rfl, fun w' hw' => by (clear hw'; go_simp)⟩) hHeld ?_
          simp only [Act.put, List.setIfInBounds_toArray, List.set_cons_zero, List.set_cons_succ]
          refine wpAnyH_done (by kernel_rfl) ?_ _
          clear hHeld
          cases r with
          | false =>
            have HA : Hid (∀ w', GDA w w' 3 bs (.returned (.tuple #[.slice none 0 0, .int .i64 3]))) := fun w' => .inr (.inl ⟨rfl, HDN.out (fun h => by cases h.2), rfl⟩)
            go_wp2_with fail
            go_ret2
            exact ⟨HA.out _, HBR.out _ HK6.out⟩
          | true =>
            have HA : Hid (∀ w', EV (fun g => w.heap.size ≤ g) w' (.slice ad k cap) D → GDA w w' 3 bs (.returned (.tuple #[.slice ad k cap, .int .i64 0]))) := fun w' h => .inr (.inr ⟨D, ad, k, cap, rfl, HDY.out (HRB.out.1 (by trivial)) rfl, rfl, h⟩)
            have HVE : Hid (EV (fun g => w.heap.size ≤ g) w6 (.slice ad k cap) D) := (HEV.out.kept HK6.out).mono (fun g hg => Nat.le_trans HBW2.out.size hg)
            go_wp2_with fail
            go_ret2
            exact ⟨HA.out _ HVE.out, HBR.out _ HK6.out⟩
end Go.Proofs.Ytenfahecnkdhaaa.Nd
end
