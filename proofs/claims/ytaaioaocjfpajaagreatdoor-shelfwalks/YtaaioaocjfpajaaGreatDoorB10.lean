/- Of the proof: the texts PkAdd, PkLoad, SimSettle, SimSync, PkSeal, one behind the other. -/
import Derived.Test.YtaaioaocjfpajaaGreatDoorB8
import Derived.Test.YtaaioaocjfpajaaGreatDoorB9
import Derived.Laws.BitsAll
section
/-
  A record is added to a pack.
-/
namespace Go.Proofs.YtaaioaocjfpajaaGreatDoor
open Go.RowKit Go.Shelf
open Tlv (BySlS)
open Sim (hid Kp No PS Done Blk nm pCreate finds pBytes pAppend)
theorem build35z : Tryz.prog.built 56 [] = some zRec.toArray := by kernel_rfl

theorem byP_of {S : Nat → Prop} {w : World} {v : Value} {xs : List Int} (h : BySlS S w v xs) (hS : ∀ g, S g → g < w.heap.size) : Sim.ByP S w v (nats xs) := by
  obtain ⟨a, cap, rfl, h2, h3, h4, h5, h6, h7⟩ := h
  refine ⟨a, cap, by rw [nats_length], by rw [nats_length]; exact h2, h3, fun e => ⟨by rw [(h4 e).1]; rfl, (h4 e).2⟩, by rw [nats_length]; exact h5, nats_lt _ h6, fun hne => ?_⟩
  obtain ⟨g, o, e, hg, hc⟩ := h7 (fun e => hne (by rw [e]; rfl))
  refine ⟨g, o, e, hg, hS g hg, fun i hi => ?_⟩
  rw [nats_length] at hi
  rw [hc i hi]
  have h := h6 (xs[i]) (List.getElem_mem hi)
  have e1 : xs.getD i 0 = xs[i] := by rw [List.getD_eq_getElem?_getD, List.getElem?_eq_getElem hi]; rfl
  have e2 : (nats xs).getD i 0 = xs[i].toNat := by rw [List.getD_eq_getElem?_getD, nats, List.getElem?_map, List.getElem?_eq_getElem hi]; rfl
  rw [e1, e2, Int.toNat_of_nonneg h.1]

/-- What Add answers, and what it leaves: where, the fault, the files, the writer's size and count. -/
def addF (i sz ct : Nat) (X : List Int) (r : Bool) (p : PS) : Int × Int × PS × Nat × Nat :=
  if r = false then (0, 1, p, sz, ct) else if 12000 < sz + X.length then (0, 2, p, sz, ct)
  else if (pAppend (nm (nameT i)) (nats X) p).1 = 0 then (sz, 0, (pAppend (nm (nameT i)) (nats X) p).2, sz + X.length, ct + 1) else (0, ((pAppend (nm (nameT i)) (nats X) p).1 : Nat), (pAppend (nm (nameT i)) (nats X) p).2, sz, ct)

def Added (P : Nat → Prop) (N : Nat) (w w' : World) (g s b i : Nat) (e : Ending) (r : Int × Int × PS × Nat × Nat) : Prop :=
  e = .returned (.tuple #[.int .i64 r.1, .int .i64 r.2.1]) ∧ WrAt w' g s b i r.2.2.2.1 r.2.2.2.2 false ∧ TabX w' b ∧
    ∃ P', Sim.Sys P' (N + 1) w' s r.2.2.1 ∧ Kp (fun x => P x ∨ x = b ∨ x = g) w w' ∧ (∀ x, P' x → P x ∨ w.heap.size ≤ x)

set_option maxHeartbeats 2000000 in
set_option maxRecDepth 100000 in
theorem addW_any {P : Nat → Prop} {N : Nat} (w : World) (g s b i sz ct : Nat) (p : PS) (k : Int) (nmr bs : List Int) (v : Value) (hi1 : 1 ≤ i) (hi2 : i < 100) (hW : WrAt w g s b i sz ct false) (h : Sim.Sys P N w s p) (hN : N + 1 ≤ 1000) (hT : TabX w b)
    (hb : ¬ P b) (hg : ¬ P g) (hgb : g ≠ b) (hbs : Tlv.BySl 0 w.heap.size w v bs) (hn : nmr.length = 32) (hx : ∀ x ∈ nmr, 0 ≤ x ∧ x ≤ 255) (h200 : (putX k nmr bs).length ≤ 12000) (hsz : sz ≤ 12000) (hct : ct ≤ 20000000) :
    Calls Tryz.prog 81 #[.pointer (some ⟨g, 0, none⟩), .agg (recA k nmr v).toArray] w fun e w' => Added P N w w' g s b i e (addF i sz ct (putX k nmr bs) (rightB k bs.length) p) := by
  obtain ⟨av, cv, rfl, _⟩ := id hbs
  have hcl := recA_length k nmr (.slice av bs.length cv) hn
  have HPUT := hid (fun V hV hb => put_one b k nmr bs (.slice av bs.length cv) V hV hb hn hx)
  obtain ⟨C, hC⟩ : ∃ C, recA k nmr (.slice av bs.length cv) = C := ⟨_, rfl⟩
  rw [hC] at hcl HPUT
  rw [hC]
  clear hC
  have HI : Hid ((Tryz.prog.info? 56).map (·.size) = some C.length) := by rw [Hid, hcl]; exact Tryz.info35
  have hal : Below w.heap.size w (w.alloc (.cells C.toArray 56)) := (Below.refl _ _).alloc (Nat.le_refl _) _
  have HRN := hid (range_new w C 56)
  have HAL := hid hal
  have HSY := hid h
  have HTT := hid (hT.below hal)
  have hWa : WrAt (w.alloc (.cells C.toArray 56)) g s b i sz ct false := hW.kp (Kp.below (L := No) hal) (fun h => h)
  have HWA := hid hWa
  have HBA := hid (hbs.agree (Tlv.Agree.below hal) (Nat.le_refl _) hal.size)
  have hsw : (w.alloc (.cells C.toArray 56)).heap.size = w.heap.size + 1 := by simp
  have HGW : Hid (g < w.heap.size ∧ b < w.heap.size) := ⟨hW.lt, hT.lt⟩
  obtain ⟨X, hX⟩ : ∃ X, putX k nmr bs = X := ⟨_, rfl⟩
  obtain ⟨F, hF⟩ : ∃ F, putF k bs.length = F := ⟨_, rfl⟩
  have hF' : F = if rightB k bs.length then 0 else 1 := by rw [← hF]; rfl
  rw [hX, hF] at HPUT
  rw [hX] at h200
  rw [hX]
  have HX := hid hX
  have HF := hid hF'
  obtain ⟨R, hR⟩ : ∃ R, rightB k bs.length = R := ⟨_, rfl⟩
  rw [hR] at HF ⊢
  have HXF : Hid (R = false → X = []) := fun e => by rw [← hX, putX, hR, e]; rfl
  clear hX hF hF' hR
  go_enter Tryz.func81, Tryz.ntmps81
  generalize hWW : w.alloc (.cells C.toArray 56) = W at *
  clear h hT hW hbs hal hWa
  go_wp2_with (go_at_call 83; refine (wrongW_any _ _ _ _ _ _ _ _ HWA.out).mono ?_; rintro e w1 ⟨rfl, h⟩; subst w1)
  have hgW : g < W.heap.size := by have := HGW.out; omega
  have hbW : b < W.heap.size := by have := HGW.out; omega
  have cw1 : W.cell? ⟨g, 1, none⟩ = some (.pointer (some ⟨b, 0, none⟩)) := HWA.out.cell 1
  refine wp_region_held_drew (S := fun V => Crc.Kept b W V) (by kernel_rfl) (Crc.Kept.below (Below.refl _ _).drew) (fun hHeld => ?_)
  refine wpAnyH_take (i := 0) (oi := { dst := some 17, op := Op.move (Operand.tmp 0), type := 130, pos := "writer.go:42", after := #[], guard := none }) (v := .pointer (some ⟨g, 0, none⟩)) rfl (by kernel_rfl) (by kernel_rfl) (by kernel_rfl) (fun _ _ _ h => h) (Or.inl ⟨by rfl, fun w' hw' => by (clear hw'; go_simp)⟩) hHeld ?_
  simp only [Act.put, List.setIfInBounds_toArray, List.set_cons_zero, List.set_cons_succ]
  refine wpAnyH_take (i := 1) (oi := { dst := some 18, op := Op.nilCheck (Operand.tmp 17), type := 0, pos := "writer.go:42", after := #[{ on := 0, ground := Ground.data }], guard := none }) (v := .pointer (some ⟨g, 0, none⟩)) rfl (by kernel_rfl) (by kernel_rfl) (by kernel_rfl) (fun _ _ _ h => h) (Or.inl ⟨by rfl, fun w' hw' => by (clear hw'; go_simp)⟩) hHeld ?_
  simp only [Act.put, List.setIfInBounds_toArray, List.set_cons_zero, List.set_cons_succ]
  refine wpAnyH_take (i := 2) (oi := { dst := some 19, op := Op.fieldAddr 166 (Operand.tmp 18) 1, type := 0, pos := "writer.go:42", after := #[{ on := 1, ground := Ground.data }], guard := none }) (v := .pointer (some ⟨g, 1, none⟩)) rfl (by kernel_rfl) (by kernel_rfl) (by kernel_rfl) (fun _ _ _ h => h) (Or.inl ⟨by rfl, fun w' hw' => by (clear hw'; go_simp)⟩) hHeld ?_
  simp only [Act.put, List.setIfInBounds_toArray, List.set_cons_zero, List.set_cons_succ]
  refine wpAnyH_take (i := 3) (oi := { dst := some 20, op := Op.load 32 (Operand.tmp 19), type := 32, pos := "writer.go:42", after := #[{ on := 2, ground := Ground.data }], guard := none }) (v := .pointer (some ⟨b, 0, none⟩)) rfl (by kernel_rfl) (by kernel_rfl) (by kernel_rfl) (fun _ _ _ h => h) (Or.inl ⟨by rfl, fun w' hw' => by (have q := (hw'.cell (p := ⟨g, 1, none⟩) hgW hgb).trans cw1; clear hw'; go_simp)⟩) hHeld ?_
  simp only [Act.put, List.setIfInBounds_toArray, List.set_cons_zero, List.set_cons_succ]
  refine wpAnyH_take (i := 4) (oi := { dst := some 21, op := Op.load 56 (Operand.tmp 3), type := 56, pos := "writer.go:42", after := #[], guard := none }) (v := .agg C.toArray) rfl (by kernel_rfl) (by kernel_rfl) (by kernel_rfl) (fun _ _ _ h => h) (yieldsIf_load_mid (by rfl) _ _ rfl w.heap.size 0 rfl C _ (fun V hV => rangeAt_kept HRN.out hV (by omega) (by have := HGW.out; omega)) Tryz.underlying56 rfl HI.out) hHeld ?_
  simp only [Act.put, List.setIfInBounds_toArray, List.set_cons_zero, List.set_cons_succ]
  refine wpAnyH_ready (rs := [5]) (by kernel_rfl) (by simp) ?_
  refine AllReadyH.cons (o := { dst := some 22, op := Op.call { callee := Callee.value (Operand.func 105), args := #[Operand.tmp 20, Operand.tmp 21], argTypes := #[32, 56] }, type := 139, pos := "writer.go:42", after := #[{ on := 3, ground := Ground.data }, { on := 4, ground := Ground.data }], guard := none }) rfl (fun K hK => ?_) AllReadyH.nil
  go_simp
  refine (HPUT.out _ (HTT.out.below (Below.refl _ _).drew) (HBA.out.agree (Tlv.Agree.below (Below.refl _ _).drew) (Nat.le_refl _) (Nat.le_refl _))).mono ?_
  rintro e w3 ⟨ap, cp, rfl, hp3, hk3, ht3⟩
  have HP3 := hid hp3
  have HK3 : Hid (Crc.Kept b W w3) := (Crc.Kept.below (Below.refl _ _).drew).trans hk3
  have HT3 := hid ht3
  clear hp3 hk3 ht3
  go_wp2_with fail
  refine hK.out _ _ (HK3.out) (fun hh => ?_)
  clear hK K hHeld
  have hHeld := hh
  clear hh
  try simp only [Act.put, List.setIfInBounds_toArray, List.set_cons_zero, List.set_cons_succ]
  refine wpAnyH_take (i := 6) (oi := { dst := some 16, op := Op.move (Operand.tmp 22), type := 139, pos := "writer.go:42", after := #[{ on := 5, ground := Ground.data }], guard := none }) (v := .tuple #[.slice ap X.length cp, .int .i64 F]) rfl (by kernel_rfl) (by kernel_rfl) (by kernel_rfl) (fun _ _ _ h => h) (Or.inl ⟨by rfl, fun w' hw' => by (clear hw'; go_simp)⟩) hHeld ?_
  simp only [Act.put, List.setIfInBounds_toArray, List.set_cons_zero, List.set_cons_succ]
  refine wpAnyH_take (i := 7) (oi := { dst := some 23, op := Op.extract (Operand.tmp 16) 0, type := 54, pos := "writer.go:42", after := #[{ on := 6, ground := Ground.data }], guard := none }) (v := .slice ap X.length cp) rfl (by kernel_rfl) (by kernel_rfl) (by kernel_rfl) (fun _ _ _ h => h) (Or.inl ⟨by rfl, fun w' hw' => by (clear hw'; go_simp)⟩) hHeld ?_
  simp only [Act.put, List.setIfInBounds_toArray, List.set_cons_zero, List.set_cons_succ]
  refine wpAnyH_take (i := 8) (oi := { dst := some 24, op := Op.extract (Operand.tmp 16) 1, type := 26, pos := "writer.go:42", after := #[{ on := 6, ground := Ground.data }, { on := 9, ground := Ground.gcOnly Departure.lateStores }], guard := none }) (v := .int .i64 F) rfl (by kernel_rfl) (by kernel_rfl) (by kernel_rfl) (fun _ _ _ h => h) (Or.inl ⟨by rfl, fun w' hw' => by (clear hw'; go_simp)⟩) hHeld ?_
  simp only [Act.put, List.setIfInBounds_toArray, List.set_cons_zero, List.set_cons_succ]
  refine wpAnyH_take (i := 9) (oi := { dst := some 7, op := Op.assign (Operand.tmp 23), type := 54, pos := "writer.go:42", after := #[{ on := 7, ground := Ground.data }, { on := 5, ground := Ground.chain }, { on := 0, ground := Ground.phase }, { on := 1, ground := Ground.phase }, { on := 2, ground := Ground.phase }, { on := 3, ground := Ground.phase }, { on := 4, ground := Ground.phase }, { on := 5, ground := Ground.phase }, { on := 6, ground := Ground.phase }, { on := 7, ground := Ground.phase }, { on := 8, ground := Ground.textOnly Departure.lateStores }], guard := none }) (v := .slice ap X.length cp) rfl (by kernel_rfl) (by kernel_rfl) (by kernel_rfl) (fun _ _ _ h => h) (Or.inl ⟨by rfl, fun w' hw' => by (clear hw'; go_simp)⟩) hHeld ?_
  simp only [Act.put, List.setIfInBounds_toArray, List.set_cons_zero, List.set_cons_succ]
  refine wpAnyH_take (i := 10) (oi := { dst := some 8, op := Op.assign (Operand.tmp 24), type := 26, pos := "writer.go:42", after := #[{ on := 8, ground := Ground.data }, { on := 9, ground := Ground.chain }, { on := 0, ground := Ground.phase }, { on := 1, ground := Ground.phase }, { on := 2, ground := Ground.phase }, { on := 3, ground := Ground.phase }, { on := 4, ground := Ground.phase }, { on := 5, ground := Ground.phase }, { on := 6, ground := Ground.phase }, { on := 7, ground := Ground.phase }, { on := 8, ground := Ground.phase }, { on := 9, ground := Ground.phase }], guard := none }) (v := .int .i64 F) rfl (by kernel_rfl) (by kernel_rfl) (by kernel_rfl) (fun _ _ _ h => h) (Or.inl ⟨by rfl, fun w' hw' => by (clear hw'; go_simp)⟩) hHeld ?_
  simp only [Act.put, List.setIfInBounds_toArray, List.set_cons_zero, List.set_cons_succ]
  refine wpAnyH_done (by kernel_rfl) ?_ _
  have hK3s := HK3.out.size
  have HSY3 : Hid (Sim.Sys P N w3 s p) := sys_kept (HSY.out.kept (Kp.below HAL.out)) HK3.out hb
  have HW3 : Hid (WrAt w3 g s b i sz ct false) := HWA.out.kp (kp_kept HK3.out) hgb
  have HKW3 : Hid (Kp (fun x => P x ∨ x = b ∨ x = g) w w3) := (Kp.below HAL.out).trans (kp_kept HK3.out) (fun x hx => .inl (.inr (.inl hx)))
  clear hHeld
  cases R with
  | false =>
    have hF1 : F = 1 := HF.out
    subst hF1
    go_wp2_with fail
    go_ret2
    refine ⟨rfl, HW3.out, HT3.out, P, HSY3.out.more (by omega) (by omega), HKW3.out, fun x hx => .inl hx⟩
  | true =>
    have hF1 : F = 0 := HF.out
    subst hF1
    have c3 : w3.cell? ⟨g, 3, none⟩ = some (.int .i64 (sz : Int)) := HW3.out.cell 3
    have hw12 : IntKind.i64.wrap ((sz : Int) + (X.length : Int)) = (sz : Int) + (X.length : Int) := by rw [IntKind.wrap_i64]; omega
    by_cases h12 : 12000 < sz + X.length
    · have h12' : (12000 : Int) < (sz : Int) + (X.length : Int) := by omega
      go_wp2_with fail
      go_ret2
      have e : addF i sz ct X true p = (0, 2, p, sz, ct) := by rw [addF, if_neg (by simp), if_pos h12]
      rw [e]
      exact ⟨rfl, HW3.out, HT3.out, P, HSY3.out.more (by omega) (by omega), HKW3.out, fun x hx => .inl hx⟩
    · have h12' : ¬ (12000 : Int) < (sz : Int) + (X.length : Int) := by omega
      have c0 : w3.cell? ⟨g, 0, none⟩ = some (.pointer (some ⟨s, 0, none⟩)) := HW3.out.cell 0
      have c2 : w3.cell? ⟨g, 2, none⟩ = some (.int .i64 (i : Int)) := HW3.out.cell 2
      have hg3 : g < w3.heap.size := by omega
      have HTM := hid (fun V => ptemp_small i hi1 hi2 V)
      have HBP : Hid (Sim.ByP (fun x => W.heap.size ≤ x ∧ x < w3.heap.size) w3 (.slice ap X.length cp) (nats X)) := byP_of HP3.out (fun x hx => hx.2)
      have HAPP := hid (Sim.append_any w3.drew s p (nameT i) (.slice ap X.length cp) (nats X) (name_le _ (by decide) i hi2) (HSY3.out.kept ((Kp.refl _ _).drew)) hN (HBP.out.kept ((Kp.refl _ _).drew)) (fun x hx hp => by have h1 := HSY.out.lt x hp; have h2 := hx.1; omega) (by rw [nats_length]; exact h200))
      obtain ⟨FA, hFA⟩ : ∃ FA, (pAppend (nm (nameT i)) (nats X) p).1 = FA := ⟨_, rfl⟩
      obtain ⟨q, hq⟩ : ∃ q, (pAppend (nm (nameT i)) (nats X) p).2 = q := ⟨_, rfl⟩
      have HAF : Hid (addF i sz ct X true p = if FA = 0 then ((sz : Int), 0, q, sz + X.length, ct + 1) else (0, (FA : Int), q, sz, ct)) := by rw [Hid, addF, if_neg (by simp), if_neg h12, hFA, hq]
      rw [hFA, hq] at HAPP
      clear hFA hq
      go_wp2_with fail
      refine wp_region_held_drew (S := fun V => ∀ o, V.cell? ⟨g, o, none⟩ = w3.cell? ⟨g, o, none⟩) (by kernel_rfl) (fun _ => rfl) (fun hHeld => ?_)
      refine wpAnyH_take (i := 0) (oi := { dst := some 36, op := Op.move (Operand.tmp 0), type := 130, pos := "writer.go:49", after := #[], guard := none }) (v := .pointer (some ⟨g, 0, none⟩)) rfl (by kernel_rfl) (by kernel_rfl) (by kernel_rfl) (fun _ _ _ h => h) (Or.inl ⟨by rfl, fun w' hw' => by (clear hw'; go_simp)⟩) hHeld ?_
      simp only [Act.put, List.setIfInBounds_toArray, List.set_cons_zero, List.set_cons_succ]
      refine wpAnyH_take (i := 1) (oi := { dst := some 37, op := Op.nilCheck (Operand.tmp 36), type := 0, pos := "writer.go:49", after := #[{ on := 0, ground := Ground.data }], guard := none }) (v := .pointer (some ⟨g, 0, none⟩)) rfl (by kernel_rfl) (by kernel_rfl) (by kernel_rfl) (fun _ _ _ h => h) (Or.inl ⟨by rfl, fun w' hw' => by (clear hw'; go_simp)⟩) hHeld ?_
      simp only [Act.put, List.setIfInBounds_toArray, List.set_cons_zero, List.set_cons_succ]
      refine wpAnyH_take (i := 2) (oi := { dst := some 38, op := Op.fieldAddr 166 (Operand.tmp 37) 0, type := 0, pos := "writer.go:49", after := #[{ on := 1, ground := Ground.data }], guard := none }) (v := .pointer (some ⟨g, 0, none⟩)) rfl (by kernel_rfl) (by kernel_rfl) (by kernel_rfl) (fun _ _ _ h => h) (Or.inl ⟨by rfl, fun w' hw' => by (clear hw'; go_simp)⟩) hHeld ?_
      simp only [Act.put, List.setIfInBounds_toArray, List.set_cons_zero, List.set_cons_succ]
      refine wpAnyH_take (i := 3) (oi := { dst := some 39, op := Op.load 25 (Operand.tmp 38), type := 25, pos := "writer.go:49", after := #[{ on := 2, ground := Ground.data }], guard := none }) (v := .pointer (some ⟨s, 0, none⟩)) rfl (by kernel_rfl) (by kernel_rfl) (by kernel_rfl) (fun _ _ _ h => h) (Or.inl ⟨by rfl, fun w' hw' => by (have q := (hw' 0).trans c0; clear hw'; go_simp)⟩) hHeld ?_
      simp only [Act.put, List.setIfInBounds_toArray, List.set_cons_zero, List.set_cons_succ]
      refine wpAnyH_take (i := 4) (oi := { dst := some 40, op := Op.move (Operand.tmp 0), type := 130, pos := "writer.go:49", after := #[], guard := none }) (v := .pointer (some ⟨g, 0, none⟩)) rfl (by kernel_rfl) (by kernel_rfl) (by kernel_rfl) (fun _ _ _ h => h) (Or.inl ⟨by rfl, fun w' hw' => by (clear hw'; go_simp)⟩) hHeld ?_
      simp only [Act.put, List.setIfInBounds_toArray, List.set_cons_zero, List.set_cons_succ]
      refine wpAnyH_take (i := 5) (oi := { dst := some 41, op := Op.nilCheck (Operand.tmp 40), type := 0, pos := "writer.go:49", after := #[{ on := 4, ground := Ground.data }], guard := none }) (v := .pointer (some ⟨g, 0, none⟩)) rfl (by kernel_rfl) (by kernel_rfl) (by kernel_rfl) (fun _ _ _ h => h) (Or.inl ⟨by rfl, fun w' hw' => by (clear hw'; go_simp)⟩) hHeld ?_
      simp only [Act.put, List.setIfInBounds_toArray, List.set_cons_zero, List.set_cons_succ]
      refine wpAnyH_take (i := 6) (oi := { dst := some 42, op := Op.fieldAddr 166 (Operand.tmp 41) 2, type := 0, pos := "writer.go:49", after := #[{ on := 5, ground := Ground.data }], guard := none }) (v := .pointer (some ⟨g, 2, none⟩)) rfl (by kernel_rfl) (by kernel_rfl) (by kernel_rfl) (fun _ _ _ h => h) (Or.inl ⟨by rfl, fun w' hw' => by (clear hw'; go_simp)⟩) hHeld ?_
      simp only [Act.put, List.setIfInBounds_toArray, List.set_cons_zero, List.set_cons_succ]
      refine wpAnyH_take (i := 7) (oi := { dst := some 43, op := Op.load 3 (Operand.tmp 42), type := 3, pos := "writer.go:49", after := #[{ on := 6, ground := Ground.data }], guard := none }) (v := .int .i64 (i : Int)) rfl (by kernel_rfl) (by kernel_rfl) (by kernel_rfl) (fun _ _ _ h => h) (Or.inl ⟨by rfl, fun w' hw' => by (have q := (hw' 2).trans c2; clear hw'; go_simp)⟩) hHeld ?_
      simp only [Act.put, List.setIfInBounds_toArray, List.set_cons_zero, List.set_cons_succ]
      refine wpAnyH_take (i := 9) (oi := { dst := some 45, op := Op.move (Operand.tmp 7), type := 54, pos := "writer.go:49", after := #[], guard := none }) (v := .slice ap X.length cp) rfl (by kernel_rfl) (by kernel_rfl) (by kernel_rfl) (fun _ _ _ h => h) (Or.inl ⟨by rfl, fun w' hw' => by (clear hw'; go_simp)⟩) hHeld ?_
      simp only [Act.put, List.setIfInBounds_toArray, List.set_cons_zero, List.set_cons_succ]
      refine wpAnyH_ready (rs := [8]) (by kernel_rfl) (by simp) ?_
      refine AllReadyH.cons (o := { dst := some 44, op := Op.call { callee := Callee.value (Operand.func 56), args := #[Operand.tmp 43], argTypes := #[3] }, type := 9, pos := "writer.go:49", after := #[{ on := 7, ground := Ground.data }], guard := none }) rfl (fun K hK => ?_) AllReadyH.nil
      go_simp
      refine (HTM.out _).mono ?_
      rintro e u1 ⟨rfl, hu1⟩
      subst u1
      go_wp2_with fail
      refine hK.out _ _ (fun _ => rfl) (fun hh => ?_)
      clear hK K hHeld
      have hHeld := hh
      clear hh
      try simp only [Act.put, List.setIfInBounds_toArray, List.set_cons_zero, List.set_cons_succ]
      refine wpAnyH_ready (rs := [10]) (by kernel_rfl) (by simp) ?_
      refine AllReadyH.cons (o := { dst := some 46, op := Op.call { callee := Callee.value (Operand.func 106), args := #[Operand.tmp 39, Operand.tmp 44, Operand.tmp 45], argTypes := #[25, 9, 54] }, type := 26, pos := "writer.go:49", after := #[{ on := 3, ground := Ground.data }, { on := 8, ground := Ground.data }, { on := 9, ground := Ground.data }, { on := 8, ground := Ground.chain }], guard := none }) rfl (fun K hK => ?_) AllReadyH.nil
      go_simp
      refine HAPP.out.mono ?_
      rintro e w4 ⟨rfl, P', hS4, hK4, hP4⟩
      have HS4 := hid (And.intro hS4 (And.intro hK4 hP4))
      have HC4 : Hid (∀ o, w4.cell? ⟨g, o, none⟩ = w3.cell? ⟨g, o, none⟩) := fun o => hK4.cell (p := ⟨g, o, none⟩) hg3 hg
      clear hS4 hK4 hP4
      go_wp2_with fail
      refine hK.out _ _ (HC4.out) (fun hh => ?_)
      clear hK K hHeld
      have hHeld := hh
      clear hh
      try simp only [Act.put, List.setIfInBounds_toArray, List.set_cons_zero, List.set_cons_succ]
      refine wpAnyH_take (i := 11) (oi := { dst := some 9, op := Op.assign (Operand.tmp 46), type := 26, pos := "writer.go:49", after := #[{ on := 10, ground := Ground.data }, { on := 10, ground := Ground.chain }, { on := 0, ground := Ground.phase }, { on := 1, ground := Ground.phase }, { on := 2, ground := Ground.phase }, { on := 3, ground := Ground.phase }, { on := 4, ground := Ground.phase }, { on := 5, ground := Ground.phase }, { on := 6, ground := Ground.phase }, { on := 7, ground := Ground.phase }, { on := 8, ground := Ground.phase }, { on := 9, ground := Ground.phase }, { on := 10, ground := Ground.phase }], guard := none }) (v := .int .i64 (FA : Int)) rfl (by kernel_rfl) (by kernel_rfl) (by kernel_rfl) (fun _ _ _ h => h) (Or.inl ⟨by rfl, fun w' hw' => by (clear hw'; go_simp)⟩) hHeld ?_
      simp only [Act.put, List.setIfInBounds_toArray, List.set_cons_zero, List.set_cons_succ]
      refine wpAnyH_done (by kernel_rfl) ?_ _
      have hg4 : g < w4.heap.size := by have := HS4.out.2.1.size; have e : w3.drew.heap.size = w3.heap.size := rfl; omega
      have HW4 : Hid (WrAt w4 g s b i sz ct false) := HW3.out.kp (((Kp.refl (fun x => P x) w3).drew).trans HS4.out.2.1 (fun x hx => .inl hx)) hg
      have HT4 : Hid (TabX w4 b) := HT3.out.kp (((Kp.refl (fun x => P x) w3).drew).trans HS4.out.2.1 (fun x hx => .inl hx)) hb
      have HKW4 : Hid (Kp (fun x => P x ∨ x = b ∨ x = g) w w4) := HKW3.out.trans (((Kp.refl (fun x => P x) w3).drew).trans HS4.out.2.1 (fun x hx => .inl hx)) (fun x hx => .inl (.inl hx))
      have HNP : Hid (¬ P' g) := fun hp => by
        rcases HS4.out.2.2 g hp with h | h
        · exact hg h
        · have e : w3.drew.heap.size = w3.heap.size := rfl
          omega
      have HP5 : Hid (∀ x, P' x → P x ∨ w.heap.size ≤ x) := fun x hx => by
        rcases HS4.out.2.2 x hx with h | h
        · exact .inl h
        · have e : w3.drew.heap.size = w3.heap.size := rfl
          right
          omega
      clear hHeld c0 c2 c3
      by_cases hfa : FA = 0
      · subst hfa
        have d3 : w4.cell? ⟨g, 3, none⟩ = some (.int .i64 (sz : Int)) := HW4.out.cell 3
        have d4 : w4.cell? ⟨g, 4, none⟩ = some (.int .i64 (ct : Int)) := HW4.out.cell 4
        have f3 : w4.frozen? ⟨g, 3, none⟩ = false := HW4.out.frozen 3
        have f4 : w4.frozen? ⟨g, 4, none⟩ = false := HW4.out.frozen 4
        have hwc : IntKind.i64.wrap ((ct : Int) + 1) = (ct : Int) + 1 := by rw [IntKind.wrap_i64]; omega
        go_wp2_with fail
        go_ret2
        rw [HAF.out, if_pos trivial]
        have hB := (Blk.setCell HW4.out 3 (.int .i64 ((sz : Int) + (X.length : Int)))).setCell 4 (.int .i64 ((ct : Int) + 1))
        have hK : Kp (fun x => x = g) w4 ((w4.setCell ⟨g, 3, none⟩ (.int .i64 ((sz : Int) + (X.length : Int)))).setCell ⟨g, 4, none⟩ (.int .i64 ((ct : Int) + 1))) :=
          Kp.setCell (p := ⟨g, 4, none⟩) (Kp.setCell (p := ⟨g, 3, none⟩) (Kp.refl (fun x => x = g) w4) (.inl rfl) _) (.inl rfl) _
        refine ⟨rfl, ?_, HT4.out.kp hK (fun e => hgb e.symm), P', HS4.out.1.kp hK (fun x hx => by rw [hx]; exact HNP.out), HKW4.out.trans hK (fun x hx => .inl (.inr (.inr hx))), HP5.out⟩
        have e1 : ((sz + X.length : Nat) : Int) = (sz : Int) + (X.length : Int) := by simp
        have e2 : ((ct + 1 : Nat) : Int) = (ct : Int) + 1 := by simp
        show WrAt _ g s b i ((sz + X.length : Nat) : Int) ((ct + 1 : Nat) : Int) false
        rw [e1, e2]
        exact hB
      · have hfa' : ¬ ((FA : Int) = 0) := by omega
        go_wp2_with fail
        go_ret2
        rw [HAF.out, if_neg hfa]
        exact ⟨rfl, HW4.out, HT4.out, P', HS4.out.1, HKW4.out, HP5.out⟩
end Go.Proofs.YtaaioaocjfpajaaGreatDoor
end

section
/-
  A pack is loaded.
-/
namespace Go.Proofs.YtaaioaocjfpajaaGreatDoor
open Go.RowKit Go.Shelf
open Tlv (BySlS)
open Sim (hid Kp No PS Done Blk nm finds pBytes OwnB)

theorem own_of {w : World} {v : Value} {xs : List Nat} (h : OwnB w v xs) (hx : ∀ x ∈ xs, x < 256) (hl : xs.length ≤ 140737488355328) (B : Nat) (hB : ∀ x, v.ownBlock = some x → B ≤ x) : BySlS (fun g => B ≤ g ∧ g < w.heap.size) w v (ints xs) := by
  have h1 : w.ownsRow B 5 1 v (ints xs).length ((ints xs).map (Value.int .u8)) := by
    have e1 : (ints xs).map (Value.int .u8) = Sim.cl xs := by simp [ints, Sim.cl, Function.comp_def]
    rw [e1, ints_length]
    refine ⟨h.1, ?_⟩
    rcases h.2 with h2 | ⟨g, cap, cur, hv, _, r⟩
    · exact .inl h2
    · exact .inr ⟨g, cap, cur, hv, hB g (by rw [hv]; rfl), r⟩
  exact Tlv.BySl.toS (Tlv.BySl.own h1 (by rw [ints_length]; exact hl) (ints_bd _ hx))

set_option maxHeartbeats 1000000 in
theorem pread_any {P : Nat → Prop} {N : Nat} (w : World) (s b : Nat) (p : PS) (i : Nat) (h1 : 1 ≤ i) (h2 : i < 100) (h : Sim.Sys P N w s p) :
    Calls Tryz.prog 63 #[.pointer (some ⟨s, 0, none⟩), .pointer (some ⟨b, 0, none⟩), .int .i64 (i : Int)] w fun e w' => ∃ ad cap, e = .returned (.tuple #[.slice ad (pBytes (nm (nameP i)) p).length cap, .int .i64 (finds p (nm (nameP i)) : Nat)]) ∧
      OwnB w' (.slice ad (pBytes (nm (nameP i)) p).length cap) (pBytes (nm (nameP i)) p) ∧ (∀ x, (Value.slice ad (pBytes (nm (nameP i)) p).length cap).ownBlock = some x → w.heap.size ≤ x) ∧ Kp No w w' := by
  have HID : Hid (∀ V, Calls Tryz.prog 57 #[.int .i64 (i : Int)] V fun e w' => e = .returned (.bool true) ∧ w' = V) := fun V => by
    have h := isID_any (i : Int) V
    rwa [show idB (i : Int) = true from by simp [idB]; omega] at h
  have HNM := hid (fun V => pname_small i h1 h2 V)
  have HRD := hid (Sim.read_any w s p (nameP i) (name_le _ (by decide) i h2) h)
  obtain ⟨F, hF⟩ : ∃ F, finds p (nm (nameP i)) = F := ⟨_, rfl⟩
  obtain ⟨Y, hY⟩ : ∃ Y, pBytes (nm (nameP i)) p = Y := ⟨_, rfl⟩
  rw [hF, hY] at HRD ⊢
  clear hF hY
  go_enter Tryz.func63, Tryz.ntmps63
  go_wp2_with (first
    | (go_at_call 57; refine (HID.out _).mono ?_; rintro e w1 ⟨rfl, h⟩; subst w1)
    | (go_at_call 13; refine (HNM.out _).mono ?_; rintro e w1 ⟨rfl, h⟩; subst w1)
    | (go_at_call 90; refine HRD.out.mono ?_; rintro e w2 ⟨ad, cap, rfl, ho, hlt, hk⟩; have HK := hid (And.intro ho (And.intro hlt hk)); clear ho hlt hk))
  go_ret2
  exact ⟨ad, cap, rfl, HK.out⟩

/-- What Load answers. -/
def Loaded (w w' : World) (b : Nat) (e : Ending) (f : Nat) (S : List Item × Nat × Int) : Prop :=
  ((f ≠ 0 ∧ e = .returned (.tuple #[.slice none 0 0, .int .i64 (f : Int)])) ∨ (f = 0 ∧ (S.2.2 ≠ 0 ∨ S.1 = []) ∧ e = .returned (.tuple #[.slice none 0 0, .int .i64 4])) ∨
    (f = 0 ∧ S.2.2 = 0 ∧ S.1 ≠ [] ∧ ∃ a c, e = .returned (.tuple #[.slice a S.1.length c, .int .i64 0]) ∧ PRow 60 w.heap.size b w' (.slice a S.1.length c) S.1)) ∧ Crc.Kept b w w' ∧ TabX w' b

set_option maxHeartbeats 1000000 in
theorem load_any {P : Nat → Prop} {N : Nat} (w : World) (s b : Nat) (p : PS) (i : Nat) (h1 : 1 ≤ i) (h2 : i < 100) (h : Sim.Sys P N w s p) (hT : TabX w b) (hb : ∀ x ∈ pBytes (nm (nameP i)) p, x < 256) (hl : (pBytes (nm (nameP i)) p).length ≤ 20000000) :
    Calls Tryz.prog 36 #[.pointer (some ⟨s, 0, none⟩), .pointer (some ⟨b, 0, none⟩), .int .i64 (i : Int)] w fun e w' => Loaded w w' b e (finds p (nm (nameP i))) (scanF (ints (pBytes (nm (nameP i)) p))) := by
  have HRD := hid (pread_any w s b p i h1 h2 h)
  have HT := hid hT
  have hbw := hT.lt
  obtain ⟨F, hF⟩ : ∃ F, finds p (nm (nameP i)) = F := ⟨_, rfl⟩
  obtain ⟨Y, hY⟩ : ∃ Y, pBytes (nm (nameP i)) p = Y := ⟨_, rfl⟩
  rw [hY] at hb hl
  rw [hF, hY] at HRD ⊢
  have HY := hid (And.intro hb hl)
  clear hF hY hb hT
  by_cases hF0 : F = 0
  · subst hF0
    go_enter Tryz.func36, Tryz.ntmps36
    go_wp2_with (go_at_call 63; refine HRD.out.mono ?_; rintro e w2 ⟨ad, cap, rfl, ho, hlt, hk⟩; have HK := hid (And.intro ho (And.intro hlt hk)); clear ho hlt hk)
    have hk := HK.out.2.2
    have hbl : Below w.heap.size w w2 := hk.toBelow'
    have HB2 := hid hbl
    have HT2 := hid (HT.out.below hbl)
    have HBY := hid (own_of HK.out.1 HY.out.1 (by have := HY.out.2; omega) w.heap.size HK.out.2.1)
    clear hk hbl
    refine (scan_any b _ (ints Y) w2 HT2.out (BySlS.mono HBY.out (fun g hg => ⟨by omega, hg.2⟩)) (by rw [ints_length]; omega)).mono ?_
    rintro e w3 ⟨al, cl, rfl, hp3, hk3, ht3⟩
    have HP3 := hid (And.intro hp3 (And.intro hk3 ht3))
    obtain ⟨⟨L, sp, sf⟩, hS⟩ : ∃ S, scanF (ints Y) = S := ⟨_, rfl⟩
    rw [hS] at HP3 ⊢
    dsimp only at HP3 ⊢
    have HS := hid hS
    clear hp3 hk3 ht3 hS
    have HFIN : Hid (Crc.Kept b w w3 ∧ TabX w3 b) := ⟨(Crc.Kept.below HB2.out).trans HP3.out.2.1, HP3.out.2.2⟩
    by_cases hsf : sf = 0
    · subst hsf
      cases L with
      | nil =>
        go_wp2_with fail
        go_ret2
        rw [HS.out]
        exact ⟨.inr (.inl ⟨rfl, .inr rfl, rfl⟩), HFIN.out⟩
      | cons x L =>
        have hll : ¬ (((x :: L).length : Int) = 0) := by simp; omega
        obtain ⟨n, hn⟩ : ∃ n, (x :: L).length = n := ⟨_, rfl⟩
        rw [hn] at hll HP3 ⊢
        have HN := hid hn
        clear hn
        go_wp2_with fail
        go_ret2
        rw [HS.out]
        refine ⟨.inr (.inr ⟨rfl, rfl, by simp, al, cl, by rw [HN.out]; rfl, ?_⟩), HFIN.out⟩
        rw [HN.out]
        exact HP3.out.1.mono HB2.out.size
    · have hsf' : ¬ sf = 0 := hsf
      have hsfb : (sf != 0) = true := by simp [hsf]
      go_wp2_with fail
      go_ret2
      rw [HS.out]
      exact ⟨.inr (.inl ⟨rfl, .inl hsf, rfl⟩), HFIN.out⟩
  · have hF' : ¬ ((F : Int) = 0) := by omega
    go_enter Tryz.func36, Tryz.ntmps36
    go_wp2_with (go_at_call 63; refine HRD.out.mono ?_; rintro e w2 ⟨ad, cap, rfl, ho, hlt, hk⟩; have HK := hid (And.intro ho (And.intro hlt hk)); clear ho hlt hk)
    go_ret2
    exact ⟨.inl ⟨hF0, rfl⟩, Crc.Kept.below HK.out.2.2.toBelow', HT.out.below HK.out.2.2.toBelow'⟩
end Go.Proofs.YtaaioaocjfpajaaGreatDoor
end

section
/-
  Flip; settle, SyncDir, Arm, New.
-/
namespace Go.Proofs.YtaaioaocjfpajaaGreatDoor.Sim
open Go.RowKit Go.Maps

/-! ### Flip -/
theorem row_cell {w : World} {g n cap : Nat} {xs : List Nat} (h : OwnB w (.slice (some ⟨g, 0, none⟩) n cap) xs) (hn : n = xs.length) (k : Nat) (hk : k < xs.length) : w.cell? ⟨g, k, none⟩ = some (.int .u8 (xs.getD k 0 : Nat)) ∧ w.frozen? ⟨g, k, none⟩ = false := by
  subst hn
  refine ⟨by rw [h.row.cellAt k (by omega)]; exact cl_at xs k hk, ?_⟩
  rcases h.row.2 with ⟨e, _⟩ | ⟨g', cap', cur, e, _, hh, _⟩
  · cases e
  · cases e
    simp [World.frozen?, hh]
theorem OwnB.set {w : World} {g n cap : Nat} {xs : List Nat} (h : OwnB w (.slice (some ⟨g, 0, none⟩) n cap) xs) (k y : Nat) : OwnB (w.setCell ⟨g, k, none⟩ (.int .u8 (y : Int))) (.slice (some ⟨g, 0, none⟩) n cap) (xs.set k y) := by
  have hcl : cl (xs.set k y) = (cl xs).set k (.int .u8 (y : Int)) := by simp [cl, List.map_set]
  rcases h.row.2 with ⟨e, _⟩ | ⟨g', cap', cur, e, hb, hh, h1, h2, h3, h4⟩
  · cases e
  · cases e
    refine ⟨by simp [cl], .inr ⟨g, cap, cur.setIfInBounds k (.int .u8 (y : Int)), by simp, hb, ?_, by simpa using h1, h2, by simpa using h3, ?_⟩⟩
    · simp [World.setCell, Array.getElem?_modify, hh]
    · rw [hcl, Array.toList_setIfInBounds, List.length_set]
      rw [← h4, ← List.take_set]

set_option maxHeartbeats 1000000 in
theorem flip_any {P : Nat → Prop} {N : Nat} (w : World) (s : Nat) (p : PS) (t : ByteArray) (k : Int) (x : Nat) (hx : x < 256) (ht : t.size ≤ 20000000) (h : Sys P N w s p) (hN : N + 1 ≤ 1000) :
    Calls Tryz.prog 12 #[.pointer (some ⟨s, 0, none⟩), .string t, .int .i64 k, .int .u8 (x : Int)] w fun e w' => e = .returned (.int .i64 ((pFlip (nm t) k x p).1 : Nat)) ∧ Done P (N + 1) w w' s (pFlip (nm t) k x p).2 := by
  have HC := hid (find_any w s p t ht h)
  have hI := h.inv
  have H := hid h
  by_cases h0 : finds p (nm t) = 0
  · obtain ⟨b, hb⟩ := found_zero hI h0
    obtain ⟨_, hd, _⟩ := pBytes_of hb
    have hf := hI.hasFound hd
    have hlen := hI.lfile b _ hf
    have hbig := hI.big
    obtain ⟨vs, vf, vc, u, hR⟩ := h
    obtain ⟨hPb, hFb, hPu⟩ := hR.file b _ hf
    have hbl := hR.lt b hPb
    have HR := hid hR
    have HF := hid hFb
    rw [h0, hb] at HC
    have e0 : ptrV (some b) = .pointer (some ⟨b, 0, none⟩) := rfl
    rw [e0] at HC
    obtain ⟨a, cap, hv, hle, hcap, hnil⟩ := hFb.own.shape
    have HV := hid hv
    have hub := hR.file b _ hf
    by_cases hk : k < 0 ∨ ((fileAt p b).b.length : Int) ≤ k
    · have e1 : pFlip (nm t) k x p = (1, p) := by simp [pFlip, h0, blockOf, hd, hk]
      rw [e1]
      have HB : Hid (∀ V, Kp No w V → V.cell? ⟨b, 0, none⟩ = some (.slice a (fileAt p b).b.length cap)) := fun V kV => by
        have := (hFb.blk.kp kV (fun h => h)).cell 0
        rw [hv] at this
        exact this
      generalize (fileAt p b).b.length = L at *
      clear e1 e0 hd hb h0 hI hf hR hFb hub hv HF HV hnil HR
      rcases hk with hk | hk
      · go_enter Tryz.func12, Tryz.ntmps12
        go_wp2_with (go_at_call 32; refine (HC.out).mono ?_; rintro e w1 ⟨rfl, h1⟩; have H1 := hid h1; clear h1)
        go_ret
        exact ⟨rfl, (Done.of (H.out.more (by omega) hN) (Kp.refl _ _)).kept H1.out⟩
      · have hk0 : ¬ k < 0 := by omega
        go_enter Tryz.func12, Tryz.ntmps12
        go_wp2_with (go_at_call 32; refine (HC.out).mono ?_; rintro e w1 ⟨rfl, h1⟩; have H1 := hid h1; have c0 := HB.out _ h1; clear h1)
        go_ret
        exact ⟨rfl, (Done.of (H.out.more (by omega) hN) (Kp.refl _ _)).kept H1.out⟩
    · obtain ⟨i, rfl⟩ : ∃ i : Nat, k = i := ⟨k.toNat, by omega⟩
      have hil : i < (fileAt p b).b.length := by omega
      obtain ⟨g, rfl⟩ : ∃ g, a = some ⟨g, 0, none⟩ := by
        rcases hFb.own.row.2 with ⟨e, e2⟩ | ⟨g, cap', cur, e, _⟩
        · omega
        · rw [hv] at e; cases e; exact ⟨g, rfl⟩
      rw [hv] at hFb hPu
      have e1 : pFlip (nm t) i x p = (0, setF b ⟨(fileAt p b).b.set i ((fileAt p b).b.getD i 0 ^^^ x), (fileAt p b).safe⟩ p) := by
        simp [pFlip, h0, blockOf, hd, hil]
      rw [e1]
      have hyl : (fileAt p b).b.getD i 0 < 256 := by
        rw [getD_at hil]
        exact hFb.byt _ (List.getElem_mem hil)
      have hxor := u8_xor_nat ((fileAt p b).b.getD i 0) x hyl hx
      have HX : Hid (((fileAt p b).b.getD i 0 ^^^ x) < 256) := Nat.xor_lt_two_pow (n := 8) hyl hx
      have HB : Hid (∀ V, Kp No w V → V.cell? ⟨b, 0, none⟩ = some (.slice (some ⟨g, 0, none⟩) (fileAt p b).b.length cap) ∧ V.cell? ⟨g, i, none⟩ = some (.int .u8 ((fileAt p b).b.getD i 0 : Nat)) ∧ V.frozen? ⟨g, i, none⟩ = false) := fun V kV => by
        refine ⟨(hFb.blk.kp kV (fun h => h)).cell 0, ?_⟩
        exact row_cell (hFb.own.kept kV) rfl i hil
      have HE : Hid (∀ V, Kp No w V → Done P (N + 1) w (V.setCell ⟨g, i, none⟩ (.int .u8 (((fileAt p b).b.getD i 0 ^^^ x : Nat) : Int))) s (setF b ⟨(fileAt p b).b.set i ((fileAt p b).b.getD i 0 ^^^ x), (fileAt p b).safe⟩ p)) := fun V kV => by
        have hRV := HR.out.kp kV (fun _ h => h.elim)
        have hFV := hFb.kp kV (fun h => h) (fun _ _ h => h)
        have hgb : g ≠ b := fun e => hFV.own.row.ne hFV.blk (by decide) (by rw [← e]; rfl)
        have kK : Kp (fun k => k = b ∨ (u b).ownBlock = some k) V (V.setCell ⟨g, i, none⟩ (.int .u8 (((fileAt p b).b.getD i 0 ^^^ x : Nat) : Int))) := (Kp.refl _ _).setCell (p := ⟨g, i, none⟩) (.inl (.inr (by rw [HV.out]; rfl))) _
        have hS := rp_setF (M := N + 1) (f' := ⟨(fileAt p b).b.set i ((fileAt p b).b.getD i 0 ^^^ x), (fileAt p b).safe⟩) (v' := .slice (some ⟨g, 0, none⟩) (fileAt p b).b.length cap) hRV hf kK ?_ (fun k hk => .inl (by rw [HV.out]; exact hk)) (inv_setF (HR.out.inv.mono (by omega) hN) (by simp; omega))
        · exact ⟨_, hS.1, (kV.mono (fun _ h => h.elim)).trans hS.2 (fun x hx => .inl hx), fun y hy => by
            rcases hy with hy | hy
            · exact .inl hy
            · exact .inr (Nat.le_trans kV.size hy.1)⟩
        · refine ⟨(hFV.blk.kp (Kp.set1 V g i _) (Ne.symm hgb)), hFV.own.set i _, fun y hy => ?_, by simpa using hFV.le⟩
          rcases List.mem_or_eq_of_mem_set hy with h1 | rfl
          · exact hFV.byt y h1
          · exact HX.out
      have hil' : (i : Int) < ((fileAt p b).b.length : Int) := by omega
      generalize (fileAt p b).b.getD i 0 = y at *
      generalize (setF b ⟨(fileAt p b).b.set i (y ^^^ x), (fileAt p b).safe⟩ p) = R at *
      generalize (fileAt p b).b.length = L at *
      clear e1 e0 hd hb h0 hI hf hR hFb hub hv HF HV hnil hk HR hPu
      go_enter Tryz.func12, Tryz.ntmps12
      go_wp2_with (go_at_call 32; refine (HC.out).mono ?_; rintro e w1 ⟨rfl, h1⟩; have H1 := hid h1; obtain ⟨c0, c1, f1⟩ := HB.out _ h1; clear h1)
      go_ret
      exact ⟨rfl, HE.out _ H1.out⟩
  · have e1 : pFlip (nm t) k x p = (finds p (nm t), p) := by simp [pFlip, h0]
    have hn : foundP p (nm t) = none := by simp [foundP, h0]
    rw [e1]
    rw [hn] at HC
    have e0 : ptrV none = .pointer none := rfl
    rw [e0] at HC
    generalize finds p (nm t) = fx at *
    have hne : ((fx : Int) != 0) = true := by simp; omega
    clear e1 e0 hn h0 hI h
    go_enter Tryz.func12, Tryz.ntmps12
    go_wp2_with (go_at_call 32; refine (HC.out).mono ?_; rintro e w1 ⟨rfl, h1⟩; have H1 := hid h1; clear h1)
    go_ret
    exact ⟨rfl, (Done.of (H.out.more (by omega) hN) (Kp.refl _ _)).kept H1.out⟩

/-! ### settle -/
set_option maxHeartbeats 2000000 in
/-- settle, told by what it does to the blocks. -/
theorem settle_raw {P : Nat → Prop} {I : PS → Prop} (W : World) (s : Nat) (q : PS) (vs vc : Value) (mo : Option Nat) (u : Nat → Value) (n : Nat) (h : Rp P I W s q vs (.map mo) vc u) (hn : n ≤ q.chg.length) (hok : okcs q.safe q.chg) (hnm : ∀ c ∈ q.chg, c.nm.length ≤ 40 ∧ c.to.length ≤ 40) (hl : q.safe.length ≤ 1000) (hc : q.chg.length ≤ 1000) (hnm2 : q.made = false → q.chg = [] ∧ q.safe = []) :
    Calls Tryz.prog 39 #[.pointer (some ⟨s, 0, none⟩), .int .i64 (n : Int)] W fun e w' => e = .returned (.tuple #[]) ∧ ∃ W1, MapV W1 (.map mo) ((q.chg.take n).foldl pdo q.safe) ∧ Kp (fun k => mo = some k) W W1 ∧ w' = W1.setCell ⟨s, 3, none⟩ (.slice none 0 0) := by
  have hsl := h.lt s h.ps
  have c2 : W.cell? ⟨s, 2, none⟩ = some (.map mo) := h.c 2
  have c3 : W.cell? ⟨s, 3, none⟩ = some vc := h.c 3
  have f3 := h.blk.frozen 3
  obtain ⟨a, cap, hv, hle, hcap, hnil, hsp⟩ := h.chg.shape
  have hch : ChAt W (.slice a n cap) (q.chg.take n) := by
    have := h.chg.chAt (by omega)
    rw [hv] at this
    exact this.front n hn
  subst hv
  have hsm : ∀ k, mo = some k → s ≠ k := fun k e => by
    rcases h.safe with ⟨h1, _⟩ | ⟨b, h1, h2⟩
    · rw [e] at h1; cases h1
    · rw [e] at h1; cases h1; exact Ne.symm (h2.blk h.blk)
  have HD : Hid (Calls Tryz.prog 66 #[.map mo, .slice a n cap] W.drew fun e w' => e = .returned (.tuple #[]) ∧ MapV w' (.map mo) ((q.chg.take n).foldl pdo q.safe) ∧ Kp (fun k => mo = some k) W w') := by
    rcases h.safe with ⟨h1, h2⟩ | ⟨b, h1, h2⟩
    · have hq : q.chg = [] := by
        cases hm : q.made with
        | false => exact (hnm2 hm).1
        | true => obtain ⟨a, b, _, hb, _⟩ := h.mades hm; rw [h1] at hb; cases hb
      rw [hq] at hch ⊢
      refine (do_none (.map mo) W.drew _ (show ChAt W _ [] by simpa using hch)).mono ?_
      rintro e w' ⟨rfl, rfl⟩
      exact ⟨rfl, .inl ⟨h1, by simpa using h2⟩, (Kp.refl _ _).drew⟩
    · cases h1
      have hok' : okcs q.safe (q.chg.take n) := by
        have := hok
        rw [← List.take_append_drop n q.chg, okcs_append] at this
        exact this.1
      refine (do_any W.drew b q.safe _ (q.chg.take n) (h2.kp (L := No) (Kp.refl _ _).drew (fun h => h)) (by
        obtain ⟨a', cap', e, r1, r2, r3, r4⟩ := hch
        exact ⟨a', cap', e, r1, r2, r3, r4⟩) hok' (fun c hc' => by have := hnm c (List.mem_of_mem_take hc'); omega) (by have := List.length_take_le n q.chg; omega)).mono ?_
      rintro e w' ⟨rfl, r1, r2⟩
      exact ⟨rfl, .inr ⟨b, rfl, r1⟩, ((Kp.refl _ _).drew).trans r2 (fun x hx => .inl (by rw [hx]))⟩
  have HSM := hid hsm
  have hnc : (n : Int) ≤ (cap : Int) := by omega
  clear h hok hnm hnm2 hch hsm hsp hnil
  have hnq : n ≤ cap := by omega
  go_enter Tryz.func39, Tryz.ntmps39
  go_wp2_with fail
  have r2 : ∀ V, Kp (fun k => mo = some k) W V → V.cell? ⟨s, 2, none⟩ = some (.map mo) := fun V k => (k.cell (p := ⟨s, 2, none⟩) hsl (fun e => HSM.out s e rfl)).trans c2
  have r3 : ∀ V, Kp (fun k => mo = some k) W V → V.cell? ⟨s, 3, none⟩ = some (.slice a q.chg.length cap) := fun V k => (k.cell (p := ⟨s, 3, none⟩) hsl (fun e => HSM.out s e rfl)).trans c3
  have g3 : ∀ V, Kp (fun k => mo = some k) W V → V.frozen? ⟨s, 3, none⟩ = false := fun V k => (k.frozen (p := ⟨s, 3, none⟩) hsl (fun e => HSM.out s e rfl)).trans f3
  go_region_held3 (fun V => Kp (fun k => mo = some k) W V) (first | (with_reducible exact Kp.refl _ _) | (with_reducible exact (Kp.refl _ _).drew) | (with_reducible exact HK1.out)) (first | (go_at_call 66; refine (HD.out).mono ?_; rintro e w1 ⟨rfl, hm1, hk1⟩; have HM1 := hid hm1; have HK1 := hid hk1; clear hm1 hk1))
  have z3 := r3 _ HK1.out
  have y3 := g3 _ HK1.out
  clear r2 r3 g3
  go_wp2
  go_end0
  exact ⟨rfl, w1, HM1.out, HK1.out, rfl⟩

end Go.Proofs.YtaaioaocjfpajaaGreatDoor.Sim
end

section
/-
  SyncDir, Arm, New.
-/
namespace Go.Proofs.YtaaioaocjfpajaaGreatDoor.Sim
open Go.RowKit Go.Maps

theorem rq_settle {P : Nat → Prop} {I J : PS → Prop} {W W1 w' : World} {s : Nat} {q : PS} {vs vc : Value} {mo : Option Nat} {u : Nat → Value} {d : Dir} (h : Rp P I W s q vs (.map mo) vc u) (hm : MapV W1 (.map mo) d) (hk : Kp (fun k => mo = some k) W W1)
    (hw : w' = W1.setCell ⟨s, 3, none⟩ (.slice none 0 0)) (hi : J { q with safe := d, chg := [] }) : Rp P J w' s { q with safe := d, chg := [] } vs (.map mo) (.slice none 0 0) u ∧ Kp P W w' := by
  have hmP : ∀ k, mo = some k → P k := fun k e => h.mapS.2 k (by rw [e])
  have hmA : ∀ k, mo = some k → MapAt W k q.safe := fun k e => by
    rcases h.safe with ⟨h1, _⟩ | ⟨b, h1, h2⟩
    · rw [e] at h1; cases h1
    · rw [e] at h1; cases h1; exact h2
  have nb : ∀ x t cs, Blk W x t cs → ¬ (mo = some x) := fun x t cs hx e => (hmA x e).blk hx rfl
  have nr : ∀ {e : TypeId} {sz n : Nat} {v : Value} {xs : List Value}, Row W e sz v n xs → ∀ x, v.ownBlock = some x → ¬ (mo = some x) := fun hrow x hx e => (hmA x e).row hrow hx
  have hs1 := h.blk.kp hk (nb s _ _ h.blk)
  have kset : Kp (· = s) W1 w' := by rw [hw]; exact Kp.set1 _ _ _ _
  have K : Kp (fun k => k = s ∨ mo = some k) W w' := (hk.mono (fun x hx => .inl (.inr hx))).trans kset (fun x hx => .inl (.inl hx))
  refine ⟨?_, K.mono (fun x hx => by
    rcases hx with rfl | hx
    · exact .inl h.ps
    · exact .inl (hmP x hx))⟩
  exact {
    lt := fun x hx => Nat.lt_of_lt_of_le (h.lt x hx) K.size
    ps := h.ps
    blk := by rw [hw]; exact hs1.setCell 3 (.slice none 0 0)
    seen := by
      rcases h.seen with ⟨h1, h2⟩ | ⟨b, h1, h2⟩
      · exact .inl ⟨h1, h2⟩
      · refine .inr ⟨b, h1, h2.kp K (fun e => ?_)⟩
        rcases e with e | e
        · exact h2.blk h.blk e
        · have hmade : q.made = true := by
            cases hmd : q.made with
            | true => rfl
            | false => have := (h.unmade hmd).1; rw [h1] at this; cases this
          obtain ⟨a, c, ha, hc, hac, _⟩ := h.mades hmade
          rw [h1] at ha
          cases ha
          rw [e] at hc
          cases hc
          exact hac rfl
    safe := by
      rcases hm with ⟨h1, h2⟩ | ⟨b, h1, h2⟩
      · exact .inl ⟨h1, h2⟩
      · exact .inr ⟨b, h1, h2.kp kset (h2.blk hs1)⟩
    unmade := h.unmade
    mades := h.mades
    chg := Row.nil _ _ _
    pc := by simp [Value.ownBlock]
    file := fun b f hf => by
      obtain ⟨h1, h2, h3⟩ := h.file b f hf
      refine ⟨h1, h2.kp K (fun e => ?_) (fun x hx e => ?_), h3⟩
      · rcases e with e | e
        · exact h2.blk.ne h.blk (by decide) e
        · exact nb b _ _ h2.blk e
      · rcases e with e | e
        · exact h2.own.row.ne h.blk (by decide) (by rw [hx, e])
        · exact nr h2.own.row x hx e
    sep := h.sep
    inv := hi }

/-! ### No file stands twice -/
def vals (d : Dir) : List Nat := d.map (·.2)
def mades (l : List PC) : List Nat := (l.filter (fun c => c.kind == 0)).map (·.file)
theorem perm_dins (x : Nm × Nat) : ∀ l : Dir, (dins x l).Perm (x :: l)
  | [] => List.Perm.refl _
  | y :: r => by
    unfold dins
    split
    · exact List.Perm.refl _
    · exact ((perm_dins x r).cons y).trans (List.Perm.swap x y r)
theorem nodup_del {d : Dir} {n : Nm} {l : List Nat} (h : (vals d ++ l).Nodup) : (vals (ddel d n) ++ l).Nodup := by
  refine h.sublist (List.Sublist.append ?_ (List.Sublist.refl _))
  exact List.Sublist.map _ List.filter_sublist
theorem nodup_put {d : Dir} {n : Nm} {f : Nat} {l : List Nat} (h : (vals d ++ (f :: l)).Nodup) : (vals (dput d n f) ++ l).Nodup := by
  have h1 := nodup_del (n := n) h
  have h2 : (vals (dput d n f)).Perm (f :: vals (ddel d n)) := (perm_dins (n, f) (ddel d n)).map _
  refine ((h2.append_right l).nodup_iff).2 ?_
  have h3 : (vals (ddel d n) ++ (f :: l)).Perm (f :: vals (ddel d n) ++ l) := List.perm_middle
  exact h3.nodup_iff.1 h1
theorem vals_moved {d : Dir} (hk : (d.map (·.1)).Nodup) {n : Nm} {b : Nat} (h : dfind d n = some b) : (vals d).Perm (b :: vals (ddel d n)) := by
  have hm := mem_of_dfind h
  have : d.Perm ((n, b) :: ddel d n) := by
    induction d with
    | nil => simp at hm
    | cons x r ih =>
      rw [List.map_cons, List.nodup_cons] at hk
      by_cases e : x.1 = n
      · have hx : x = (n, b) := by
          rcases List.mem_cons.1 hm with h1 | h1
          · exact h1.symm
          · exact absurd (List.mem_map.2 ⟨_, h1, e.symm⟩) hk.1
        have hr : ddel r n = r := by
          unfold ddel
          rw [List.filter_eq_self]
          intro y hy
          have : y.1 ≠ n := fun e' => hk.1 (List.mem_map.2 ⟨y, hy, by rw [e', e]⟩)
          simpa using this
        have hd : ddel (x :: r) n = ddel r n := by unfold ddel; rw [List.filter_cons]; simp [e]
        rw [hd, hr, hx]
      · have hd : ddel (x :: r) n = x :: ddel r n := by unfold ddel; rw [List.filter_cons]; simp [e]
        rw [hd]
        have hm' : (n, b) ∈ r := by
          rcases List.mem_cons.1 hm with h1 | h1
          · exact absurd (by rw [← h1]) e
          · exact h1
        have hf : dfind r n = some b := dfind_of_mem hk.2 hm'
        exact ((ih hk.2 hf hm').cons x).trans (List.Perm.swap (n, b) x _)
  exact this.map _
theorem nodup_pdo {d : Dir} {c : PC} {l : List PC} (hr : Ris d) (hok : okc d c) (h : (vals d ++ mades (c :: l)).Nodup) : (vals (pdo d c) ++ mades l).Nodup := by
  unfold pdo
  split
  · rename_i hk
    have e : mades (c :: l) = c.file :: mades l := by simp [mades, hk]
    rw [e] at h
    exact nodup_put h
  · rename_i hk0
    have e : mades (c :: l) = mades l := by simp [mades, hk0]
    rw [e] at h
    split
    · exact nodup_del h
    · rename_i hk1
      have hk : c.kind = 2 := by have := hok.1; omega
      obtain ⟨b, hb⟩ := Option.isSome_iff_exists.1 (hok.2 hk)
      rw [hb]
      have hp := vals_moved hr.nodup hb
      refine nodup_put ?_
      have h3 : (vals (ddel d c.nm) ++ (b :: mades l)).Perm (vals d ++ mades l) := List.perm_middle.trans (hp.symm.append_right _)
      exact h3.nodup_iff.2 h
theorem nodup_fold : ∀ (l m : List PC) (d : Dir), Ris d → okcs d l → (vals d ++ mades (l ++ m)).Nodup → (vals (l.foldl pdo d) ++ mades m).Nodup
  | [], _, _, _, _, h => h
  | c :: r, m, d, hr, hok, h => nodup_fold r m (pdo d c) (hr.pdo c) hok.2 (nodup_pdo hr hok.1 h)
/-- All changes are settled. -/
theorem inv_settle {N : Nat} {p : PS} (h : PInv N p) (hr : Ris p.safe) : PInv N { p with safe := p.chg.foldl pdo p.safe, chg := [] } :=
  { h with
    seen_eq := h.seen_eq
    okc := trivial
    has := fun e he => ((h.seen_eq ▸ h.hasSeen) e he).1
    hasC := fun c hc => by simp at hc
    nodup := by
      have := nodup_fold p.chg [] p.safe hr h.okc (by simpa [vals, mades] using h.nodup)
      simpa [vals, mades] using this
    nmS := fun e he => ((h.seen_eq ▸ h.hasSeen) e he).2
    nmC := fun c hc => by simp at hc
    nmade := fun e => by obtain ⟨h1, h2⟩ := h.nmade e; exact ⟨rfl, by rw [h1, h2]; rfl⟩
    lsum := by have := h.lsum; have := length_fold p.chg p.safe; show (p.chg.foldl pdo p.safe).length + 0 ≤ N; omega }
theorem MapV.ris {w : World} {v : Value} {l : Dir} (h : MapV w v l) : Ris l := by
  rcases h with ⟨_, rfl⟩ | ⟨b, _, h⟩
  · exact List.Pairwise.nil
  · exact h.ris
theorem MapV.shape {w : World} {v : Value} {l : Dir} (h : MapV w v l) : ∃ mo, v = .map mo := by
  rcases h with ⟨h1, _⟩ | ⟨b, h1, _⟩
  · exact ⟨_, h1⟩
  · exact ⟨_, h1⟩

set_option maxHeartbeats 1000000 in
theorem syncdir1_any (W : World) (x s n : Nat) (vc : Value) (hx : W.cell? ⟨x, 0, none⟩ = some (.pointer (some ⟨s, 0, none⟩))) (h3 : W.cell? ⟨s, 3, none⟩ = some vc) (hv : ∃ a cap, vc = .slice a n cap) (T : World → Prop)
    (hC : ∀ V, Kp No W V → Calls Tryz.prog 39 #[.pointer (some ⟨s, 0, none⟩), .int .i64 (n : Int)] V fun e w' => e = .returned (.tuple #[]) ∧ T w') :
    Calls Tryz.prog 78 #[.pointer (some ⟨x, 0, none⟩)] W fun e w' => e = .returned (.tuple #[]) ∧ T w' := by
  obtain ⟨a, cap, rfl⟩ := hv
  have HC : Hid (Calls Tryz.prog 39 #[.pointer (some ⟨s, 0, none⟩), .int .i64 (n : Int)] W.drew fun e w' => e = .returned (.tuple #[]) ∧ T w') := hC _ (Kp.refl _ _).drew
  clear hC
  go_enter Tryz.func78, Tryz.ntmps78
  go_wp2_with fail
  go_region_with (go_at_call 39; refine (HC.out).mono ?_; rintro e w1 ⟨rfl, h1⟩; have H1 := hid h1; clear h1)
  all_goals
    go_wp2
    go_end0
    exact ⟨rfl, H1.out⟩

set_option maxHeartbeats 1000000 in
theorem syncdir_any {P : Nat → Prop} {N : Nat} (w : World) (s : Nat) (p : PS) (h : Sys P N w s p) (hN : N + 1 ≤ 1000) :
    Calls Tryz.prog 50 #[.pointer (some ⟨s, 0, none⟩)] w fun e w' => e = .returned (.int .i64 ((pSyncDir p).1 : Nat)) ∧ Done P (N + 1) w w' s (pSyncDir p).2 := by
  obtain ⟨hps, hsl, q4, _⟩ := h.c
  have hI := h.inv
  have H := hid h
  have hmk := hmf
  have HC : Hid (Calls Tryz.prog 38 #[.pointer (some ⟨s, 0, none⟩), .slice none 0 0] (w.alloc (.cells #[.pointer (some ⟨s, 0, none⟩)] 25)) fun e w' => e = .returned (.int .i64 (wrongs p [] : Nat)) ∧ Kp No (w.alloc (.cells #[.pointer (some ⟨s, 0, none⟩)] 25)) w') := by
    refine (wrong_any s _ [] p.down _ ?_ (NsAt.none _)).mono ?_
    · exact (((Kp.refl No w).alloc _).cell (p := ⟨s, 4, none⟩) hsl (fun h => h.elim)).trans q4
    · rintro e w' ⟨rfl, hk⟩
      exact ⟨rfl, hk⟩
  have hbx : Hid (∀ V, Kp No (w.alloc (.cells #[.pointer (some ⟨s, 0, none⟩)] 25)) V → V.cell? ⟨w.heap.size, 0, none⟩ = some (.pointer (some ⟨s, 0, none⟩))) := fun V k => ((Blk.new w 25 [.pointer (some ⟨s, 0, none⟩)]).kp k (fun h => h)).cell 0
  have q0 := hbx.out _ (Kp.refl _ _)
  have ka : Hid (Kp No w (w.alloc (.cells #[.pointer (some ⟨s, 0, none⟩)] 25))) := (Kp.refl _ _).alloc _
  by_cases hw : wrongs p [] = 0
  · have e1 : pSyncDir p = stp p (settle p.chg.length) := by simp [pSyncDir, hw]
    have HST : Hid (∀ w1, Kp No (w.alloc (.cells #[.pointer (some ⟨s, 0, none⟩)] 25)) w1 → Calls Tryz.prog 77 #[.pointer (some ⟨s, 0, none⟩), .func (.func 78) #[] #[.pointer (some ⟨w.heap.size, 0, none⟩)]] w1 fun e w' =>
        e = .returned (.int .i64 ((pSyncDir p).1 : Nat)) ∧ Done P (N + 1) w w' s (pSyncDir p).2) := by
      intro w1 hk
      have k0 := ka.out.andNone hk
      rw [e1]
      cases hd : dead p with
      | true =>
        have e2 : stp p (settle p.chg.length) = (12, fall p) := by simp [stp, hd]
        rw [e2]
        refine (step_dead w1 s p (h.kept k0) hd _).mono ?_
        rintro e w' ⟨rfl, hS, hk2⟩
        exact ⟨rfl, P, hS.more (by omega) hN, (k0.mono (fun _ h => h.elim)).trans hk2 (fun x hx => .inl (by subst hx; exact hps)), fun _ h => .inl h⟩
      | false =>
        have e2 : stp p (settle p.chg.length) = (0, settle p.chg.length (tick p)) := by simp [stp, hd]
        rw [e2]
        refine step_live w1 s p (h.kept k0) hd hN 78 _ (enters_of Tryz.func78 (by kernel_rfl) rfl) _ ?_
        rintro W kW ⟨vs, vf, vc, u, hR⟩
        obtain ⟨mo, rfl⟩ := hR.safe.shape
        obtain ⟨a, cap, hv, _⟩ := hR.chg.shape
        have hxW : W.cell? ⟨w.heap.size, 0, none⟩ = some (.pointer (some ⟨s, 0, none⟩)) := (kW.cell (p := ⟨w.heap.size, 0, none⟩) (by show w.heap.size < w1.heap.size; have := hk.size; simp at this; omega) (by show ¬ (w.heap.size = s); omega)).trans (hbx.out w1 hk)
        have kw : Kp P w W := (k0.mono (fun _ h => h.elim)).trans kW (fun x hx => .inl (by subst hx; exact hps))
        refine syncdir1_any W w.heap.size s p.chg.length vc hxW (hR.c 3) ⟨a, cap, hv⟩ _ ?_
        intro V kV
        have hRV := hR.kp kV (fun _ h => h.elim)
        have hIT := hRV.inv
        have hbig := hIT.big
        refine (settle_raw V s (tick p) vs vc mo u p.chg.length hRV (Nat.le_refl _) hIT.okc hIT.nmC (by have := hIT.lsafe; omega) (by have := hIT.lchg; omega) hIT.nmade).mono ?_
        rintro e w' ⟨rfl, W1, hm1, hk1, hw1⟩
        have htk : (tick p).chg.take p.chg.length = p.chg := List.take_of_length_le (Nat.le_refl _)
        rw [htk] at hm1
        obtain ⟨hS, hK⟩ := rq_settle (J := PInv (N + 1)) hRV hm1 hk1 hw1 (inv_settle hIT hRV.safe.ris)
        have hst : settle p.chg.length (tick p) = { (tick p) with safe := p.chg.foldl pdo p.safe, chg := [] } := by
          show ({ (tick p) with safe := (p.chg.take p.chg.length).foldl pdo p.safe, chg := [] } : PS) = _
          rw [List.take_of_length_le (Nat.le_refl _)]
        rw [hst]
        exact ⟨rfl, P, ⟨vs, _, _, u, hS⟩, (kw.andNone kV).trans hK (fun x hx => .inl hx), fun _ h => .inl h⟩
    rw [hw] at HC
    generalize pSyncDir p = R at *
    clear e1 hw hI h q4
    go_enter Tryz.func50, Tryz.ntmps50
    go_wp2_with (first | (go_at_call 38; refine (HC.out).mono ?_; rintro e w1 ⟨rfl, h1⟩; have H1 := hid h1; have q1 := hbx.out w1 h1; clear h1) | (go_at_call 77; refine (HST.out w1 H1.out).mono ?_; rintro e w2 ⟨rfl, h2⟩; have H2 := hid h2; clear h2))
    go_ret
    exact ⟨rfl, H2.out⟩
  · have e1 : pSyncDir p = (wrongs p [], p) := by simp [pSyncDir, hw]
    rw [e1]
    generalize wrongs p [] = x at *
    have hne : ((x : Int) != 0) = true := by simp; omega
    clear e1 hw hI h q4
    go_enter Tryz.func50, Tryz.ntmps50
    go_wp2_with (go_at_call 38; refine (HC.out).mono ?_; rintro e w1 ⟨rfl, h1⟩; have H1 := hid h1; clear h1)
    go_ret
    exact ⟨rfl, (Done.of (H.out.more (by omega) hN) (Kp.refl _ _)).kept (ka.out.andNone H1.out)⟩

/-! ### New -/
def newPS (room : Nat) : PS := ⟨room, false, [], [], [], false, false, 0, 0, fun _ => none⟩
theorem inv_new (room : Nat) (h : room ≤ 99000) : PInv 0 (newPS room) where
  seen_eq := rfl
  okc := trivial
  has := fun e he => by simp [newPS] at he
  hasC := fun c hc => by simp [newPS] at hc
  nodup := by simp [newPS]
  nmS := fun e he => by simp [newPS] at he
  nmC := fun c hc => by simp [newPS] at hc
  nmade := fun _ => ⟨rfl, rfl⟩
  room := h
  left := Nat.zero_le _
  steps := Nat.le_refl _
  lsum := Nat.le_refl _
  lfile := fun b f hf => by cases hf
  big := by decide
theorem new_yes (n : Nat) (h : n ≤ 99000) (w : World) : Calls Tryz.prog 6 #[.int .i64 (n : Int)] w fun e w' => e = .returned (.tuple #[.pointer (some ⟨w.heap.size, 0, none⟩), .int .i64 0]) ∧ Sys (· = w.heap.size) 0 w' w.heap.size (newPS n) ∧ Kp No w w' := by
  have h1 : ¬ (n : Int) < 0 := by omega
  have h2 : ¬ (99000 : Int) < n := by omega
  go_enter Tryz.func6, Tryz.ntmps6
  go_wp2
  go_ret2
  refine ⟨rfl, ⟨.map none, .map none, .slice none 0 0, fun _ => .slice none 0 0, ?_⟩, (Kp.refl _ _).alloc _⟩
  exact {
    lt := fun x hx => by subst hx; simp
    ps := rfl
    blk := Blk.new w 83 [.int .i64 (n : Int), .map none, .map none, .slice none 0 0, .bool false, .bool false, .int .i64 0, .int .i64 0]
    seen := .inl ⟨rfl, rfl⟩
    safe := .inl ⟨rfl, rfl⟩
    unmade := fun _ => ⟨rfl, rfl⟩
    mades := fun e => by cases e
    chg := Row.nil _ _ _
    pc := by simp [Value.ownBlock]
    file := fun b f hf => by cases hf
    sep := fun b b' f f' hf => by cases hf
    inv := inv_new n h }

end Go.Proofs.YtaaioaocjfpajaaGreatDoor.Sim
end

section
/-
  What a seal takes: the two closures.
-/
namespace Go.Proofs.YtaaioaocjfpajaaGreatDoor
open Go.RowKit Go.Shelf
open Sim (hid Kp No PS Done Blk nm finds pFsync pRename pSyncDir)

set_option maxHeartbeats 1000000 in
theorem seal1_any {P : Nat → Prop} {N : Nat} (w : World) (s g c1 c3 : Nat) (t : ByteArray) (p : PS) (h : Sim.Sys P N w s p) (hN : N + 1 ≤ 1000) (ht : t.size ≤ 20000000) (k1 : w.cell? ⟨c1, 0, none⟩ = some (.pointer (some ⟨g, 0, none⟩))) (k2 : w.cell? ⟨g, 0, none⟩ = some (.pointer (some ⟨s, 0, none⟩)))
    (k3 : w.cell? ⟨c3, 0, none⟩ = some (.string t)) (n1 : ¬ P c1) (n2 : ¬ P g) (n3 : ¬ P c3) :
    Calls Tryz.prog 107 #[.pointer (some ⟨c1, 0, none⟩), .pointer (some ⟨c3, 0, none⟩)] w fun e w' => e = .returned (.int .i64 ((pFsync (nm t) p).1 : Nat)) ∧ Done P (N + 1) w w' s (pFsync (nm t) p).2 := by
  have l1 := World.block_lt_of_cell? w _ k1
  have l2 := World.block_lt_of_cell? w _ k2
  have l3 := World.block_lt_of_cell? w _ k3
  have HC := hid (Sim.fsync_any w.drew s p t ht (h.kept ((Kp.refl _ _).drew)) hN)
  obtain ⟨F, hF⟩ : ∃ F, (pFsync (nm t) p).1 = F := ⟨_, rfl⟩
  obtain ⟨q, hq⟩ : ∃ q, (pFsync (nm t) p).2 = q := ⟨_, rfl⟩
  rw [hF, hq] at HC ⊢
  clear hF hq h
  go_enter Tryz.func107, Tryz.ntmps107
  go_wp2_with fail
  refine wp_region_held_drew (S := fun V => V.cell? ⟨c1, 0, none⟩ = some (.pointer (some ⟨g, 0, none⟩)) ∧ V.cell? ⟨g, 0, none⟩ = some (.pointer (some ⟨s, 0, none⟩)) ∧ V.cell? ⟨c3, 0, none⟩ = some (.string t)) (by kernel_rfl) ⟨k1, k2, k3⟩ (fun hHeld => ?_)
  refine wpAnyH_take (i := 0) (oi := { dst := some 3, op := Op.load 130 (Operand.tmp 0), type := 130, pos := "writer.go:105", after := #[], guard := none }) (v := .pointer (some ⟨g, 0, none⟩)) rfl (by kernel_rfl) (by kernel_rfl) (by kernel_rfl) (fun _ _ _ h => h) (Or.inl ⟨by rfl, fun w' hw' => by (have q0 := hw'.1; clear hw'; go_simp)⟩) hHeld ?_
  simp only [Act.put, List.setIfInBounds_toArray, List.set_cons_zero, List.set_cons_succ]
  refine wpAnyH_take (i := 1) (oi := { dst := some 4, op := Op.nilCheck (Operand.tmp 3), type := 0, pos := "writer.go:105", after := #[{ on := 0, ground := Ground.data }], guard := none }) (v := .pointer (some ⟨g, 0, none⟩)) rfl (by kernel_rfl) (by kernel_rfl) (by kernel_rfl) (fun _ _ _ h => h) (Or.inl ⟨by rfl, fun w' hw' => by (clear hw'; go_simp)⟩) hHeld ?_
  simp only [Act.put, List.setIfInBounds_toArray, List.set_cons_zero, List.set_cons_succ]
  refine wpAnyH_take (i := 2) (oi := { dst := some 5, op := Op.fieldAddr 166 (Operand.tmp 4) 0, type := 0, pos := "writer.go:105", after := #[{ on := 1, ground := Ground.data }], guard := none }) (v := .pointer (some ⟨g, 0, none⟩)) rfl (by kernel_rfl) (by kernel_rfl) (by kernel_rfl) (fun _ _ _ h => h) (Or.inl ⟨by rfl, fun w' hw' => by (clear hw'; go_simp)⟩) hHeld ?_
  simp only [Act.put, List.setIfInBounds_toArray, List.set_cons_zero, List.set_cons_succ]
  refine wpAnyH_take (i := 3) (oi := { dst := some 6, op := Op.load 25 (Operand.tmp 5), type := 25, pos := "writer.go:105", after := #[{ on := 2, ground := Ground.data }], guard := none }) (v := .pointer (some ⟨s, 0, none⟩)) rfl (by kernel_rfl) (by kernel_rfl) (by kernel_rfl) (fun _ _ _ h => h) (Or.inl ⟨by rfl, fun w' hw' => by (have q0 := hw'.2.1; clear hw'; go_simp)⟩) hHeld ?_
  simp only [Act.put, List.setIfInBounds_toArray, List.set_cons_zero, List.set_cons_succ]
  refine wpAnyH_take (i := 4) (oi := { dst := some 7, op := Op.load 9 (Operand.tmp 1), type := 9, pos := "writer.go:105", after := #[], guard := none }) (v := .string t) rfl (by kernel_rfl) (by kernel_rfl) (by kernel_rfl) (fun _ _ _ h => h) (Or.inl ⟨by rfl, fun w' hw' => by (have q0 := hw'.2.2; clear hw'; go_simp)⟩) hHeld ?_
  simp only [Act.put, List.setIfInBounds_toArray, List.set_cons_zero, List.set_cons_succ]
  refine wpAnyH_ready (rs := [5]) (by kernel_rfl) (by simp) ?_
  refine AllReadyH.cons (o := { dst := some 8, op := Op.call { callee := Callee.value (Operand.func 108), args := #[Operand.tmp 6, Operand.tmp 7], argTypes := #[25, 9] }, type := 26, pos := "writer.go:105", after := #[{ on := 3, ground := Ground.data }, { on := 4, ground := Ground.data }], guard := none }) rfl (fun K hK => ?_) AllReadyH.nil
  go_simp
  refine HC.out.mono ?_
  rintro e w2 ⟨rfl, P', hS, hK, hP⟩
  have HD := hid (And.intro hS (And.intro hK hP))
  clear hS hK hP
  go_wp2_with fail
  refine hK.out _ _ (⟨(HD.out.2.1.cell (p := ⟨c1, 0, none⟩) l1 n1).trans k1, (HD.out.2.1.cell (p := ⟨g, 0, none⟩) l2 n2).trans k2, (HD.out.2.1.cell (p := ⟨c3, 0, none⟩) l3 n3).trans k3⟩) (fun hh => ?_)
  clear hK K hHeld
  have hHeld := hh
  clear hh
  try simp only [Act.put, List.setIfInBounds_toArray, List.set_cons_zero, List.set_cons_succ]
  refine wpAnyH_take (i := 6) (oi := { dst := some 2, op := Op.assign (Operand.tmp 8), type := 26, pos := "writer.go:105", after := #[{ on := 5, ground := Ground.data }, { on := 5, ground := Ground.chain }, { on := 0, ground := Ground.phase }, { on := 1, ground := Ground.phase }, { on := 2, ground := Ground.phase }, { on := 3, ground := Ground.phase }, { on := 4, ground := Ground.phase }, { on := 5, ground := Ground.phase }], guard := none }) (v := .int .i64 (F : Int)) rfl (by kernel_rfl) (by kernel_rfl) (by kernel_rfl) (fun _ _ _ h => h) (Or.inl ⟨by rfl, fun w' hw' => by (clear hw'; go_simp)⟩) hHeld ?_
  simp only [Act.put, List.setIfInBounds_toArray, List.set_cons_zero, List.set_cons_succ]
  refine wpAnyH_done (by kernel_rfl) ?_ _
  go_wp2_with fail
  go_ret
  exact ⟨rfl, P', HD.out.1, ((Kp.refl (fun x => P x) w).drew).trans HD.out.2.1 (fun x hx => .inl hx), HD.out.2.2⟩

set_option maxHeartbeats 1000000 in
theorem seal2_any {P : Nat → Prop} {N : Nat} (w : World) (s g c1 c3 c4 : Nat) (t t' : ByteArray) (p : PS) (h : Sim.Sys P N w s p) (hN : N + 1 ≤ 1000) (ht : t.size ≤ 20000000) (ht' : t'.size ≤ 20000000) (k1 : w.cell? ⟨c1, 0, none⟩ = some (.pointer (some ⟨g, 0, none⟩))) (k2 : w.cell? ⟨g, 0, none⟩ = some (.pointer (some ⟨s, 0, none⟩)))
    (k3 : w.cell? ⟨c3, 0, none⟩ = some (.string t)) (k4 : w.cell? ⟨c4, 0, none⟩ = some (.string t')) (n1 : ¬ P c1) (n2 : ¬ P g) (n3 : ¬ P c3) (n4 : ¬ P c4) :
    Calls Tryz.prog 109 #[.pointer (some ⟨c1, 0, none⟩), .pointer (some ⟨c3, 0, none⟩), .pointer (some ⟨c4, 0, none⟩)] w fun e w' => e = .returned (.int .i64 ((pRename (nm t) (nm t') p).1 : Nat)) ∧ Done P (N + 1) w w' s (pRename (nm t) (nm t') p).2 := by
  have l1 := World.block_lt_of_cell? w _ k1
  have l2 := World.block_lt_of_cell? w _ k2
  have l3 := World.block_lt_of_cell? w _ k3
  have l4 := World.block_lt_of_cell? w _ k4
  have HC := hid (Sim.rename_any w.drew s p t t' ht ht' (h.kept ((Kp.refl _ _).drew)) hN)
  obtain ⟨F, hF⟩ : ∃ F, (pRename (nm t) (nm t') p).1 = F := ⟨_, rfl⟩
  obtain ⟨q, hq⟩ : ∃ q, (pRename (nm t) (nm t') p).2 = q := ⟨_, rfl⟩
  rw [hF, hq] at HC ⊢
  clear hF hq h
  go_enter Tryz.func109, Tryz.ntmps109
  go_wp2_with fail
  refine wp_region_held_drew (S := fun V => V.cell? ⟨c1, 0, none⟩ = some (.pointer (some ⟨g, 0, none⟩)) ∧ V.cell? ⟨g, 0, none⟩ = some (.pointer (some ⟨s, 0, none⟩)) ∧ V.cell? ⟨c3, 0, none⟩ = some (.string t) ∧ V.cell? ⟨c4, 0, none⟩ = some (.string t')) (by kernel_rfl) ⟨k1, k2, k3, k4⟩ (fun hHeld => ?_)
  refine wpAnyH_take (i := 0) (oi := { dst := some 4, op := Op.load 130 (Operand.tmp 0), type := 130, pos := "writer.go:106", after := #[], guard := none }) (v := .pointer (some ⟨g, 0, none⟩)) rfl (by kernel_rfl) (by kernel_rfl) (by kernel_rfl) (fun _ _ _ h => h) (Or.inl ⟨by rfl, fun w' hw' => by (have q0 := hw'.1; clear hw'; go_simp)⟩) hHeld ?_
  simp only [Act.put, List.setIfInBounds_toArray, List.set_cons_zero, List.set_cons_succ]
  refine wpAnyH_take (i := 1) (oi := { dst := some 5, op := Op.nilCheck (Operand.tmp 4), type := 0, pos := "writer.go:106", after := #[{ on := 0, ground := Ground.data }], guard := none }) (v := .pointer (some ⟨g, 0, none⟩)) rfl (by kernel_rfl) (by kernel_rfl) (by kernel_rfl) (fun _ _ _ h => h) (Or.inl ⟨by rfl, fun w' hw' => by (clear hw'; go_simp)⟩) hHeld ?_
  simp only [Act.put, List.setIfInBounds_toArray, List.set_cons_zero, List.set_cons_succ]
  refine wpAnyH_take (i := 2) (oi := { dst := some 6, op := Op.fieldAddr 166 (Operand.tmp 5) 0, type := 0, pos := "writer.go:106", after := #[{ on := 1, ground := Ground.data }], guard := none }) (v := .pointer (some ⟨g, 0, none⟩)) rfl (by kernel_rfl) (by kernel_rfl) (by kernel_rfl) (fun _ _ _ h => h) (Or.inl ⟨by rfl, fun w' hw' => by (clear hw'; go_simp)⟩) hHeld ?_
  simp only [Act.put, List.setIfInBounds_toArray, List.set_cons_zero, List.set_cons_succ]
  refine wpAnyH_take (i := 3) (oi := { dst := some 7, op := Op.load 25 (Operand.tmp 6), type := 25, pos := "writer.go:106", after := #[{ on := 2, ground := Ground.data }], guard := none }) (v := .pointer (some ⟨s, 0, none⟩)) rfl (by kernel_rfl) (by kernel_rfl) (by kernel_rfl) (fun _ _ _ h => h) (Or.inl ⟨by rfl, fun w' hw' => by (have q0 := hw'.2.1; clear hw'; go_simp)⟩) hHeld ?_
  simp only [Act.put, List.setIfInBounds_toArray, List.set_cons_zero, List.set_cons_succ]
  refine wpAnyH_take (i := 4) (oi := { dst := some 8, op := Op.load 9 (Operand.tmp 1), type := 9, pos := "writer.go:106", after := #[], guard := none }) (v := .string t) rfl (by kernel_rfl) (by kernel_rfl) (by kernel_rfl) (fun _ _ _ h => h) (Or.inl ⟨by rfl, fun w' hw' => by (have q0 := hw'.2.2.1; clear hw'; go_simp)⟩) hHeld ?_
  simp only [Act.put, List.setIfInBounds_toArray, List.set_cons_zero, List.set_cons_succ]
  refine wpAnyH_take (i := 5) (oi := { dst := some 9, op := Op.load 9 (Operand.tmp 2), type := 9, pos := "writer.go:106", after := #[], guard := none }) (v := .string t') rfl (by kernel_rfl) (by kernel_rfl) (by kernel_rfl) (fun _ _ _ h => h) (Or.inl ⟨by rfl, fun w' hw' => by (have q0 := hw'.2.2.2; clear hw'; go_simp)⟩) hHeld ?_
  simp only [Act.put, List.setIfInBounds_toArray, List.set_cons_zero, List.set_cons_succ]
  refine wpAnyH_ready (rs := [6]) (by kernel_rfl) (by simp) ?_
  refine AllReadyH.cons (o := { dst := some 10, op := Op.call { callee := Callee.value (Operand.func 110), args := #[Operand.tmp 7, Operand.tmp 8, Operand.tmp 9], argTypes := #[25, 9, 9] }, type := 26, pos := "writer.go:106", after := #[{ on := 3, ground := Ground.data }, { on := 4, ground := Ground.data }, { on := 5, ground := Ground.data }], guard := none }) rfl (fun K hK => ?_) AllReadyH.nil
  go_simp
  refine HC.out.mono ?_
  rintro e w2 ⟨rfl, P', hS, hK, hP⟩
  have HD := hid (And.intro hS (And.intro hK hP))
  clear hS hK hP
  go_wp2_with fail
  refine hK.out _ _ (⟨(HD.out.2.1.cell (p := ⟨c1, 0, none⟩) l1 n1).trans k1, (HD.out.2.1.cell (p := ⟨g, 0, none⟩) l2 n2).trans k2, (HD.out.2.1.cell (p := ⟨c3, 0, none⟩) l3 n3).trans k3, (HD.out.2.1.cell (p := ⟨c4, 0, none⟩) l4 n4).trans k4⟩) (fun hh => ?_)
  clear hK K hHeld
  have hHeld := hh
  clear hh
  try simp only [Act.put, List.setIfInBounds_toArray, List.set_cons_zero, List.set_cons_succ]
  refine wpAnyH_take (i := 7) (oi := { dst := some 3, op := Op.assign (Operand.tmp 10), type := 26, pos := "writer.go:106", after := #[{ on := 6, ground := Ground.data }, { on := 6, ground := Ground.chain }, { on := 0, ground := Ground.phase }, { on := 1, ground := Ground.phase }, { on := 2, ground := Ground.phase }, { on := 3, ground := Ground.phase }, { on := 4, ground := Ground.phase }, { on := 5, ground := Ground.phase }, { on := 6, ground := Ground.phase }], guard := none }) (v := .int .i64 (F : Int)) rfl (by kernel_rfl) (by kernel_rfl) (by kernel_rfl) (fun _ _ _ h => h) (Or.inl ⟨by rfl, fun w' hw' => by (clear hw'; go_simp)⟩) hHeld ?_
  simp only [Act.put, List.setIfInBounds_toArray, List.set_cons_zero, List.set_cons_succ]
  refine wpAnyH_done (by kernel_rfl) ?_ _
  go_wp2_with fail
  go_ret
  exact ⟨rfl, P', HD.out.1, ((Kp.refl (fun x => P x) w).drew).trans HD.out.2.1 (fun x hx => .inl hx), HD.out.2.2⟩
end Go.Proofs.YtaaioaocjfpajaaGreatDoor
end
