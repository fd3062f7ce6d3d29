/- Of the proof: the texts SgSymB, SgSymC, one behind the other. -/
import Derived.Test.YthmimipoooemjaaGreatDoorAbb
import Derived.Test.YthmimipoooemjaaGreatDoorB8
import Derived.Deep.DeepCutAuto
section
/-
  One entry is merged into the sorted ones ahead of it.
-/
namespace Go.Proofs.YthmimipoooemjaaGreatDoor.Sg
open Go.RowKit
open Stb (Stab Srt Mrg)
open Sim (hid Kp No)

theorem srt_mono2 {B : List Ent} (hs : Srt ky lexB B) (x : Ent) : ∀ (t u : Nat) (y z : Ent), t ≤ u → B[t]? = some y → B[u]? = some z → (!lexB x.1 z.1) = true → (!lexB x.1 y.1) = true := fun t u y z htu hy hz hl => by
  by_cases e : t = u
  · subst e; rw [hy] at hz; cases hz; exact hl
  · obtain ⟨hu1, hu2⟩ := List.getElem?_eq_some_iff.1 hz
    obtain ⟨ht1, ht2⟩ := List.getElem?_eq_some_iff.1 hy
    have := List.pairwise_iff_getElem.1 hs t u ht1 hu1 (by omega)
    rw [ht2, hu2] at this
    have hl' : lexB x.1 z.1 = false := by simpa using hl
    have := lexOrd.le_le this hl'
    simpa using this

/-- x moves down through those that stand behind it. -/
def DnSt (L A1 A2 R : List Ent) (x : Ent) (k : Nat) (D : List Ent) : Prop := ∃ S T, A2 = S ++ T ∧ L.length + A1.length + S.length = k ∧ D = L ++ (A1 ++ (S ++ (x :: (T ++ R))))
theorem DnSt.step {L A1 A2 R D : List Ent} {x : Ent} {k : Nat} (h : DnSt L A1 A2 R x k D) (hk : L.length + A1.length < k) : DnSt L A1 A2 R x (k - 1) (swap2 D k (k - 1)) ∧ (∃ y, D[k - 1]? = some y) ∧ D[k]? = some x := by
  obtain ⟨S, T, rfl, hl, rfl⟩ := h
  have hne : S ≠ [] := by intro e; rw [e] at hl; simp at hl; omega
  obtain ⟨S', y, rfl⟩ : ∃ S' y, S = S' ++ [y] := ⟨S.dropLast, S.getLast hne, (List.dropLast_concat_getLast hne).symm⟩
  have e1 : L ++ (A1 ++ ((S' ++ [y]) ++ (x :: (T ++ R)))) = (L ++ A1 ++ S') ++ y :: x :: (T ++ R) := by simp
  simp only [List.length_append, List.length_singleton] at hl
  have hlen : (L ++ A1 ++ S').length = k - 1 := by simp; omega
  refine ⟨⟨S', y :: T, by simp, by omega, ?_⟩, ⟨y, ?_⟩, ?_⟩
  · have e := swap2_back (L ++ A1 ++ S') (T ++ R) y x
    rw [hlen, show k - 1 + 1 = k by omega] at e
    rw [e1, e]
    simp
  · rw [e1, List.getElem?_append_right (by omega), hlen, Nat.sub_self]
    rfl
  · rw [e1, List.getElem?_append_right (by omega), hlen, show k - (k - 1) = 1 by omega]
    rfl

set_option maxHeartbeats 4000000 in
set_option maxRecDepth 100000 in
theorem symB_any (w : World) (g o : Nat) (L A R : List Ent) (x : Ent) (N cap : Nat) (h : EOwn w g o (L ++ (A ++ ([x] ++ R)))) (hN : (L ++ (A ++ ([x] ++ R))).length = N) (hl : N ≤ 1000000) (hs : Srt ky lexB A) (hA1 : 1 < A.length) :
    Calls Tryz.prog 214 #[.slice (some ⟨g, o, none⟩) N cap, .int .i64 (L.length : Int), .int .i64 ((L.length + A.length : Nat) : Int), .int .i64 ((L.length + A.length + 1 : Nat) : Int), cmpV] w fun e w' => e = .returned (.tuple #[]) ∧ ∃ M, Mrg ky lexB A [x] M ∧ At w g o (L ++ (M ++ R)) w' := by
  have H0 := hid (At.start h)
  have hlen : L.length + A.length + 1 + R.length = N := by rw [← hN]; simp; omega
  have hxok : EOk x := h.1.ok x (by simp)
  have hBok : ∀ z ∈ A, EOk z := fun z hz => h.1.ok z (by simp [hz])
  have HX := hid hxok
  have HBOK := hid hBok
  have HMONO := hid (srt_mono2 hs x)
  have HSRT := hid hs
  have HDX : Hid ((L ++ (A ++ ([x] ++ R)))[L.length + A.length]? = some x) := by
    rw [Hid, List.getElem?_append_right (by omega), show L.length + A.length - L.length = A.length by omega, List.getElem?_append_right (by omega), Nat.sub_self]
    rfl
  have HDB : Hid (∀ (t : Nat) (z : Ent), A[t]? = some z → (L ++ (A ++ ([x] ++ R)))[L.length + t]? = some z) := fun t z hz => get_mid hz
  obtain ⟨D, hD⟩ : ∃ D, L ++ (A ++ ([x] ++ R)) = D := ⟨_, rfl⟩
  rw [hD] at H0 HDX HDB
  have HD := hid hD
  obtain ⟨a, ha⟩ : ∃ a, L.length = a := ⟨_, rfl⟩
  obtain ⟨m, hm⟩ : ∃ m, a + A.length = m := ⟨_, rfl⟩
  obtain ⟨b, hb⟩ : ∃ b, m + 1 = b := ⟨_, rfl⟩
  rw [ha, hm, hb]
  rw [ha] at HDX HDB
  rw [hm] at HDX
  have HLB := hid (And.intro ha (And.intro hm hb))
  have hab : a + 1 < m ∧ m < b ∧ b ≤ N := by omega
  obtain ⟨q, hq⟩ : ∃ q, m - a = q := ⟨_, rfl⟩
  have hw1 : IntKind.i64.wrap ((m : Int) - (a : Int)) = (q : Int) := by rw [IntKind.wrap_i64]; omega
  have hq1 : ¬ ((q : Int) = 1) := by omega
  have hqb : ((q : Int) == 1) = false := by simp only [beq_eq_false_iff_ne]; exact hq1
  have hw2 : IntKind.i64.wrap ((b : Int) - (m : Int)) = 1 := by rw [IntKind.wrap_i64]; omega
  obtain ⟨hab1, hab2, hab3⟩ := hab
  clear ha hm hb h hN hD hxok hBok hs hlen hA1 hq
  unfold cmpV
  go_enter Tryz.func214, Tryz.ntmps214
  go_wp2_with fail
  go_loopw [14, 15] (fun v10 v11 wr => ∃ (i j : Nat), v10 = .int .i64 (i : Int) ∧ v11 = .int .i64 (j : Int) ∧ a ≤ i ∧ i ≤ j ∧ j ≤ m ∧ Hid (Half (fun z => !lexB x.1 z.1) A (i - a) (j - a) ∧ At w g o D wr)) (fun v10 v11 _ => (intOf v11).toNat - (intOf v10).toNat)
  case atStart =>
    have e : m - a = A.length := by have := HLB.out; omega
    refine ⟨a, m, rfl, rfl, Nat.le_refl _, by omega, Nat.le_refl _, ?_, H0.out⟩
    rw [Nat.sub_self, e]
    exact Half.begin _ _
  case round =>
    obtain ⟨i, j, rfl, rfl, hmi, hij, hjb, HS⟩ := hrel
    by_cases hlt : i < j
    · have hltI : (i : Int) < (j : Int) := by omega
      obtain ⟨h, hh⟩ : ∃ h, (i + j) / 2 = h := ⟨_, rfl⟩
      have hhI : ((i : Int) + (j : Int)) / 2 = (h : Int) := by omega
      have hih : i ≤ h ∧ h < j := by omega
      obtain ⟨hHf, hA⟩ := HS.out
      obtain ⟨y, hy⟩ : ∃ y, A[h - a]? = some y := ⟨_, List.getElem?_eq_getElem (by have := HLB.out; omega)⟩
      have hDy : D[h]? = some y := by have := HDB.out _ _ hy; rwa [show a + (h - a) = h by omega] at this
      have hyok := HBOK.out y (List.mem_of_getElem? hy)
      have HCMP := hid (fun V => compare_any x y V HX.out hyok)
      have HCV : Hid (cmpE x.1 y.1 < 0 ↔ lexB x.1 y.1 = true) := cmpE_neg x.1 y.1
      have Hx : Hid (∀ V, Kp No wr V → V.rangeAt g (o + m * 35) (entC x)) := fun V hV => ((hA.kept hV).range HDX.out).2
      have Hy : Hid (∀ V, Kp No wr V → V.rangeAt g (o + h * 35) (entC y)) := fun V hV => ((hA.kept hV).range hDy).2
      have HIx := hid (inf HX.out)
      have HIy := hid (inf hyok)
      have HYES : Hid (lexB x.1 y.1 = false → Half (fun z => !lexB x.1 z.1) A (h + 1 - a) (j - a)) := fun e => by
        have := hHf.yes (h := h - a) (by omega) (by omega) hy (by simp [e]) HMONO.out
        rwa [show h - a + 1 = h + 1 - a by omega] at this
      have HNO : Hid (lexB x.1 y.1 = true → Half (fun z => !lexB x.1 z.1) A (i - a) (h - a)) := fun e => hHf.no (h := h - a) (by omega) (by omega) hy (by simp [e]) HMONO.out
      have HAA := hid hA
      have hhN : (h : Int) < (N : Int) := by omega
      have haN : (m : Int) < (N : Int) := by omega
      have hwh : IntKind.i64.wrap ((h : Int) + 1) = ((h + 1 : Nat) : Int) := by rw [IntKind.wrap_i64]; omega
      obtain ⟨cx, hcx⟩ : ∃ cx, entC x = cx := ⟨_, rfl⟩
      obtain ⟨cy, hcy⟩ : ∃ cy, entC y = cy := ⟨_, rfl⟩
      rw [hcx, hcy] at HCMP
      rw [hcx] at Hx HIx
      rw [hcy] at Hy HIy
      obtain ⟨z, hzz⟩ : ∃ z, cmpE x.1 y.1 = z := ⟨_, rfl⟩
      rw [hzz] at HCMP HCV
      clear hcx hcy hzz hHf hA hy hDy hyok hh HS
      go_wp2_with fail
      by_cases hz : z < 0
      · have HH2 := hid (HNO.out (HCV.out.1 hz))
        clear HYES HNO HCV
        refine wp_region_held_drew (S := fun V => Kp No wr V) (by kernel_rfl) ((Kp.refl _ _).drew) (fun hHeld => ?_)
        refine wpAnyH_take (i := 0) (oi := ⟨some 92, .move (.tmp 4), 222, "zsortanyfunc.go:414", #[], none⟩) (v := .func (.func 133) #[] #[]) rfl (by kernel_rfl) (by kernel_rfl) (by kernel_rfl) (fun _ _ _ h => h) (Or.inl ⟨by rfl, fun w' hw' => by (clear hw'; go_simp)⟩) hHeld ?_
        simp only [Act.put, sjA, sjB, sjC]
        refine wpAnyH_take (i := 1) (oi := ⟨some 93, .move (.tmp 0), 81, "zsortanyfunc.go:414", #[], none⟩) (v := .slice (some ⟨g, o, none⟩) N cap) rfl (by kernel_rfl) (by kernel_rfl) (by kernel_rfl) (fun _ _ _ h => h) (Or.inl ⟨by rfl, fun w' hw' => by (clear hw'; go_simp)⟩) hHeld ?_
        simp only [Act.put, sjA, sjB, sjC]
        refine wpAnyH_take (i := 2) (oi := ⟨some 94, .move (.tmp 2), 3, "zsortanyfunc.go:414", #[], none⟩) (v := .int .i64 (m : Int)) rfl (by kernel_rfl) (by kernel_rfl) (by kernel_rfl) (fun _ _ _ h => h) (Or.inl ⟨by rfl, fun w' hw' => by (clear hw'; go_simp)⟩) hHeld ?_
        simp only [Act.put, sjA, sjB, sjC]
        refine wpAnyH_take (i := 3) (oi := ⟨some 95, .indexAddr 81 (.tmp 93) (.tmp 94), 0, "zsortanyfunc.go:414", #[⟨1, .data⟩, ⟨2, .data⟩], none⟩) (v := .pointer (some ⟨g, o + m * 35, none⟩)) rfl (by kernel_rfl) (by kernel_rfl) (by kernel_rfl) (fun _ _ _ h => h) (Or.inl ⟨by rfl, fun w' hw' => by (clear hw'; go_simp)⟩) hHeld ?_
        simp only [Act.put, sjA, sjB, sjC]
        refine wpAnyH_take (i := 4) (oi := ⟨some 96, .load 155 (.tmp 95), 155, "zsortanyfunc.go:414", #[⟨3, .data⟩], none⟩) (v := .agg cx.toArray) rfl (by kernel_rfl) (by kernel_rfl) (by kernel_rfl) (fun _ _ _ h => h) (yieldsIf_load_mid (by rfl) _ _ rfl g (o + m * 35) rfl cx _ (Hx.out) Tryz.underlying155 rfl HIx.out) hHeld ?_
        simp only [Act.put, sjA, sjB, sjC]
        refine wpAnyH_take (i := 5) (oi := ⟨some 97, .move (.tmp 0), 81, "zsortanyfunc.go:414", #[], none⟩) (v := .slice (some ⟨g, o, none⟩) N cap) rfl (by kernel_rfl) (by kernel_rfl) (by kernel_rfl) (fun _ _ _ h => h) (Or.inl ⟨by rfl, fun w' hw' => by (clear hw'; go_simp)⟩) hHeld ?_
        simp only [Act.put, sjA, sjB, sjC]
        refine wpAnyH_take (i := 6) (oi := ⟨some 98, .move (.tmp 16), 3, "zsortanyfunc.go:414", #[], none⟩) (v := .int .i64 (h : Int)) rfl (by kernel_rfl) (by kernel_rfl) (by kernel_rfl) (fun _ _ _ h => h) (Or.inl ⟨by rfl, fun w' hw' => by (clear hw'; go_simp)⟩) hHeld ?_
        simp only [Act.put, sjA, sjB, sjC]
        refine wpAnyH_take (i := 7) (oi := ⟨some 99, .indexAddr 81 (.tmp 97) (.tmp 98), 0, "zsortanyfunc.go:414", #[⟨5, .data⟩, ⟨6, .data⟩], none⟩) (v := .pointer (some ⟨g, o + h * 35, none⟩)) rfl (by kernel_rfl) (by kernel_rfl) (by kernel_rfl) (fun _ _ _ h => h) (Or.inl ⟨by rfl, fun w' hw' => by (clear hw'; go_simp)⟩) hHeld ?_
        simp only [Act.put, sjA, sjB, sjC]
        refine wpAnyH_take (i := 8) (oi := ⟨some 100, .load 155 (.tmp 99), 155, "zsortanyfunc.go:414", #[⟨7, .data⟩], none⟩) (v := .agg cy.toArray) rfl (by kernel_rfl) (by kernel_rfl) (by kernel_rfl) (fun _ _ _ h => h) (yieldsIf_load_mid (by rfl) _ _ rfl g (o + h * 35) rfl cy _ (Hy.out) Tryz.underlying155 rfl HIy.out) hHeld ?_
        simp only [Act.put, sjA, sjB, sjC]
        refine wpAnyH_ready (rs := [9]) (by kernel_rfl) (by simp) ?_
        refine AllReadyH.cons (o := ⟨some 101, .call { callee := Callee.value (.tmp 92), args := #[.tmp 96, .tmp 100], argTypes := #[155, 155] }, 3, "zsortanyfunc.go:414", #[⟨0, .data⟩, ⟨4, .data⟩, ⟨8, .data⟩], none⟩) rfl (fun K hK => ?_) AllReadyH.nil
        go_simp
        refine (HCMP.out _).mono ?_
        rintro e w3 ⟨rfl, h3⟩
        have HK3 : Hid (Kp No wr w3) := (Kp.refl No wr).drew.andNone (Kp.below h3)
        clear h3
        go_wp2_with fail
        refine hK.out _ _ (HK3.out) (fun hh => ?_)
        clear hK K hHeld
        have hHeld := hh
        clear hh
        try simp only [Act.put, sjA, sjB, sjC]
        refine wpAnyH_take (i := 10) (oi := ⟨some 102, .binOp BinOp.lss 3 (.tmp 101) (Operand.const (Value.int IntKind.i64 0)) 3, 4, "zsortanyfunc.go:414", #[⟨9, .data⟩], none⟩) (v := .bool true) rfl (by kernel_rfl) (by kernel_rfl) (by kernel_rfl) (fun _ _ _ h => h) (Or.inl ⟨by rfl, fun w' hw' => by (clear hw'; go_simp)⟩) hHeld ?_
        simp only [Act.put, sjA, sjB, sjC]
        refine wpAnyH_take (i := 11) (oi := ⟨some 103, .unOp UnOp.not 4 (.tmp 102), 4, "zsortanyfunc.go:414", #[⟨10, .data⟩], none⟩) (v := .bool false) rfl (by kernel_rfl) (by kernel_rfl) (by kernel_rfl) (fun _ _ _ h => h) (Or.inl ⟨by rfl, fun w' hw' => by (clear hw'; go_simp)⟩) hHeld ?_
        simp only [Act.put, sjA, sjB, sjC]
        refine wpAnyH_done (by kernel_rfl) ?_ _
        have HA3 := hid (HAA.out.kept HK3.out)
        clear hHeld HK3 HCMP Hx Hy HIx HIy HAA
        go_wp2_with fail
        go_round
        case rel => exact ⟨i, h, rfl, rfl, hmi, by omega, by omega, HH2.out, HA3.out⟩
        case measure => simp [intOf]; omega
      · have hls : lexB x.1 y.1 = false := by
          cases hb : lexB x.1 y.1 with
          | false => rfl
          | true => exact absurd (HCV.out.2 hb) hz
        have HH2 := hid (HYES.out hls)
        clear HYES HNO HCV hls
        refine wp_region_held_drew (S := fun V => Kp No wr V) (by kernel_rfl) ((Kp.refl _ _).drew) (fun hHeld => ?_)
        refine wpAnyH_take (i := 0) (oi := ⟨some 92, .move (.tmp 4), 222, "zsortanyfunc.go:414", #[], none⟩) (v := .func (.func 133) #[] #[]) rfl (by kernel_rfl) (by kernel_rfl) (by kernel_rfl) (fun _ _ _ h => h) (Or.inl ⟨by rfl, fun w' hw' => by (clear hw'; go_simp)⟩) hHeld ?_
        simp only [Act.put, sjA, sjB, sjC]
        refine wpAnyH_take (i := 1) (oi := ⟨some 93, .move (.tmp 0), 81, "zsortanyfunc.go:414", #[], none⟩) (v := .slice (some ⟨g, o, none⟩) N cap) rfl (by kernel_rfl) (by kernel_rfl) (by kernel_rfl) (fun _ _ _ h => h) (Or.inl ⟨by rfl, fun w' hw' => by (clear hw'; go_simp)⟩) hHeld ?_
        simp only [Act.put, sjA, sjB, sjC]
        refine wpAnyH_take (i := 2) (oi := ⟨some 94, .move (.tmp 2), 3, "zsortanyfunc.go:414", #[], none⟩) (v := .int .i64 (m : Int)) rfl (by kernel_rfl) (by kernel_rfl) (by kernel_rfl) (fun _ _ _ h => h) (Or.inl ⟨by rfl, fun w' hw' => by (clear hw'; go_simp)⟩) hHeld ?_
        simp only [Act.put, sjA, sjB, sjC]
        refine wpAnyH_take (i := 3) (oi := ⟨some 95, .indexAddr 81 (.tmp 93) (.tmp 94), 0, "zsortanyfunc.go:414", #[⟨1, .data⟩, ⟨2, .data⟩], none⟩) (v := .pointer (some ⟨g, o + m * 35, none⟩)) rfl (by kernel_rfl) (by kernel_rfl) (by kernel_rfl) (fun _ _ _ h => h) (Or.inl ⟨by rfl, fun w' hw' => by (clear hw'; go_simp)⟩) hHeld ?_
        simp only [Act.put, sjA, sjB, sjC]
        refine wpAnyH_take (i := 4) (oi := ⟨some 96, .load 155 (.tmp 95), 155, "zsortanyfunc.go:414", #[⟨3, .data⟩], none⟩) (v := .agg cx.toArray) rfl (by kernel_rfl) (by kernel_rfl) (by kernel_rfl) (fun _ _ _ h => h) (yieldsIf_load_mid (by rfl) _ _ rfl g (o + m * 35) rfl cx _ (Hx.out) Tryz.underlying155 rfl HIx.out) hHeld ?_
        simp only [Act.put, sjA, sjB, sjC]
        refine wpAnyH_take (i := 5) (oi := ⟨some 97, .move (.tmp 0), 81, "zsortanyfunc.go:414", #[], none⟩) (v := .slice (some ⟨g, o, none⟩) N cap) rfl (by kernel_rfl) (by kernel_rfl) (by kernel_rfl) (fun _ _ _ h => h) (Or.inl ⟨by rfl, fun w' hw' => by (clear hw'; go_simp)⟩) hHeld ?_
        simp only [Act.put, sjA, sjB, sjC]
        refine wpAnyH_take (i := 6) (oi := ⟨some 98, .move (.tmp 16), 3, "zsortanyfunc.go:414", #[], none⟩) (v := .int .i64 (h : Int)) rfl (by kernel_rfl) (by kernel_rfl) (by kernel_rfl) (fun _ _ _ h => h) (Or.inl ⟨by rfl, fun w' hw' => by (clear hw'; go_simp)⟩) hHeld ?_
        simp only [Act.put, sjA, sjB, sjC]
        refine wpAnyH_take (i := 7) (oi := ⟨some 99, .indexAddr 81 (.tmp 97) (.tmp 98), 0, "zsortanyfunc.go:414", #[⟨5, .data⟩, ⟨6, .data⟩], none⟩) (v := .pointer (some ⟨g, o + h * 35, none⟩)) rfl (by kernel_rfl) (by kernel_rfl) (by kernel_rfl) (fun _ _ _ h => h) (Or.inl ⟨by rfl, fun w' hw' => by (clear hw'; go_simp)⟩) hHeld ?_
        simp only [Act.put, sjA, sjB, sjC]
        refine wpAnyH_take (i := 8) (oi := ⟨some 100, .load 155 (.tmp 99), 155, "zsortanyfunc.go:414", #[⟨7, .data⟩], none⟩) (v := .agg cy.toArray) rfl (by kernel_rfl) (by kernel_rfl) (by kernel_rfl) (fun _ _ _ h => h) (yieldsIf_load_mid (by rfl) _ _ rfl g (o + h * 35) rfl cy _ (Hy.out) Tryz.underlying155 rfl HIy.out) hHeld ?_
        simp only [Act.put, sjA, sjB, sjC]
        refine wpAnyH_ready (rs := [9]) (by kernel_rfl) (by simp) ?_
        refine AllReadyH.cons (o := ⟨some 101, .call { callee := Callee.value (.tmp 92), args := #[.tmp 96, .tmp 100], argTypes := #[155, 155] }, 3, "zsortanyfunc.go:414", #[⟨0, .data⟩, ⟨4, .data⟩, ⟨8, .data⟩], none⟩) rfl (fun K hK => ?_) AllReadyH.nil
        go_simp
        refine (HCMP.out _).mono ?_
        rintro e w3 ⟨rfl, h3⟩
        have HK3 : Hid (Kp No wr w3) := (Kp.refl No wr).drew.andNone (Kp.below h3)
        clear h3
        go_wp2_with fail
        refine hK.out _ _ (HK3.out) (fun hh => ?_)
        clear hK K hHeld
        have hHeld := hh
        clear hh
        try simp only [Act.put, sjA, sjB, sjC]
        refine wpAnyH_take (i := 10) (oi := ⟨some 102, .binOp BinOp.lss 3 (.tmp 101) (Operand.const (Value.int IntKind.i64 0)) 3, 4, "zsortanyfunc.go:414", #[⟨9, .data⟩], none⟩) (v := .bool false) rfl (by kernel_rfl) (by kernel_rfl) (by kernel_rfl) (fun _ _ _ h => h) (Or.inl ⟨by rfl, fun w' hw' => by (clear hw'; go_simp)⟩) hHeld ?_
        simp only [Act.put, sjA, sjB, sjC]
        refine wpAnyH_take (i := 11) (oi := ⟨some 103, .unOp UnOp.not 4 (.tmp 102), 4, "zsortanyfunc.go:414", #[⟨10, .data⟩], none⟩) (v := .bool true) rfl (by kernel_rfl) (by kernel_rfl) (by kernel_rfl) (fun _ _ _ h => h) (Or.inl ⟨by rfl, fun w' hw' => by (clear hw'; go_simp)⟩) hHeld ?_
        simp only [Act.put, sjA, sjB, sjC]
        refine wpAnyH_done (by kernel_rfl) ?_ _
        have HA3 := hid (HAA.out.kept HK3.out)
        clear hHeld HK3 HCMP Hx Hy HIx HIy HAA
        go_wp2_with fail
        go_round
        case rel => exact ⟨h + 1, j, by go_num, rfl, by omega, by omega, hjb, HH2.out, HA3.out⟩
        case measure => simp [intOf]; omega
    · have hltI : ¬ (i : Int) < (j : Int) := by omega
      obtain ⟨hHf, hA⟩ := HS.out
      have hji : j = i := by omega
      rw [hji] at hHf
      obtain ⟨hlo, hhi⟩ := hHf.end
      have hMrg := Mrg.one_last (key := ky) lexOrd (x := x) (a1 := A.take (i - a)) (a2 := A.drop (i - a)) (fun y hy => by simpa using hlo y hy) (fun y hy => by simpa using hhi y hy) (by rw [List.take_append_drop]; exact HSRT.out)
      rw [List.take_append_drop] at hMrg
      have HU0 : Hid (DnSt L (A.take (i - a)) (A.drop (i - a)) R x m D) := ⟨A.drop (i - a), [], by simp, by have := HLB.out; rw [List.length_take, List.length_drop]; omega, by rw [← HD.out, ← List.append_assoc (A.take (i - a)), List.take_append_drop]; simp⟩
      have HLE : Hid (L.length + (A.take (i - a)).length = i) := by have := HLB.out; rw [Hid, List.length_take]; omega
      have HMG := hid hMrg
      have HAA := hid hA
      clear hHf hA hlo hhi hMrg hji HS
      go_wp2_with fail
      go_loopw [17] (fun v13 wr => ∃ k : Nat, v13 = .int .i64 (k : Int) ∧ i ≤ k ∧ k ≤ m ∧ Hid (∃ D, DnSt L (A.take (i - a)) (A.drop (i - a)) R x k D ∧ At w g o D wr)) (fun v13 _ => (intOf v13).toNat)
      case atStart => exact ⟨m, rfl, by omega, Nat.le_refl _, D, HU0.out, HAA.out⟩
      case round =>
        obtain ⟨k, rfl, hka, hki, HK⟩ := hrel
        by_cases hlk : i < k
        · have hlkI : (i : Int) < (k : Int) := by omega
          obtain ⟨E, hU, hA⟩ := HK.out
          have hlE := HLE.out
          obtain ⟨hst, ⟨y, hy⟩, hx⟩ := hU.step (by omega)
          obtain ⟨k1, hk1⟩ : ∃ k1, k - 1 = k1 := ⟨_, rfl⟩
          rw [hk1] at hst hy
          have hwk : IntKind.i64.wrap ((k : Int) - 1) = (k1 : Int) := by rw [IntKind.wrap_i64]; omega
          have hkN : (k : Int) < (N : Int) := by omega
          have hk1N : (k1 : Int) < (N : Int) := by omega
          have HJM : Hid (i ≤ k1 ∧ k1 ≤ m ∧ k1 < k) := by rw [Hid]; omega
          obtain ⟨hox, hoy, hrx, hry, ht1, ht2, hfin⟩ := swap2_at hA hx hy
          have HFIN := hid hfin
          have HST2 := hid hst
          have HT1 := hid ht1
          have HT2 := hid ht2
          have HIx := hid (inf hox)
          have HIy := hid (inf hoy)
          have HAx := hid (infA hox)
          have HAy := hid (infA hoy)
          have HOx := hid (all_oneCell_toArray (entC_one x))
          have HOy := hid (all_oneCell_toArray (entC_one y))
          have Hx := hid hrx
          have Hy := hid hry
          generalize entC x = cx at *
          generalize entC y = cy at *
          clear hst hy hx hk1 hox hoy hrx hry ht1 ht2 hfin hU hA hlE
          go_wp2_with fail
          refine wp_region_held_drew (S := fun _ => True) (by kernel_rfl) trivial (fun hHeld => ?_)
          refine wpAnyH_take (i := 0) (oi := ⟨some 113, .move (.tmp 0), 81, "zsortanyfunc.go:422", #[], none⟩) (v := .slice (some ⟨g, o, none⟩) N cap) rfl (by kernel_rfl) (by kernel_rfl) (by kernel_rfl) (fun _ _ _ h => h) (Or.inl ⟨by rfl, fun w' hw' => by (clear hw'; go_simp)⟩) hHeld ?_
          simp only [Act.put, sjA, sjB, sjC]
          refine wpAnyH_take (i := 1) (oi := ⟨some 114, .move (.tmp 17), 3, "zsortanyfunc.go:422", #[], none⟩) (v := .int .i64 (k : Int)) rfl (by kernel_rfl) (by kernel_rfl) (by kernel_rfl) (fun _ _ _ h => h) (Or.inl ⟨by rfl, fun w' hw' => by (clear hw'; go_simp)⟩) hHeld ?_
          simp only [Act.put, sjA, sjB, sjC]
          refine wpAnyH_take (i := 2) (oi := ⟨some 115, .move (.tmp 0), 81, "zsortanyfunc.go:422", #[⟨15, .gcOnly .lateStores⟩], none⟩) (v := .slice (some ⟨g, o, none⟩) N cap) rfl (by kernel_rfl) (by kernel_rfl) (by kernel_rfl) (fun _ _ _ h => h) (Or.inl ⟨by rfl, fun w' hw' => by (clear hw'; go_simp)⟩) hHeld ?_
          simp only [Act.put, sjA, sjB, sjC]
          refine wpAnyH_take (i := 3) (oi := ⟨some 116, .move (.tmp 17), 3, "zsortanyfunc.go:422", #[⟨15, .gcOnly .lateStores⟩], none⟩) (v := .int .i64 (k : Int)) rfl (by kernel_rfl) (by kernel_rfl) (by kernel_rfl) (fun _ _ _ h => h) (Or.inl ⟨by rfl, fun w' hw' => by (clear hw'; go_simp)⟩) hHeld ?_
          simp only [Act.put, sjA, sjB, sjC]
          refine wpAnyH_take (i := 4) (oi := ⟨some 117, .binOp BinOp.sub 3 (.tmp 116) (Operand.const (Value.int IntKind.i64 1)) 3, 3, "zsortanyfunc.go:422", #[⟨3, .data⟩, ⟨15, .gcOnly .lateStores⟩], none⟩) (v := .int .i64 (k1 : Int)) rfl (by kernel_rfl) (by kernel_rfl) (by kernel_rfl) (fun _ _ _ h => h) (Or.inl ⟨by rfl, fun w' hw' => by (clear hw'; go_simp)⟩) hHeld ?_
          simp only [Act.put, sjA, sjB, sjC]
          refine wpAnyH_take (i := 5) (oi := ⟨some 118, .move (.tmp 0), 81, "zsortanyfunc.go:422", #[], none⟩) (v := .slice (some ⟨g, o, none⟩) N cap) rfl (by kernel_rfl) (by kernel_rfl) (by kernel_rfl) (fun _ _ _ h => h) (Or.inl ⟨by rfl, fun w' hw' => by (clear hw'; go_simp)⟩) hHeld ?_
          simp only [Act.put, sjA, sjB, sjC]
          refine wpAnyH_take (i := 6) (oi := ⟨some 119, .move (.tmp 17), 3, "zsortanyfunc.go:422", #[], none⟩) (v := .int .i64 (k : Int)) rfl (by kernel_rfl) (by kernel_rfl) (by kernel_rfl) (fun _ _ _ h => h) (Or.inl ⟨by rfl, fun w' hw' => by (clear hw'; go_simp)⟩) hHeld ?_
          simp only [Act.put, sjA, sjB, sjC]
          refine wpAnyH_take (i := 7) (oi := ⟨some 120, .binOp BinOp.sub 3 (.tmp 119) (Operand.const (Value.int IntKind.i64 1)) 3, 3, "zsortanyfunc.go:422", #[⟨6, .data⟩], none⟩) (v := .int .i64 (k1 : Int)) rfl (by kernel_rfl) (by kernel_rfl) (by kernel_rfl) (fun _ _ _ h => h) (Or.inl ⟨by rfl, fun w' hw' => by (clear hw'; go_simp)⟩) hHeld ?_
          simp only [Act.put, sjA, sjB, sjC]
          refine wpAnyH_take (i := 8) (oi := ⟨some 121, .indexAddr 81 (.tmp 118) (.tmp 120), 0, "zsortanyfunc.go:422", #[⟨5, .data⟩, ⟨7, .data⟩], none⟩) (v := .pointer (some ⟨g, o + k1 * 35, none⟩)) rfl (by kernel_rfl) (by kernel_rfl) (by kernel_rfl) (fun _ _ _ h => h) (Or.inl ⟨by rfl, fun w' hw' => by (clear hw'; go_simp)⟩) hHeld ?_
          simp only [Act.put, sjA, sjB, sjC]
          refine wpAnyH_take (i := 10) (oi := ⟨some 123, .move (.tmp 0), 81, "zsortanyfunc.go:422", #[], none⟩) (v := .slice (some ⟨g, o, none⟩) N cap) rfl (by kernel_rfl) (by kernel_rfl) (by kernel_rfl) (fun _ _ _ h => h) (Or.inl ⟨by rfl, fun w' hw' => by (clear hw'; go_simp)⟩) hHeld ?_
          simp only [Act.put, sjA, sjB, sjC]
          refine wpAnyH_take (i := 11) (oi := ⟨some 124, .move (.tmp 17), 3, "zsortanyfunc.go:422", #[], none⟩) (v := .int .i64 (k : Int)) rfl (by kernel_rfl) (by kernel_rfl) (by kernel_rfl) (fun _ _ _ h => h) (Or.inl ⟨by rfl, fun w' hw' => by (clear hw'; go_simp)⟩) hHeld ?_
          simp only [Act.put, sjA, sjB, sjC]
          refine wpAnyH_take (i := 12) (oi := ⟨some 125, .indexAddr 81 (.tmp 123) (.tmp 124), 0, "zsortanyfunc.go:422", #[⟨10, .data⟩, ⟨11, .data⟩], none⟩) (v := .pointer (some ⟨g, o + k * 35, none⟩)) rfl (by kernel_rfl) (by kernel_rfl) (by kernel_rfl) (fun _ _ _ h => h) (Or.inl ⟨by rfl, fun w' hw' => by (clear hw'; go_simp)⟩) hHeld ?_
          simp only [Act.put, sjA, sjB, sjC]
          refine wpAnyH_ready (rs := [9, 13]) (by kernel_rfl) (by simp) ?_
          refine AllReadyH.cons (o := ⟨some 122, .load 155 (.tmp 121), 155, "zsortanyfunc.go:422", #[⟨8, .data⟩], none⟩) rfl (fun K hK => ?_) (AllReadyH.cons (o := ⟨some 126, .load 155 (.tmp 125), 155, "zsortanyfunc.go:422", #[⟨12, .data⟩], none⟩) rfl (fun K hK => ?_) AllReadyH.nil)
          · rw [if_pos (by rfl)]
            refine wp_load_mid 155 _ (by rfl) g (o + k1 * 35) (by rfl) cy _ (Hy.out _ ((Kp.refl No _).drew)) Tryz.underlying155 rfl HIy.out ?_
            refine hK.out _ _ trivial (fun hh => ?_)
            clear hK K hHeld
            have hHeld := hh
            clear hh
            try simp only [Act.put, sjA, sjB, sjC]
            refine wpAnyH_ready (rs := [13]) (by kernel_rfl) (by simp) ?_
            refine AllReadyH.cons (o := ⟨some 126, .load 155 (.tmp 125), 155, "zsortanyfunc.go:422", #[⟨12, .data⟩], none⟩) rfl (fun K hK => ?_) AllReadyH.nil
            rw [if_pos (by rfl)]
            refine wp_load_mid 155 _ (by rfl) g (o + k * 35) (by rfl) cx _ (Hx.out _ ((Kp.refl No _).drew)) Tryz.underlying155 rfl HIx.out ?_
            refine hK.out _ _ trivial (fun hh => ?_)
            clear hK K hHeld
            have hHeld := hh
            clear hh
            try simp only [Act.put, sjA, sjB, sjC]
            refine wpAnyH_take (i := 14) (oi := ⟨some 127, .indexAddr 81 (.tmp 113) (.tmp 114), 0, "zsortanyfunc.go:422", #[⟨0, .data⟩, ⟨1, .data⟩, ⟨0, .phase⟩, ⟨1, .phase⟩, ⟨2, .textOnly .lateStores⟩, ⟨3, .textOnly .lateStores⟩, ⟨4, .textOnly .lateStores⟩, ⟨5, .phase⟩, ⟨6, .phase⟩, ⟨7, .phase⟩, ⟨8, .phase⟩, ⟨9, .phase⟩, ⟨10, .textOnly .lateStores⟩, ⟨11, .textOnly .lateStores⟩, ⟨12, .textOnly .lateStoresUnsure⟩, ⟨13, .phase⟩], none⟩) (v := .pointer (some ⟨g, o + k * 35, none⟩)) rfl (by kernel_rfl) (by kernel_rfl) (by kernel_rfl) (fun _ _ _ h => h) (Or.inl ⟨by rfl, fun w' hw' => by (clear hw'; go_simp)⟩) hHeld ?_
            simp only [Act.put, sjA, sjB, sjC]
            refine wpAnyH_ready (rs := [15]) (by kernel_rfl) (by simp) ?_
            refine AllReadyH.cons (o := ⟨none, .store 155 (.tmp 127) (.tmp 122), 0, "zsortanyfunc.go:422", #[⟨14, .data⟩, ⟨9, .data⟩, ⟨0, .phase⟩, ⟨1, .phase⟩, ⟨2, .textOnly .lateStores⟩, ⟨3, .textOnly .lateStores⟩, ⟨4, .textOnly .lateStores⟩, ⟨5, .phase⟩, ⟨6, .phase⟩, ⟨7, .phase⟩, ⟨8, .phase⟩, ⟨9, .phase⟩, ⟨10, .textOnly .lateStores⟩, ⟨11, .textOnly .lateStores⟩, ⟨12, .textOnly .lateStoresUnsure⟩, ⟨13, .phase⟩], none⟩) rfl (fun K hK => ?_) AllReadyH.nil
            rw [if_pos (by rfl)]
            refine wp_store_mid 155 _ _ (by rfl) g (o + k * 35) cy.toArray (by rfl) (by rfl) HT1.out HAy.out HOy.out ?_
            refine hK.out _ _ trivial (fun hh => ?_)
            clear hK K hHeld
            have hHeld := hh
            clear hh
            simp only [Act.put]
            refine wpAnyH_take (i := 16) (oi := ⟨some 128, .indexAddr 81 (.tmp 115) (.tmp 117), 0, "zsortanyfunc.go:422", #[⟨2, .data⟩, ⟨4, .data⟩, ⟨0, .phase⟩, ⟨1, .phase⟩, ⟨2, .phase⟩, ⟨3, .phase⟩, ⟨4, .phase⟩, ⟨5, .phase⟩, ⟨6, .phase⟩, ⟨7, .phase⟩, ⟨8, .phase⟩, ⟨9, .phase⟩, ⟨10, .phase⟩, ⟨11, .phase⟩, ⟨12, .phase⟩, ⟨13, .phase⟩, ⟨14, .phase⟩, ⟨15, .phase⟩], none⟩) (v := .pointer (some ⟨g, o + k1 * 35, none⟩)) rfl (by kernel_rfl) (by kernel_rfl) (by kernel_rfl) (fun _ _ _ h => h) (Or.inl ⟨by rfl, fun w' hw' => by (clear hw'; go_simp)⟩) hHeld ?_
            simp only [Act.put, sjA, sjB, sjC]
            refine wpAnyH_ready (rs := [17]) (by kernel_rfl) (by simp) ?_
            refine AllReadyH.cons (o := ⟨none, .store 155 (.tmp 128) (.tmp 126), 0, "zsortanyfunc.go:422", #[⟨16, .data⟩, ⟨13, .data⟩, ⟨15, .chain⟩, ⟨0, .phase⟩, ⟨1, .phase⟩, ⟨2, .phase⟩, ⟨3, .phase⟩, ⟨4, .phase⟩, ⟨5, .phase⟩, ⟨6, .phase⟩, ⟨7, .phase⟩, ⟨8, .phase⟩, ⟨9, .phase⟩, ⟨10, .phase⟩, ⟨11, .phase⟩, ⟨12, .phase⟩, ⟨13, .phase⟩, ⟨14, .phase⟩, ⟨15, .phase⟩], none⟩) rfl (fun K hK => ?_) AllReadyH.nil
            rw [if_pos (by rfl)]
            refine wp_store_mid 155 _ _ (by rfl) g (o + k1 * 35) cx.toArray (by rfl) (by rfl) HT2.out HAx.out HOx.out ?_
            refine hK.out _ _ trivial (fun hh => ?_)
            clear hK K hHeld
            have hHeld := hh
            clear hh
            simp only [Act.put]
            refine wpAnyH_done (by kernel_rfl) ?_ _
            go_wp2_with fail
            go_round
            case rel => exact ⟨k1, rfl, HJM.out.1, HJM.out.2.1, _, HST2.out, HFIN.out⟩
            case measure => simp [intOf]; have := HJM.out; omega
          · rw [if_pos (by rfl)]
            refine wp_load_mid 155 _ (by rfl) g (o + k * 35) (by rfl) cx _ (Hx.out _ ((Kp.refl No _).drew)) Tryz.underlying155 rfl HIx.out ?_
            refine hK.out _ _ trivial (fun hh => ?_)
            clear hK K hHeld
            have hHeld := hh
            clear hh
            try simp only [Act.put, sjA, sjB, sjC]
            refine wpAnyH_ready (rs := [9]) (by kernel_rfl) (by simp) ?_
            refine AllReadyH.cons (o := ⟨some 122, .load 155 (.tmp 121), 155, "zsortanyfunc.go:422", #[⟨8, .data⟩], none⟩) rfl (fun K hK => ?_) AllReadyH.nil
            rw [if_pos (by rfl)]
            refine wp_load_mid 155 _ (by rfl) g (o + k1 * 35) (by rfl) cy _ (Hy.out _ ((Kp.refl No _).drew)) Tryz.underlying155 rfl HIy.out ?_
            refine hK.out _ _ trivial (fun hh => ?_)
            clear hK K hHeld
            have hHeld := hh
            clear hh
            try simp only [Act.put, sjA, sjB, sjC]
            refine wpAnyH_take (i := 14) (oi := ⟨some 127, .indexAddr 81 (.tmp 113) (.tmp 114), 0, "zsortanyfunc.go:422", #[⟨0, .data⟩, ⟨1, .data⟩, ⟨0, .phase⟩, ⟨1, .phase⟩, ⟨2, .textOnly .lateStores⟩, ⟨3, .textOnly .lateStores⟩, ⟨4, .textOnly .lateStores⟩, ⟨5, .phase⟩, ⟨6, .phase⟩, ⟨7, .phase⟩, ⟨8, .phase⟩, ⟨9, .phase⟩, ⟨10, .textOnly .lateStores⟩, ⟨11, .textOnly .lateStores⟩, ⟨12, .textOnly .lateStoresUnsure⟩, ⟨13, .phase⟩], none⟩) (v := .pointer (some ⟨g, o + k * 35, none⟩)) rfl (by kernel_rfl) (by kernel_rfl) (by kernel_rfl) (fun _ _ _ h => h) (Or.inl ⟨by rfl, fun w' hw' => by (clear hw'; go_simp)⟩) hHeld ?_
            simp only [Act.put, sjA, sjB, sjC]
            refine wpAnyH_ready (rs := [15]) (by kernel_rfl) (by simp) ?_
            refine AllReadyH.cons (o := ⟨none, .store 155 (.tmp 127) (.tmp 122), 0, "zsortanyfunc.go:422", #[⟨14, .data⟩, ⟨9, .data⟩, ⟨0, .phase⟩, ⟨1, .phase⟩, ⟨2, .textOnly .lateStores⟩, ⟨3, .textOnly .lateStores⟩, ⟨4, .textOnly .lateStores⟩, ⟨5, .phase⟩, ⟨6, .phase⟩, ⟨7, .phase⟩, ⟨8, .phase⟩, ⟨9, .phase⟩, ⟨10, .textOnly .lateStores⟩, ⟨11, .textOnly .lateStores⟩, ⟨12, .textOnly .lateStoresUnsure⟩, ⟨13, .phase⟩], none⟩) rfl (fun K hK => ?_) AllReadyH.nil
            rw [if_pos (by rfl)]
            refine wp_store_mid 155 _ _ (by rfl) g (o + k * 35) cy.toArray (by rfl) (by rfl) HT1.out HAy.out HOy.out ?_
            refine hK.out _ _ trivial (fun hh => ?_)
            clear hK K hHeld
            have hHeld := hh
            clear hh
            simp only [Act.put]
            refine wpAnyH_take (i := 16) (oi := ⟨some 128, .indexAddr 81 (.tmp 115) (.tmp 117), 0, "zsortanyfunc.go:422", #[⟨2, .data⟩, ⟨4, .data⟩, ⟨0, .phase⟩, ⟨1, .phase⟩, ⟨2, .phase⟩, ⟨3, .phase⟩, ⟨4, .phase⟩, ⟨5, .phase⟩, ⟨6, .phase⟩, ⟨7, .phase⟩, ⟨8, .phase⟩, ⟨9, .phase⟩, ⟨10, .phase⟩, ⟨11, .phase⟩, ⟨12, .phase⟩, ⟨13, .phase⟩, ⟨14, .phase⟩, ⟨15, .phase⟩], none⟩) (v := .pointer (some ⟨g, o + k1 * 35, none⟩)) rfl (by kernel_rfl) (by kernel_rfl) (by kernel_rfl) (fun _ _ _ h => h) (Or.inl ⟨by rfl, fun w' hw' => by (clear hw'; go_simp)⟩) hHeld ?_
            simp only [Act.put, sjA, sjB, sjC]
            refine wpAnyH_ready (rs := [17]) (by kernel_rfl) (by simp) ?_
            refine AllReadyH.cons (o := ⟨none, .store 155 (.tmp 128) (.tmp 126), 0, "zsortanyfunc.go:422", #[⟨16, .data⟩, ⟨13, .data⟩, ⟨15, .chain⟩, ⟨0, .phase⟩, ⟨1, .phase⟩, ⟨2, .phase⟩, ⟨3, .phase⟩, ⟨4, .phase⟩, ⟨5, .phase⟩, ⟨6, .phase⟩, ⟨7, .phase⟩, ⟨8, .phase⟩, ⟨9, .phase⟩, ⟨10, .phase⟩, ⟨11, .phase⟩, ⟨12, .phase⟩, ⟨13, .phase⟩, ⟨14, .phase⟩, ⟨15, .phase⟩], none⟩) rfl (fun K hK => ?_) AllReadyH.nil
            rw [if_pos (by rfl)]
            refine wp_store_mid 155 _ _ (by rfl) g (o + k1 * 35) cx.toArray (by rfl) (by rfl) HT2.out HAx.out HOx.out ?_
            refine hK.out _ _ trivial (fun hh => ?_)
            clear hK K hHeld
            have hHeld := hh
            clear hh
            simp only [Act.put]
            refine wpAnyH_done (by kernel_rfl) ?_ _
            go_wp2_with fail
            go_round
            case rel => exact ⟨k1, rfl, HJM.out.1, HJM.out.2.1, _, HST2.out, HFIN.out⟩
            case measure => simp [intOf]; have := HJM.out; omega
        · have hlkI : ¬ (i : Int) < (k : Int) := by omega
          go_wp2_with fail
          first | (refine bodyPost_ret (results_none rfl _ _ _) rfl ?_) | (simp only [Exit.inBlock, Exit.then]; refine bodyPost_ret (results_none rfl _ _ _) rfl ?_)
          obtain ⟨E, hU, hA⟩ := HK.out
          have hlE := HLE.out
          obtain ⟨S, T, e1, e2, e3⟩ := hU
          have hS : S = [] := List.length_eq_zero_iff.1 (by omega)
          subst hS
          rw [List.nil_append] at e1
          refine ⟨rfl, _, HMG.out, ?_⟩
          rw [e1]
          rw [e3] at hA
          simpa using hA
end Go.Proofs.YthmimipoooemjaaGreatDoor.Sg
end

section
/-
  Two sorted ranges that stand side by side are merged in place.
-/
namespace Go.Proofs.YthmimipoooemjaaGreatDoor.Sg
open Go.RowKit
open Stb (Stab Srt Mrg Lts Les)
open Sim (hid Kp No)

/-- A search by halves among numbers. -/
structure HalfN (P : Nat → Bool) (lo hi i j : Nat) : Prop where
  le1 : lo ≤ i
  le : i ≤ j
  le2 : j ≤ hi
  yes : ∀ t, lo ≤ t → t < i → P t = true
  no : ∀ t, j ≤ t → t < hi → P t = false
theorem HalfN.up {P : Nat → Bool} {lo hi i j c : Nat} (H : HalfN P lo hi i j) (h1 : i ≤ c) (h2 : c < j) (hp : P c = true) (mono : ∀ t u, lo ≤ t → t ≤ u → u < hi → P u = true → P t = true) : HalfN P lo hi (c + 1) j :=
  ⟨by have := H.le1; omega, by omega, H.le2, fun t a b => mono t c a (by omega) (by have := H.le2; omega) hp, H.no⟩
theorem HalfN.dn {P : Nat → Bool} {lo hi i j c : Nat} (H : HalfN P lo hi i j) (h1 : i ≤ c) (h2 : c < j) (hp : P c = false) (mono : ∀ t u, lo ≤ t → t ≤ u → u < hi → P u = true → P t = true) : HalfN P lo hi i c :=
  ⟨H.le1, h1, by have := H.le2; omega, H.yes, fun t a b => by
    cases hpt : P t with
    | false => rfl
    | true => rw [mono c t (by have := H.le1; omega) a b hpt] at hp; cases hp⟩

theorem mrg_nil_right {A : List Ent} (h : Srt ky lexB A) : Mrg ky lexB A [] A := ⟨by rw [List.append_nil]; exact Stab.refl _, h⟩
theorem mrg_nil_left {A : List Ent} (h : Srt ky lexB A) : Mrg ky lexB [] A A := ⟨Stab.refl _, h⟩
theorem srt_le {B : List Ent} (hs : Srt ky lexB B) {t u : Nat} {x y : Ent} (htu : t ≤ u) (hx : B[t]? = some x) (hy : B[u]? = some y) : lexB y.1 x.1 = false := by
  by_cases e : t = u
  · subst e; rw [hx] at hy; cases hy; exact lexB_irr _
  · obtain ⟨hu1, hu2⟩ := List.getElem?_eq_some_iff.1 hy
    obtain ⟨ht1, ht2⟩ := List.getElem?_eq_some_iff.1 hx
    have := List.pairwise_iff_getElem.1 hs t u ht1 hu1 (by omega)
    rw [ht2, hu2] at this
    exact this

/-- What is asked of c: that the one at c stands not behind its fellow. -/
def askP (A B : List Ent) (a m p : Nat) (c : Nat) : Bool := !lexB ((B.getD (p - c - m) zEnt).1) ((A.getD (c - a) zEnt).1)

section
variable {A B : List Ent} {a m b mid lo hi : Nat}
/-- The numbers of a merge. -/
structure Nums (A B : List Ent) (a m b mid lo hi : Nat) : Prop where
  am : a + A.length = m
  mb : m + B.length = b
  mid2 : mid = (a + b) / 2
  A2 : 1 < A.length
  B2 : 1 < B.length
  lohi : (mid < m ∧ lo = mid + m - b ∧ hi = mid) ∨ (m ≤ mid ∧ lo = a ∧ hi = m)
theorem Nums.rng (h : Nums A B a m b mid lo hi) : a ≤ lo ∧ lo ≤ hi ∧ hi ≤ m ∧ hi ≤ mid ∧ a < mid ∧ mid < b := by
  have := h.am; have := h.mb; have := h.mid2; have := h.A2; have := h.B2; have := h.lohi
  omega
theorem Nums.ix (h : Nums A B a m b mid lo hi) {c : Nat} (h1 : lo ≤ c) (h2 : c < hi) : c - a < A.length ∧ m ≤ mid + m - 1 - c ∧ mid + m - 1 - c - m < B.length ∧ a ≤ c ∧ c < m ∧ mid + m - 1 - c < b := by
  have := h.am; have := h.mb; have := h.mid2; have := h.A2; have := h.B2; have := h.lohi
  omega
theorem getD_of {l : List Ent} {i : Nat} (h : i < l.length) : l[i]? = some (l.getD i zEnt) := by rw [List.getD_eq_getElem?_getD, List.getElem?_eq_getElem h]; rfl
theorem Nums.mono (h : Nums A B a m b mid lo hi) (sa : Srt ky lexB A) (sb : Srt ky lexB B) : ∀ t u, lo ≤ t → t ≤ u → u < hi → askP A B a m (mid + m - 1) u = true → askP A B a m (mid + m - 1) t = true := fun t u h1 h2 h3 hp => by
  have i1 := h.ix h1 (Nat.lt_of_le_of_lt h2 h3)
  have i2 := h.ix (Nat.le_trans h1 h2) h3
  have k1 := srt_le sa (t := t - a) (u := u - a) (by omega) (getD_of i1.1) (getD_of i2.1)
  have k2 := srt_le sb (t := mid + m - 1 - u - m) (u := mid + m - 1 - t - m) (by omega) (getD_of i2.2.2.1) (getD_of i1.2.2.1)
  unfold askP at hp ⊢
  have hp' : lexB ((B.getD (mid + m - 1 - u - m) zEnt).1) ((A.getD (u - a) zEnt).1) = false := by simpa using hp
  have := lexOrd.le_le k1 (lexOrd.le_le hp' k2)
  simpa using this
/-- Where the search ends both are cut well. -/
theorem Nums.cut (h : Nums A B a m b mid lo hi) (sa : Srt ky lexB A) (sb : Srt ky lexB B) {s : Nat} (H : HalfN (askP A B a m (mid + m - 1)) lo hi s s) :
    Lts ky lexB (B.take (mid - s)) (A.drop (s - a)) ∧ Les ky lexB (A.take (s - a)) (B.drop (mid - s)) ∧ s - a ≤ A.length ∧ mid - s ≤ B.length ∧ a ≤ s ∧ s ≤ m ∧ s ≤ mid ∧ mid + m - s ≤ b := by
  have r := h.rng
  have am := h.am
  have mb := h.mb
  have hl := h.lohi
  have hm2 := h.mid2
  have hA2 := h.A2
  have hB2 := h.B2
  have l1 := H.le1
  have l2 := H.le2
  refine ⟨fun y hy x hx => ?_, fun x hx y hy => ?_, by omega, by omega, by omega, by omega, by omega, by omega⟩
  · obtain ⟨v, hv⟩ := List.mem_iff_getElem?.1 hy
    obtain ⟨u, hu⟩ := List.mem_iff_getElem?.1 hx
    have hvl : v < mid - s := by have := (List.getElem?_eq_some_iff.1 hv).1; rw [List.length_take] at this; omega
    rw [List.getElem?_take_of_lt hvl] at hv
    rw [List.getElem?_drop] at hu
    have hul := (List.getElem?_eq_some_iff.1 hu).1
    by_cases hs : s < hi
    · have hn := H.no s (Nat.le_refl _) hs
      have ix := h.ix l1 hs
      unfold askP at hn
      have hn' : lexB ((B.getD (mid + m - 1 - s - m) zEnt).1) ((A.getD (s - a) zEnt).1) = true := by simpa using hn
      have k1 := srt_le sb (t := v) (u := mid + m - 1 - s - m) (by omega) hv (getD_of ix.2.2.1)
      have k2 := srt_le sa (t := s - a) (u := s - a + u) (by omega) (getD_of ix.1) hu
      exact lexOrd.le_lt k1 (lexOrd.lt_le hn' k2)
    · omega
  · obtain ⟨u, hu⟩ := List.mem_iff_getElem?.1 hx
    obtain ⟨v, hv⟩ := List.mem_iff_getElem?.1 hy
    have hul : u < s - a := by have := (List.getElem?_eq_some_iff.1 hu).1; rw [List.length_take] at this; omega
    rw [List.getElem?_take_of_lt hul] at hu
    rw [List.getElem?_drop] at hv
    have hvl := (List.getElem?_eq_some_iff.1 hv).1
    by_cases hs : lo < s
    · have hn := H.yes (s - 1) (by omega) (by omega)
      have ix := h.ix (c := s - 1) (by omega) (by omega)
      unfold askP at hn
      have hn' : lexB ((B.getD (mid + m - 1 - (s - 1) - m) zEnt).1) ((A.getD (s - 1 - a) zEnt).1) = false := by simpa using hn
      have k1 := srt_le sa (t := u) (u := s - 1 - a) (by omega) hu (getD_of ix.1)
      have k2 := srt_le sb (t := mid + m - 1 - (s - 1) - m) (u := mid - s + v) (by omega) (getD_of ix.2.2.1) hv
      exact lexOrd.le_le k1 (lexOrd.le_le hn' k2)
    · omega
end

/-- What a call of the merge itself is asked to do. -/
def SymOk (K : Nat) : Prop := ∀ (w : World) (g o : Nat) (L A B R : List Ent) (N cap : Nat), A.length + B.length < K → EOwn w g o (L ++ (A ++ (B ++ R))) → (L ++ (A ++ (B ++ R))).length = N → N ≤ 1000000 → Srt ky lexB A → Srt ky lexB B → A ≠ [] → B ≠ [] →
  Calls Tryz.prog 214 #[.slice (some ⟨g, o, none⟩) N cap, .int .i64 (L.length : Int), .int .i64 ((L.length + A.length : Nat) : Int), .int .i64 ((L.length + A.length + B.length : Nat) : Int), cmpV] w fun e w' => e = .returned (.tuple #[]) ∧ ∃ M, Mrg ky lexB A B M ∧ At w g o (L ++ (M ++ R)) w'

set_option maxHeartbeats 8000000 in
set_option maxRecDepth 100000 in
theorem symC_any (w : World) (g o : Nat) (L A B R : List Ent) (N cap : Nat) (h : EOwn w g o (L ++ (A ++ (B ++ R)))) (hN : (L ++ (A ++ (B ++ R))).length = N) (hl : N ≤ 1000000) (sa : Srt ky lexB A) (sb : Srt ky lexB B) (hA1 : 1 < A.length) (hB1 : 1 < B.length) (ih : SymOk (A.length + B.length)) :
    Calls Tryz.prog 214 #[.slice (some ⟨g, o, none⟩) N cap, .int .i64 (L.length : Int), .int .i64 ((L.length + A.length : Nat) : Int), .int .i64 ((L.length + A.length + B.length : Nat) : Int), cmpV] w fun e w' => e = .returned (.tuple #[]) ∧ ∃ M, Mrg ky lexB A B M ∧ At w g o (L ++ (M ++ R)) w' := by
  have H0 := hid (At.start h)
  have hlen : L.length + A.length + B.length + R.length = N := by rw [← hN]; simp; omega
  have HOKA : Hid (∀ z ∈ A, EOk z) := fun z hz => h.1.ok z (by simp [hz])
  have HOKB : Hid (∀ z ∈ B, EOk z) := fun z hz => h.1.ok z (by simp [hz])
  have HDA : Hid (∀ (t : Nat) (z : Ent), A[t]? = some z → (L ++ (A ++ (B ++ R)))[L.length + t]? = some z) := fun t z hz => get_mid hz
  have HDB : Hid (∀ (t : Nat) (z : Ent), B[t]? = some z → (L ++ (A ++ (B ++ R)))[L.length + A.length + t]? = some z) := fun t z hz => by
    have := get_mid (L := L ++ A) (R := R) hz
    simpa [List.append_assoc] using this
  obtain ⟨D, hD⟩ : ∃ D, L ++ (A ++ (B ++ R)) = D := ⟨_, rfl⟩
  rw [hD] at H0 HDA HDB
  have HD := hid hD
  obtain ⟨a, ha⟩ : ∃ a, L.length = a := ⟨_, rfl⟩
  obtain ⟨m, hm⟩ : ∃ m, a + A.length = m := ⟨_, rfl⟩
  obtain ⟨b, hb⟩ : ∃ b, m + B.length = b := ⟨_, rfl⟩
  obtain ⟨mid, hmid⟩ : ∃ mid, (a + b) / 2 = mid := ⟨_, rfl⟩
  obtain ⟨lo, hi, hlohi⟩ : ∃ lo hi, (mid < m ∧ lo = mid + m - b ∧ hi = mid) ∨ (m ≤ mid ∧ lo = a ∧ hi = m) := by
    by_cases hc : mid < m
    · exact ⟨_, _, .inl ⟨hc, rfl, rfl⟩⟩
    · exact ⟨_, _, .inr ⟨by omega, rfl, rfl⟩⟩
  have hNu : Nums A B a m b mid lo hi := ⟨hm, hb, hmid.symm, hA1, hB1, hlohi⟩
  have HNU := hid hNu
  have HMONO := hid (hNu.mono sa sb)
  have HCUT := hid (fun s (H : HalfN (askP A B a m (mid + m - 1)) lo hi s s) => hNu.cut sa sb H)
  have HIX := hid (fun c (h1 : lo ≤ c) (h2 : c < hi) => hNu.ix h1 h2)
  have hr := hNu.rng
  rw [ha, hm, hb]
  rw [ha] at HDA HDB
  rw [hm] at HDB
  have HLA := hid (And.intro ha (And.intro hm hb))
  have HSS := hid (And.intro sa sb)
  have HIH := hid ih
  have hbN : b + R.length = N := by omega
  have HRL := hid hbN
  have hbN2 : b ≤ N := by omega
  obtain ⟨q, hq⟩ : ∃ q, m - a = q := ⟨_, rfl⟩
  obtain ⟨r, hr2⟩ : ∃ r, b - m = r := ⟨_, rfl⟩
  have hw1 : IntKind.i64.wrap ((m : Int) - (a : Int)) = (q : Int) := by rw [IntKind.wrap_i64]; omega
  have hw2 : IntKind.i64.wrap ((b : Int) - (m : Int)) = (r : Int) := by rw [IntKind.wrap_i64]; omega
  have hq1 : ¬ ((q : Int) = 1) := by omega
  have hqb : ((q : Int) == 1) = false := by simp only [beq_eq_false_iff_ne]; exact hq1
  have hr1 : ¬ ((r : Int) = 1) := by omega
  have hrb : ((r : Int) == 1) = false := by simp only [beq_eq_false_iff_ne]; exact hr1
  have hmI : ((a : Int) + (b : Int)) / 2 = (mid : Int) := by omega
  obtain ⟨n, hn⟩ : ∃ n, mid + m = n := ⟨_, rfl⟩
  have hwn : IntKind.i64.wrap ((mid : Int) + (m : Int)) = (n : Int) := by rw [IntKind.wrap_i64]; omega
  obtain ⟨p, hp⟩ : ∃ p, n - 1 = p := ⟨_, rfl⟩
  have hwp : IntKind.i64.wrap ((n : Int) - 1) = (p : Int) := by rw [IntKind.wrap_i64]; omega
  have HNP : Hid (mid + m = n ∧ mid + m - 1 = p) := by rw [Hid]; omega
  have HLH := hid hlohi
  have HNB : Hid (mid < m → IntKind.i64.wrap ((n : Int) - (b : Int)) = (lo : Int)) := fun hc => by
    rw [IntKind.wrap_i64]
    have := HLH.out
    have := hNu.rng
    have := hNu.mid2
    omega
  have habm : a < m ∧ m < b := by omega
  obtain ⟨hr11, hr12, hr13, hr14, hr15, hr16⟩ := hr
  obtain ⟨habm1, habm2⟩ := habm
  clear ha hm hb hmid hlohi hNu h hN hD sa sb ih hlen hbN hq hr2 hn hp hA1 hB1
  unfold cmpV
  go_enter Tryz.func214, Tryz.ntmps214
  go_upto_if 140 with fail
  go_cut [20, 21] (fun s20 s21 wx => s20 = .int .i64 (lo : Int) ∧ s21 = .int .i64 (hi : Int) ∧ w = wx)
  case first =>
    by_cases hc : mid < m
    · have hcI : (mid : Int) < (m : Int) := by omega
      have hnb := HNB.out hc
      have e : hi = mid := by have := HLH.out; omega
      subst e
      go_wp2_with fail
      go_meet
      exact ⟨rfl, rfl, rfl⟩
    · have hcI : ¬ (mid : Int) < (m : Int) := by omega
      have e1 : hi = m := by have := HLH.out; omega
      have e2 : lo = a := by have := HLH.out; omega
      subst e1
      subst e2
      go_wp2_with fail
      go_meet
      exact ⟨rfl, rfl, rfl⟩
  case rest =>
  obtain ⟨rfl, rfl, rfl⟩ := hcut
  clear HNB HLH
  go_wp2_with fail
  go_loopw [20, 21] (fun v20 v21 wr => ∃ (i j : Nat), v20 = .int .i64 (i : Int) ∧ v21 = .int .i64 (j : Int) ∧ lo ≤ i ∧ i ≤ j ∧ j ≤ hi ∧ Hid (HalfN (askP A B a m (mid + m - 1)) lo hi i j ∧ At w g o D wr)) (fun v20 v21 _ => (intOf v21).toNat - (intOf v20).toNat)
  case atStart => exact ⟨lo, hi, rfl, rfl, Nat.le_refl _, hr12, Nat.le_refl _, ⟨Nat.le_refl _, hr12, Nat.le_refl _, fun t h1 h2 => (by omega), fun t h1 h2 => (by omega)⟩, H0.out⟩
  case round =>
    obtain ⟨i, j, rfl, rfl, hi1, hij, hj1, HS⟩ := hrel
    by_cases hlt : i < j
    · as_aux_lemma =>
      have hltI : (i : Int) < (j : Int) := by omega
      obtain ⟨c, hc⟩ : ∃ c, (i + j) / 2 = c := ⟨_, rfl⟩
      have hcI : ((i : Int) + (j : Int)) / 2 = (c : Int) := by omega
      have hic : i ≤ c ∧ c < j := by omega
      obtain ⟨hHf, hA⟩ := HS.out
      have ix := HIX.out c (by omega) (by omega)
      have hnp := HNP.out
      obtain ⟨v, hv⟩ : ∃ v, p - c = v := ⟨_, rfl⟩
      have hwv : IntKind.i64.wrap ((p : Int) - (c : Int)) = (v : Int) := by rw [IntKind.wrap_i64]; omega
      have hvN : (v : Int) < (N : Int) := by omega
      have hcN : (c : Int) < (N : Int) := by omega
      obtain ⟨y, hy⟩ : ∃ y, B.getD (p - c - m) zEnt = y := ⟨_, rfl⟩
      obtain ⟨x, hx⟩ : ∃ x, A.getD (c - a) zEnt = x := ⟨_, rfl⟩
      have hyB : B[p - c - m]? = some y := by rw [← hy]; exact getD_of (by rw [← hnp.2]; exact ix.2.2.1)
      have hxA : A[c - a]? = some x := by rw [← hx]; exact getD_of ix.1
      have hDy : D[v]? = some y := by have := HDB.out _ _ hyB; rwa [show m + (p - c - m) = v by omega] at this
      have hDx : D[c]? = some x := by have := HDA.out _ _ hxA; rwa [show a + (c - a) = c by omega] at this
      have hyok := HOKB.out y (List.mem_of_getElem? hyB)
      have hxok := HOKA.out x (List.mem_of_getElem? hxA)
      have HCMP := hid (fun V => compare_any y x V hyok hxok)
      have HCV : Hid (cmpE y.1 x.1 < 0 ↔ lexB y.1 x.1 = true) := cmpE_neg y.1 x.1
      have hask : askP A B a m (mid + m - 1) c = !lexB y.1 x.1 := by rw [hnp.2, askP, hy, hx]
      have HYES : Hid (lexB y.1 x.1 = false → HalfN (askP A B a m (mid + m - 1)) lo hi (c + 1) j) := fun e => hHf.up hic.1 hic.2 (by rw [hask, e]; rfl) HMONO.out
      have HNO : Hid (lexB y.1 x.1 = true → HalfN (askP A B a m (mid + m - 1)) lo hi i c) := fun e => hHf.dn hic.1 hic.2 (by rw [hask, e]; rfl) HMONO.out
      have Hx : Hid (∀ V, Kp No wr V → V.rangeAt g (o + v * 35) (entC y)) := fun V hV => ((hA.kept hV).range hDy).2
      have Hy : Hid (∀ V, Kp No wr V → V.rangeAt g (o + c * 35) (entC x)) := fun V hV => ((hA.kept hV).range hDx).2
      have HIx := hid (inf hyok)
      have HIy := hid (inf hxok)
      have HAA := hid hA
      have hwc : IntKind.i64.wrap ((c : Int) + 1) = ((c + 1 : Nat) : Int) := by rw [IntKind.wrap_i64]; omega
      obtain ⟨cx, hcx⟩ : ∃ cx, entC y = cx := ⟨_, rfl⟩
      obtain ⟨cy, hcy⟩ : ∃ cy, entC x = cy := ⟨_, rfl⟩
      rw [hcx, hcy] at HCMP
      rw [hcx] at Hx HIx
      rw [hcy] at Hy HIy
      obtain ⟨z, hzz⟩ : ∃ z, cmpE y.1 x.1 = z := ⟨_, rfl⟩
      rw [hzz] at HCMP HCV
      clear hcx hcy hzz hHf hA hy hx hyB hxA hDy hDx hyok hxok hc hask hv hnp ix HS
      go_wp2_with fail
      by_cases hz : z < 0
      · have HH2 := hid (HNO.out (HCV.out.1 hz))
        clear HYES HNO HCV
        refine wp_region_held_drew (S := fun V => Kp No wr V) (by kernel_rfl) ((Kp.refl _ _).drew) (fun hHeld => ?_)
        refine wpAnyH_take (i := 0) (oi := ⟨some 158, .move (.tmp 4), 222, "zsortanyfunc.go:441", #[], none⟩) (v := .func (.func 133) #[] #[]) rfl (by kernel_rfl) (by kernel_rfl) (by kernel_rfl) (fun _ _ _ h => h) (Or.inl ⟨by rfl, fun w' hw' => by (clear hw'; go_simp)⟩) hHeld ?_
        simp only [Act.put, sjA, sjB, sjC]
        refine wpAnyH_take (i := 1) (oi := ⟨some 159, .move (.tmp 0), 81, "zsortanyfunc.go:441", #[], none⟩) (v := .slice (some ⟨g, o, none⟩) N cap) rfl (by kernel_rfl) (by kernel_rfl) (by kernel_rfl) (fun _ _ _ h => h) (Or.inl ⟨by rfl, fun w' hw' => by (clear hw'; go_simp)⟩) hHeld ?_
        simp only [Act.put, sjA, sjB, sjC]
        refine wpAnyH_take (i := 2) (oi := ⟨some 160, .move (.tmp 22), 3, "zsortanyfunc.go:441", #[], none⟩) (v := .int .i64 (p : Int)) rfl (by kernel_rfl) (by kernel_rfl) (by kernel_rfl) (fun _ _ _ h => h) (Or.inl ⟨by rfl, fun w' hw' => by (clear hw'; go_simp)⟩) hHeld ?_
        simp only [Act.put, sjA, sjB, sjC]
        refine wpAnyH_take (i := 3) (oi := ⟨some 161, .move (.tmp 23), 3, "zsortanyfunc.go:441", #[], none⟩) (v := .int .i64 (c : Int)) rfl (by kernel_rfl) (by kernel_rfl) (by kernel_rfl) (fun _ _ _ h => h) (Or.inl ⟨by rfl, fun w' hw' => by (clear hw'; go_simp)⟩) hHeld ?_
        simp only [Act.put, sjA, sjB, sjC]
        refine wpAnyH_take (i := 4) (oi := ⟨some 162, .binOp BinOp.sub 3 (.tmp 160) (.tmp 161) 3, 3, "zsortanyfunc.go:441", #[⟨2, .data⟩, ⟨3, .data⟩], none⟩) (v := .int .i64 (v : Int)) rfl (by kernel_rfl) (by kernel_rfl) (by kernel_rfl) (fun _ _ _ h => h) (Or.inl ⟨by rfl, fun w' hw' => by (clear hw'; go_simp)⟩) hHeld ?_
        simp only [Act.put, sjA, sjB, sjC]
        refine wpAnyH_take (i := 5) (oi := ⟨some 163, .indexAddr 81 (.tmp 159) (.tmp 162), 0, "zsortanyfunc.go:441", #[⟨1, .data⟩, ⟨4, .data⟩], none⟩) (v := .pointer (some ⟨g, o + v * 35, none⟩)) rfl (by kernel_rfl) (by kernel_rfl) (by kernel_rfl) (fun _ _ _ h => h) (Or.inl ⟨by rfl, fun w' hw' => by (clear hw'; go_simp)⟩) hHeld ?_
        simp only [Act.put, sjA, sjB, sjC]
        refine wpAnyH_take (i := 6) (oi := ⟨some 164, .load 155 (.tmp 163), 155, "zsortanyfunc.go:441", #[⟨5, .data⟩], none⟩) (v := .agg cx.toArray) rfl (by kernel_rfl) (by kernel_rfl) (by kernel_rfl) (fun _ _ _ h => h) (yieldsIf_load_mid (by rfl) _ _ rfl g (o + v * 35) rfl cx _ (Hx.out) Tryz.underlying155 rfl HIx.out) hHeld ?_
        simp only [Act.put, sjA, sjB, sjC]
        refine wpAnyH_take (i := 7) (oi := ⟨some 165, .move (.tmp 0), 81, "zsortanyfunc.go:441", #[], none⟩) (v := .slice (some ⟨g, o, none⟩) N cap) rfl (by kernel_rfl) (by kernel_rfl) (by kernel_rfl) (fun _ _ _ h => h) (Or.inl ⟨by rfl, fun w' hw' => by (clear hw'; go_simp)⟩) hHeld ?_
        simp only [Act.put, sjA, sjB, sjC]
        refine wpAnyH_take (i := 8) (oi := ⟨some 166, .move (.tmp 23), 3, "zsortanyfunc.go:441", #[], none⟩) (v := .int .i64 (c : Int)) rfl (by kernel_rfl) (by kernel_rfl) (by kernel_rfl) (fun _ _ _ h => h) (Or.inl ⟨by rfl, fun w' hw' => by (clear hw'; go_simp)⟩) hHeld ?_
        simp only [Act.put, sjA, sjB, sjC]
        refine wpAnyH_take (i := 9) (oi := ⟨some 167, .indexAddr 81 (.tmp 165) (.tmp 166), 0, "zsortanyfunc.go:441", #[⟨7, .data⟩, ⟨8, .data⟩], none⟩) (v := .pointer (some ⟨g, o + c * 35, none⟩)) rfl (by kernel_rfl) (by kernel_rfl) (by kernel_rfl) (fun _ _ _ h => h) (Or.inl ⟨by rfl, fun w' hw' => by (clear hw'; go_simp)⟩) hHeld ?_
        simp only [Act.put, sjA, sjB, sjC]
        refine wpAnyH_take (i := 10) (oi := ⟨some 168, .load 155 (.tmp 167), 155, "zsortanyfunc.go:441", #[⟨9, .data⟩], none⟩) (v := .agg cy.toArray) rfl (by kernel_rfl) (by kernel_rfl) (by kernel_rfl) (fun _ _ _ h => h) (yieldsIf_load_mid (by rfl) _ _ rfl g (o + c * 35) rfl cy _ (Hy.out) Tryz.underlying155 rfl HIy.out) hHeld ?_
        simp only [Act.put, sjA, sjB, sjC]
        refine wpAnyH_ready (rs := [11]) (by kernel_rfl) (by simp) ?_
        refine AllReadyH.cons (o := ⟨some 169, .call { callee := Callee.value (.tmp 158), args := #[.tmp 164, .tmp 168], argTypes := #[155, 155] }, 3, "zsortanyfunc.go:441", #[⟨0, .data⟩, ⟨6, .data⟩, ⟨10, .data⟩], none⟩) rfl (fun K hK => ?_) AllReadyH.nil
        go_simp
        refine (HCMP.out _).mono ?_
        rintro e w3 ⟨rfl, h3⟩
        have HK3 : Hid (Kp No wr w3) := (Kp.refl No wr).drew.andNone (Kp.below h3)
        clear h3
        go_wp2_with fail
        refine hK.out _ _ (HK3.out) (fun hh => ?_)
        clear hK K hHeld
        have hHeld := hh
        clear hh
        try simp only [Act.put, sjA, sjB, sjC]
        refine wpAnyH_take (i := 12) (oi := ⟨some 170, .binOp BinOp.lss 3 (.tmp 169) (Operand.const (Value.int IntKind.i64 0)) 3, 4, "zsortanyfunc.go:441", #[⟨11, .data⟩], none⟩) (v := .bool true) rfl (by kernel_rfl) (by kernel_rfl) (by kernel_rfl) (fun _ _ _ h => h) (Or.inl ⟨by rfl, fun w' hw' => by (clear hw'; go_simp)⟩) hHeld ?_
        simp only [Act.put, sjA, sjB, sjC]
        refine wpAnyH_take (i := 13) (oi := ⟨some 171, .unOp UnOp.not 4 (.tmp 170), 4, "zsortanyfunc.go:441", #[⟨12, .data⟩], none⟩) (v := .bool false) rfl (by kernel_rfl) (by kernel_rfl) (by kernel_rfl) (fun _ _ _ h => h) (Or.inl ⟨by rfl, fun w' hw' => by (clear hw'; go_simp)⟩) hHeld ?_
        simp only [Act.put, sjA, sjB, sjC]
        refine wpAnyH_done (by kernel_rfl) ?_ _
        have HA3 := hid (HAA.out.kept HK3.out)
        clear hHeld HK3 HCMP Hx Hy HIx HIy HAA
        go_wp2_with fail
        go_round
        case rel => exact ⟨i, c, rfl, rfl, hi1, by omega, by omega, HH2.out, HA3.out⟩
        case measure => simp [intOf]; omega
      · have hls : lexB y.1 x.1 = false := by
          cases hb : lexB y.1 x.1 with
          | false => rfl
          | true => exact absurd (HCV.out.2 hb) hz
        have HH2 := hid (HYES.out hls)
        clear HYES HNO HCV hls
        refine wp_region_held_drew (S := fun V => Kp No wr V) (by kernel_rfl) ((Kp.refl _ _).drew) (fun hHeld => ?_)
        refine wpAnyH_take (i := 0) (oi := ⟨some 158, .move (.tmp 4), 222, "zsortanyfunc.go:441", #[], none⟩) (v := .func (.func 133) #[] #[]) rfl (by kernel_rfl) (by kernel_rfl) (by kernel_rfl) (fun _ _ _ h => h) (Or.inl ⟨by rfl, fun w' hw' => by (clear hw'; go_simp)⟩) hHeld ?_
        simp only [Act.put, sjA, sjB, sjC]
        refine wpAnyH_take (i := 1) (oi := ⟨some 159, .move (.tmp 0), 81, "zsortanyfunc.go:441", #[], none⟩) (v := .slice (some ⟨g, o, none⟩) N cap) rfl (by kernel_rfl) (by kernel_rfl) (by kernel_rfl) (fun _ _ _ h => h) (Or.inl ⟨by rfl, fun w' hw' => by (clear hw'; go_simp)⟩) hHeld ?_
        simp only [Act.put, sjA, sjB, sjC]
        refine wpAnyH_take (i := 2) (oi := ⟨some 160, .move (.tmp 22), 3, "zsortanyfunc.go:441", #[], none⟩) (v := .int .i64 (p : Int)) rfl (by kernel_rfl) (by kernel_rfl) (by kernel_rfl) (fun _ _ _ h => h) (Or.inl ⟨by rfl, fun w' hw' => by (clear hw'; go_simp)⟩) hHeld ?_
        simp only [Act.put, sjA, sjB, sjC]
        refine wpAnyH_take (i := 3) (oi := ⟨some 161, .move (.tmp 23), 3, "zsortanyfunc.go:441", #[], none⟩) (v := .int .i64 (c : Int)) rfl (by kernel_rfl) (by kernel_rfl) (by kernel_rfl) (fun _ _ _ h => h) (Or.inl ⟨by rfl, fun w' hw' => by (clear hw'; go_simp)⟩) hHeld ?_
        simp only [Act.put, sjA, sjB, sjC]
        refine wpAnyH_take (i := 4) (oi := ⟨some 162, .binOp BinOp.sub 3 (.tmp 160) (.tmp 161) 3, 3, "zsortanyfunc.go:441", #[⟨2, .data⟩, ⟨3, .data⟩], none⟩) (v := .int .i64 (v : Int)) rfl (by kernel_rfl) (by kernel_rfl) (by kernel_rfl) (fun _ _ _ h => h) (Or.inl ⟨by rfl, fun w' hw' => by (clear hw'; go_simp)⟩) hHeld ?_
        simp only [Act.put, sjA, sjB, sjC]
        refine wpAnyH_take (i := 5) (oi := ⟨some 163, .indexAddr 81 (.tmp 159) (.tmp 162), 0, "zsortanyfunc.go:441", #[⟨1, .data⟩, ⟨4, .data⟩], none⟩) (v := .pointer (some ⟨g, o + v * 35, none⟩)) rfl (by kernel_rfl) (by kernel_rfl) (by kernel_rfl) (fun _ _ _ h => h) (Or.inl ⟨by rfl, fun w' hw' => by (clear hw'; go_simp)⟩) hHeld ?_
        simp only [Act.put, sjA, sjB, sjC]
        refine wpAnyH_take (i := 6) (oi := ⟨some 164, .load 155 (.tmp 163), 155, "zsortanyfunc.go:441", #[⟨5, .data⟩], none⟩) (v := .agg cx.toArray) rfl (by kernel_rfl) (by kernel_rfl) (by kernel_rfl) (fun _ _ _ h => h) (yieldsIf_load_mid (by rfl) _ _ rfl g (o + v * 35) rfl cx _ (Hx.out) Tryz.underlying155 rfl HIx.out) hHeld ?_
        simp only [Act.put, sjA, sjB, sjC]
        refine wpAnyH_take (i := 7) (oi := ⟨some 165, .move (.tmp 0), 81, "zsortanyfunc.go:441", #[], none⟩) (v := .slice (some ⟨g, o, none⟩) N cap) rfl (by kernel_rfl) (by kernel_rfl) (by kernel_rfl) (fun _ _ _ h => h) (Or.inl ⟨by rfl, fun w' hw' => by (clear hw'; go_simp)⟩) hHeld ?_
        simp only [Act.put, sjA, sjB, sjC]
        refine wpAnyH_take (i := 8) (oi := ⟨some 166, .move (.tmp 23), 3, "zsortanyfunc.go:441", #[], none⟩) (v := .int .i64 (c : Int)) rfl (by kernel_rfl) (by kernel_rfl) (by kernel_rfl) (fun _ _ _ h => h) (Or.inl ⟨by rfl, fun w' hw' => by (clear hw'; go_simp)⟩) hHeld ?_
        simp only [Act.put, sjA, sjB, sjC]
        refine wpAnyH_take (i := 9) (oi := ⟨some 167, .indexAddr 81 (.tmp 165) (.tmp 166), 0, "zsortanyfunc.go:441", #[⟨7, .data⟩, ⟨8, .data⟩], none⟩) (v := .pointer (some ⟨g, o + c * 35, none⟩)) rfl (by kernel_rfl) (by kernel_rfl) (by kernel_rfl) (fun _ _ _ h => h) (Or.inl ⟨by rfl, fun w' hw' => by (clear hw'; go_simp)⟩) hHeld ?_
        simp only [Act.put, sjA, sjB, sjC]
        refine wpAnyH_take (i := 10) (oi := ⟨some 168, .load 155 (.tmp 167), 155, "zsortanyfunc.go:441", #[⟨9, .data⟩], none⟩) (v := .agg cy.toArray) rfl (by kernel_rfl) (by kernel_rfl) (by kernel_rfl) (fun _ _ _ h => h) (yieldsIf_load_mid (by rfl) _ _ rfl g (o + c * 35) rfl cy _ (Hy.out) Tryz.underlying155 rfl HIy.out) hHeld ?_
        simp only [Act.put, sjA, sjB, sjC]
        refine wpAnyH_ready (rs := [11]) (by kernel_rfl) (by simp) ?_
        refine AllReadyH.cons (o := ⟨some 169, .call { callee := Callee.value (.tmp 158), args := #[.tmp 164, .tmp 168], argTypes := #[155, 155] }, 3, "zsortanyfunc.go:441", #[⟨0, .data⟩, ⟨6, .data⟩, ⟨10, .data⟩], none⟩) rfl (fun K hK => ?_) AllReadyH.nil
        go_simp
        refine (HCMP.out _).mono ?_
        rintro e w3 ⟨rfl, h3⟩
        have HK3 : Hid (Kp No wr w3) := (Kp.refl No wr).drew.andNone (Kp.below h3)
        clear h3
        go_wp2_with fail
        refine hK.out _ _ (HK3.out) (fun hh => ?_)
        clear hK K hHeld
        have hHeld := hh
        clear hh
        try simp only [Act.put, sjA, sjB, sjC]
        refine wpAnyH_take (i := 12) (oi := ⟨some 170, .binOp BinOp.lss 3 (.tmp 169) (Operand.const (Value.int IntKind.i64 0)) 3, 4, "zsortanyfunc.go:441", #[⟨11, .data⟩], none⟩) (v := .bool false) rfl (by kernel_rfl) (by kernel_rfl) (by kernel_rfl) (fun _ _ _ h => h) (Or.inl ⟨by rfl, fun w' hw' => by (clear hw'; go_simp)⟩) hHeld ?_
        simp only [Act.put, sjA, sjB, sjC]
        refine wpAnyH_take (i := 13) (oi := ⟨some 171, .unOp UnOp.not 4 (.tmp 170), 4, "zsortanyfunc.go:441", #[⟨12, .data⟩], none⟩) (v := .bool true) rfl (by kernel_rfl) (by kernel_rfl) (by kernel_rfl) (fun _ _ _ h => h) (Or.inl ⟨by rfl, fun w' hw' => by (clear hw'; go_simp)⟩) hHeld ?_
        simp only [Act.put, sjA, sjB, sjC]
        refine wpAnyH_done (by kernel_rfl) ?_ _
        have HA3 := hid (HAA.out.kept HK3.out)
        clear hHeld HK3 HCMP Hx Hy HIx HIy HAA
        go_wp2_with fail
        go_round
        case rel => exact ⟨c + 1, j, by go_num, rfl, by omega, by omega, hj1, HH2.out, HA3.out⟩
        case measure => simp [intOf]; omega
    · as_aux_lemma =>
      have hltI : ¬ (i : Int) < (j : Int) := by omega
      obtain ⟨hHf, hA⟩ := HS.out
      have hji : j = i := by omega
      rw [hji] at hHf
      obtain ⟨cLt, cLe, c1, c2, c3, c4, c5, c6⟩ := HCUT.out i hHf
      obtain ⟨e, he⟩ : ∃ e, n - i = e := ⟨_, rfl⟩
      have hnp := HNP.out
      have hwe : IntKind.i64.wrap ((n : Int) - (i : Int)) = (e : Int) := by rw [IntKind.wrap_i64]; omega
      obtain ⟨A1, hA1⟩ : ∃ A1, A.take (i - a) = A1 := ⟨_, rfl⟩
      obtain ⟨A2, hA2⟩ : ∃ A2, A.drop (i - a) = A2 := ⟨_, rfl⟩
      obtain ⟨B1, hB1⟩ : ∃ B1, B.take (mid - i) = B1 := ⟨_, rfl⟩
      obtain ⟨B2, hB2⟩ : ∃ B2, B.drop (mid - i) = B2 := ⟨_, rfl⟩
      have hAA : A1 ++ A2 = A := by rw [← hA1, ← hA2, List.take_append_drop]
      have hBB : B1 ++ B2 = B := by rw [← hB1, ← hB2, List.take_append_drop]
      rw [hB1, hA2] at cLt
      rw [hA1, hB2] at cLe
      have hla := HLA.out
      have lA1 : A1.length = i - a := by rw [← hA1, List.length_take]; omega
      have lB1 : B1.length = mid - i := by rw [← hB1, List.length_take]; omega
      have lA2 : A2.length = m - i := by rw [← hA2, List.length_drop]; omega
      have lB2 : B2.length = b - e := by rw [← hB2, List.length_drop]; omega
      have hDe : D = (L ++ A1) ++ (A2 ++ (B1 ++ (B2 ++ R))) := by rw [← HD.out, ← hAA, ← hBB]; simp
      obtain ⟨sa, sb⟩ := HSS.out
      have sA1 : Srt ky lexB A1 := (Stb.Srt.append.1 (by rw [hAA]; exact sa)).1
      have sA2 : Srt ky lexB A2 := (Stb.Srt.append.1 (by rw [hAA]; exact sa)).2.1
      have sB1 : Srt ky lexB B1 := (Stb.Srt.append.1 (by rw [hBB]; exact sb)).1
      have sB2 : Srt ky lexB B2 := (Stb.Srt.append.1 (by rw [hBB]; exact sb)).2.1
      have HEND : Hid (∀ M1 M2, Mrg ky lexB A1 B1 M1 → Mrg ky lexB A2 B2 M2 → Mrg ky lexB A B (M1 ++ M2)) := fun M1 M2 h1 h2 => by
        have := Mrg.halves lexOrd cLt cLe (by rw [hAA]; exact sa) (by rw [hBB]; exact sb) h1 h2
        rwa [hAA, hBB] at this
      have HSR := hid (And.intro sA1 (And.intro sA2 (And.intro sB1 sB2)))
      have HLL : Hid (L.length = a ∧ A1.length = i - a ∧ B1.length = mid - i ∧ A2.length = m - i ∧ B2.length = b - e ∧ A.length + B.length = b - a ∧ b + R.length = N) := ⟨hla.1, lA1, lB1, lA2, lB2, by omega, HRL.out⟩
      have HAA := hid hA
      have HDE := hid hDe
      have hee : m ≤ e ∧ e ≤ b ∧ mid ≤ e ∧ (e - m = mid - i) ∧ a ≤ i ∧ i ≤ m ∧ i ≤ mid := by omega
      obtain ⟨he1, he2, he3, he4, he5, he6, he7⟩ := hee
      clear hA1 hA2 hB1 hB2 hAA hBB cLt cLe c1 c2 c3 c4 c5 c6 lA1 lB1 lA2 lB2 hDe sa sb sA1 sA2 sB1 sB2 hHf hA hji he hnp hla HS HCUT HMONO HIX HDA HDB HOKA HOKB HSS HD HRL HNP
      obtain ⟨cb, hcb⟩ : ∃ cb, decide (i < m ∧ m < e) = cb := ⟨_, rfl⟩
      have Hcb := hid hcb
      clear hcb
      go_upto_region 39 with fail
      go_cut [185] (fun s wx => s = .bool cb ∧ wr = wx)
      case first =>
        by_cases k1 : i < m
        · have k1I : (i : Int) < (m : Int) := by omega
          by_cases k2 : m < e
          · have k2I : (m : Int) < (e : Int) := by omega
            have hb : cb = true := by rw [← Hcb.out]; simp [k1, k2]
            go_wp2_with fail
            go_meet
            exact ⟨by rw [hb], rfl⟩
          · have k2I : ¬ (m : Int) < (e : Int) := by omega
            have hb : cb = false := by rw [← Hcb.out]; simp [k2]
            go_wp2_with fail
            go_meet
            exact ⟨by rw [hb], rfl⟩
        · have k1I : ¬ (i : Int) < (m : Int) := by omega
          have hb : cb = false := by rw [← Hcb.out]; simp [k1]
          go_wp2_with fail
          go_meet
          exact ⟨by rw [hb], rfl⟩
      case rest =>
      obtain ⟨rfl, rfl⟩ := hcut
      go_upto_if 185 with fail
      go_cut [24] (fun s24 wx => s24 = .int .i64 (e : Int) ∧ Hid (At w g o (L ++ (A1 ++ (B1 ++ (A2 ++ (B2 ++ R))))) wx))
      case first =>
        cases hb : cb with
        | true =>
          have hc2 : i < m ∧ m < e := by have h := Hcb.out; rw [hb] at h; exact of_decide_eq_true h
          have HROT : Hid (Calls Tryz.prog 245 #[.slice (some ⟨g, o, none⟩) N cap, .int .i64 (i : Int), .int .i64 (m : Int), .int .i64 (e : Int), .func (.func 133) #[] #[]] wr fun e w' => e = .returned (.tuple #[]) ∧ At wr g o ((L ++ A1) ++ (B1 ++ (A2 ++ (B2 ++ R)))) w') := by
            have hll := HLL.out
            have h := rot_any wr g o (L ++ A1) A2 B1 (B2 ++ R) N cap (.func (.func 133) #[] #[]) (by rw [← HDE.out]; exact HAA.out.2) (by simp only [List.length_append]; omega) (by intro e; rw [e] at hll; simp at hll; omega) (by intro e; rw [e] at hll; simp at hll; omega) hl
            rw [List.length_append, show L.length + A1.length = i by omega, show i + A2.length = m by omega, show m + B1.length = e by omega] at h
            exact h
          clear hc2
          go_wp2_with fail
          refine HROT.out.mono ?_
          rintro e' w2 ⟨rfl, h2⟩
          have H2 := hid (HAA.out.next h2)
          clear h2
          go_wp2_with fail
          go_meet
          exact ⟨rfl, by have := H2.out; rw [Hid]; simpa using this⟩
        | false =>
          have hc2 : ¬ (i < m ∧ m < e) := by have h := Hcb.out; rw [hb] at h; exact of_decide_eq_false h
          have HFIN : Hid (At w g o (L ++ (A1 ++ (B1 ++ (A2 ++ (B2 ++ R))))) wr) := by
            have hll := HLL.out
            have h := HAA.out
            rw [HDE.out] at h
            by_cases k1 : i < m
            · have hB0 : B1 = [] := List.length_eq_zero_iff.1 (by omega)
              rw [Hid]
              rw [hB0] at h ⊢
              simpa using h
            · have hA0 : A2 = [] := List.length_eq_zero_iff.1 (by omega)
              rw [Hid]
              rw [hA0] at h ⊢
              simpa using h
          clear hc2
          go_wp2_with fail
          go_meet
          exact ⟨rfl, HFIN.out⟩
      case rest =>
      as_aux_lemma =>
        obtain ⟨rfl, HA2⟩ := hcut
        clear HAA HDE Hcb
        rename World => w1
        obtain ⟨cc, hcc⟩ : ∃ cc, decide (a < i ∧ i < mid) = cc := ⟨_, rfl⟩
        have Hcc := hid hcc
        clear hcc
        go_upto_region 41 with fail
        go_cut [199] (fun s wx => s = .bool cc ∧ w1 = wx)
        case first =>
          by_cases k1 : a < i
          · have k1I : (a : Int) < (i : Int) := by omega
            by_cases k2 : i < mid
            · have k2I : (i : Int) < (mid : Int) := by omega
              have hb : cc = true := by rw [← Hcc.out]; simp [k1, k2]
              go_wp2_with fail
              go_meet
              exact ⟨by rw [hb], rfl⟩
            · have k2I : ¬ (i : Int) < (mid : Int) := by omega
              have hb : cc = false := by rw [← Hcc.out]; simp [k2]
              go_wp2_with fail
              go_meet
              exact ⟨by rw [hb], rfl⟩
          · have k1I : ¬ (a : Int) < (i : Int) := by omega
            have hb : cc = false := by rw [← Hcc.out]; simp [k1]
            go_wp2_with fail
            go_meet
            exact ⟨by rw [hb], rfl⟩
        case rest =>
        obtain ⟨rfl, rfl⟩ := hcut
        go_upto_if 199 with fail
        go_cut [24] (fun s24 wx => s24 = .int .i64 (e : Int) ∧ Hid (∃ M1, Mrg ky lexB A1 B1 M1 ∧ At w g o (L ++ (M1 ++ (A2 ++ (B2 ++ R)))) wx))
        case first =>
          cases hb : cc with
          | true =>
            have hc2 : a < i ∧ i < mid := by have h := Hcc.out; rw [hb] at h; exact of_decide_eq_true h
            have HREC : Hid (Calls Tryz.prog 214 #[.slice (some ⟨g, o, none⟩) N cap, .int .i64 (a : Int), .int .i64 (i : Int), .int .i64 (mid : Int), .func (.func 133) #[] #[]] w1 fun e w' => e = .returned (.tuple #[]) ∧ ∃ M, Mrg ky lexB A1 B1 M ∧ At w1 g o (L ++ (M ++ (A2 ++ (B2 ++ R)))) w') := by
              have hll := HLL.out
              have h := HIH.out w1 g o L A1 B1 (A2 ++ (B2 ++ R)) N cap (by omega) HA2.out.2 (by simp only [List.length_append]; omega) hl HSR.out.1 HSR.out.2.2.1 (by intro e; rw [e] at hll; simp at hll; omega) (by intro e; rw [e] at hll; simp at hll; omega)
              rw [hll.1, show a + A1.length = i by omega, show i + B1.length = mid by omega] at h
              exact h
            clear hc2
            go_wp2_with fail
            refine HREC.out.mono ?_
            rintro e' w2 ⟨rfl, M1, hM1, h2⟩
            have H2 := hid (And.intro hM1 (HA2.out.next h2))
            clear h2 hM1
            go_wp2_with fail
            go_meet
            exact ⟨rfl, M1, H2.out⟩
          | false =>
            have hc2 : ¬ (a < i ∧ i < mid) := by have h := Hcc.out; rw [hb] at h; exact of_decide_eq_false h
            have HFIN : Hid (∃ M1, Mrg ky lexB A1 B1 M1 ∧ At w g o (L ++ (M1 ++ (A2 ++ (B2 ++ R)))) w1) := by
              have hll := HLL.out
              have h := HA2.out
              by_cases k1 : a < i
              · have hB0 : B1 = [] := List.length_eq_zero_iff.1 (by omega)
                rw [hB0] at h ⊢
                exact ⟨A1, mrg_nil_right HSR.out.1, by simpa using h⟩
              · have hA0 : A1 = [] := List.length_eq_zero_iff.1 (by omega)
                rw [hA0] at h ⊢
                exact ⟨B1, mrg_nil_left HSR.out.2.2.1, by simpa using h⟩
            clear hc2
            go_wp2_with fail
            go_meet
            exact ⟨rfl, HFIN.out⟩
        case rest =>
        as_aux_lemma =>
          obtain ⟨rfl, HA3⟩ := hcut
          clear HA2 Hcc
          rename World => w1
          obtain ⟨cd, hcd⟩ : ∃ cd, decide (mid < e ∧ e < b) = cd := ⟨_, rfl⟩
          have Hcd := hid hcd
          clear hcd
          go_upto_region 43 with fail
          go_cut [213] (fun s wx => s = .bool cd ∧ w1 = wx)
          case first =>
            by_cases k1 : mid < e
            · have k1I : (mid : Int) < (e : Int) := by omega
              by_cases k2 : e < b
              · have k2I : (e : Int) < (b : Int) := by omega
                have hb : cd = true := by rw [← Hcd.out]; simp [k1, k2]
                go_wp2_with fail
                go_meet
                exact ⟨by rw [hb], rfl⟩
              · have k2I : ¬ (e : Int) < (b : Int) := by omega
                have hb : cd = false := by rw [← Hcd.out]; simp [k2]
                go_wp2_with fail
                go_meet
                exact ⟨by rw [hb], rfl⟩
            · have k1I : ¬ (mid : Int) < (e : Int) := by omega
              have hb : cd = false := by rw [← Hcd.out]; simp [k1]
              go_wp2_with fail
              go_meet
              exact ⟨by rw [hb], rfl⟩
          case rest =>
          obtain ⟨rfl, rfl⟩ := hcut
          obtain ⟨M1, hM1, hA4⟩ := HA3.out
          have HM1 := hid hM1
          have HA4 := hid hA4
          have hM1l : M1.length = mid - a := by
            have h1 := hM1.1.length
            rw [List.length_append] at h1
            have hll := HLL.out
            omega
          have HM1L := hid hM1l
          clear hM1 hA4 hM1l HA3
          cases hb : cd with
          | true =>
            have hc2 : mid < e ∧ e < b := by have h := Hcd.out; rw [hb] at h; exact of_decide_eq_true h
            have HREC : Hid (Calls Tryz.prog 214 #[.slice (some ⟨g, o, none⟩) N cap, .int .i64 (mid : Int), .int .i64 (e : Int), .int .i64 (b : Int), .func (.func 133) #[] #[]] w1 fun e w' => e = .returned (.tuple #[]) ∧ ∃ M, Mrg ky lexB A2 B2 M ∧ At w1 g o ((L ++ M1) ++ (M ++ R)) w') := by
              have hll := HLL.out
              have hml := HM1L.out
              have h := HIH.out w1 g o (L ++ M1) A2 B2 R N cap (by omega) (by have := HA4.out.2; simpa using this) (by simp only [List.length_append]; omega) hl HSR.out.2.1 HSR.out.2.2.2 (by intro e; rw [e] at hll; simp at hll; omega) (by intro e; rw [e] at hll; simp at hll; omega)
              rw [List.length_append, show L.length + M1.length = mid by omega, show mid + A2.length = e by omega, show e + B2.length = b by omega] at h
              exact h
            clear hc2
            go_wp2_with fail
            refine HREC.out.mono ?_
            rintro e' w2 ⟨rfl, M2, hM2, h2⟩
            have H2 := hid (And.intro hM2 (HA4.out.next h2))
            clear h2 hM2
            go_wp2_with fail
            go_end0
            exact ⟨rfl, M1 ++ M2, HEND.out M1 M2 HM1.out H2.out.1, by have := H2.out.2; simpa using this⟩
          | false =>
            have hc2 : ¬ (mid < e ∧ e < b) := by have h := Hcd.out; rw [hb] at h; exact of_decide_eq_false h
            have HFIN : Hid (∃ M2, Mrg ky lexB A2 B2 M2 ∧ At w g o (L ++ (M1 ++ (M2 ++ R))) w1) := by
              have hll := HLL.out
              have h := HA4.out
              by_cases k1 : mid < e
              · have hB0 : B2 = [] := List.length_eq_zero_iff.1 (by omega)
                rw [hB0] at h ⊢
                exact ⟨A2, mrg_nil_right HSR.out.2.1, by simpa using h⟩
              · have hA0 : A2 = [] := List.length_eq_zero_iff.1 (by omega)
                rw [hA0] at h ⊢
                exact ⟨B2, mrg_nil_left HSR.out.2.2.2, by simpa using h⟩
            clear hc2
            go_wp2_with fail
            go_end0
            obtain ⟨M2, h1, h2⟩ := HFIN.out
            exact ⟨rfl, M1 ++ M2, HEND.out M1 M2 HM1.out h1, by simpa using h2⟩
end Go.Proofs.YthmimipoooemjaaGreatDoor.Sg
end
