/-
  alive: the chapter's example.
-/
import Derived.Test.YtdooiflmjeibdaaDoorTrWrite
import Derived.Lib.SlBytesConst
import Derived.Laws.IdiomStrings
import Derived.KernelRfl
namespace Go.Proofs.YtdooiflmjeibdaaDoor.Tr
open Go.RowKit

def itA : It := (⟨#[97]⟩, true, [])
def itB : It := (⟨#[97, 47, 98]⟩, false, [120])
theorem exa1 : mkdirR [] ⟨#[97]⟩ = (0, [itA]) := by kernel_rfl
theorem exa2 : writeR [itA] ⟨#[97, 47, 98]⟩ [120] = (0, [itA, itB]) := by kernel_rfl
theorem exa3 : look [itA, itB] ⟨#[97, 47, 98]⟩ = some itB := by kernel_rfl
theorem exa4 : (underL [itA, itB] ⟨#[97]⟩).length = 2 := by kernel_rfl
theorem conv_const (W : World) : (convert 23 23 (.slice (some ⟨W.heap.size, 0, none⟩) 1 1)).run Tryd.prog (W.alloc (.cells #[.int .u8 120] 5)) = .ok (.slice (some ⟨W.heap.size, 0, none⟩) 1 1) (W.alloc (.cells #[.int .u8 120] 5 (1, 2))) :=
  Lib.run_convert_bytes_const W 23 5 _ 1 1 Tryd.underlying23 Tryd.underlying5
theorem by_const (W : World) : ByP Any (W.alloc (.cells #[.int .u8 120] 5 (1, 2))) (.slice (some ⟨W.heap.size, 0, none⟩) 1 1) [120] := by
  refine ⟨_, 1, rfl, Nat.le_refl _, by decide, by simp, by decide, by simp, fun _ => ⟨W.heap.size, 0, rfl, trivial, by simp, fun i hi => ?_⟩⟩
  have : i = 0 := by simpa using hi
  subst this
  exact World.cell?_alloc_mark W _ 5 (1, 2) 0
theorem short_ab : ∀ y ∈ [itA, itB], ShortI y := by
  intro y hy
  simp only [List.mem_cons, List.not_mem_nil, or_false] at hy
  rcases hy with rfl | rfl <;> exact ⟨by decide, by decide⟩

set_option maxHeartbeats 4000000 in
set_option maxRecDepth 100000 in
theorem alive_any (w : World) : Calls Tryd.prog 5 #[] w fun e w' => e = .returned (.bool true) ∧ Kp No w w' := by
  have hcv := conv_const
  have HM := hid (mkdir_any w (.slice none 0 0) [] ⟨#[97]⟩ (IRow.nil _ _) (by decide) (by simp) (by decide))
  rw [exa1] at HM
  go_enter Tryd.func5, Tryd.ntmps5
  go_wp2_with fail
  refine HM.out.mono ?_
  rintro e w1 ⟨v1, rfl, h1, _, k1⟩
  have O1 := hid h1
  have K1 := hid k1
  obtain ⟨a1, c1, e1⟩ := h1.form
  subst e1
  clear h1 k1 HM
  go_wp2_with fail
  have ka : Kp No w1 (w1.alloc (.cells #[.int .u8 120] 5 (1, 2))) := (Kp.refl _ _).alloc _
  have HW := write_any (w1.alloc (.cells #[.int .u8 120] 5 (1, 2))) (.slice a1 [itA].length c1) _ [itA] ⟨#[97, 47, 98]⟩ [120] (O1.out.kept ka).row (by decide) (fun y hy => short_ab y (by simp at hy; simp [hy])) (by decide) (by_const w1)
  rw [exa2] at HW
  refine HW.mono ?_
  rintro e w2 ⟨v2, rfl, h2, _, k2⟩
  have O2 := hid h2
  have K2 : Hid (Kp No w w2) := (K1.out.andNone ka).andNone k2
  obtain ⟨a2, c2, e2⟩ := h2.form
  subst e2
  clear h2 k2 HW
  have HF := hid (find_yes w2 (.slice a2 [itA, itB].length c2) [itA, itB] ⟨#[97, 47, 98]⟩ itB ⟨by decide, by decide⟩ O2.out.row (by decide) exa3)
  go_wp2_with fail
  refine HF.out.mono ?_
  rintro e w3 ⟨u, rfl, hb, k3⟩
  obtain ⟨au, cu, hu⟩ := hb.form
  subst hu
  have K3 : Hid (Kp No w w3) := K2.out.andNone k3
  have HU := hid (fun (V : World) (k : Kp No w3 V) => under_any V (.slice a2 [itA, itB].length c2) [itA, itB] ⟨#[97]⟩ ((O2.out.kept k3).kept k).row (by decide) short_ab)
  have HCS : Hid (∀ V, Kp No w3 V → (convert 23 9 (.slice au itB.2.2.length cu)).run Tryd.prog V = .ok (.string ⟨#[120]⟩) V) := fun V k => by
    obtain ⟨a', c', e', _, _, _, _, _, h7⟩ := hb.kept k
    cases e'
    obtain ⟨g, o, rfl, _, hg, hc⟩ := h7 (by decide)
    have := run_convert_bytes_back (P := Tryd.prog) V 23 9 5 ⟨g, o, none⟩ cu [120] Tryd.underlying23 Tryd.underlying5 Tryd.underlying9 (fun j hj => by
      have : j = 0 := by simpa using hj
      subst this
      rw [addr_add]
      exact hc 0 (by decide))
    exact this
  have hcs := HCS.out (w3.alloc (.cells #[.string itB.1, .bool itB.2.1, .slice au itB.2.2.length cu] 33)) ((Kp.refl _ _).alloc _)
  clear hb k3 HF HCS
  go_wp2_with (go_at_call 13; refine (HU.out _ ((Kp.refl _ _).alloc _)).mono ?_; rintro e w5 ⟨a5, n5, c5, rfl, ho, _, hk⟩; obtain ⟨a6, c6, e6⟩ := ho.form; rw [exa4] at e6; cases e6; have HK5 := hid ((K3.out.andNone ((Kp.refl No _).alloc _)).andNone hk); clear ho hk)
  go_ret
  exact ⟨rfl, HK5.out⟩

end Go.Proofs.YtdooiflmjeibdaaDoor.Tr
