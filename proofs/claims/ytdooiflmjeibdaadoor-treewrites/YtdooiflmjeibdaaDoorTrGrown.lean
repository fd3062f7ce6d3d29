/-
  Grown, of the law: a tree that changes make of nothing.
-/
import Derived.Test.YtdooiflmjeibdaaDoorTrShortM
namespace Go.Proofs.YtdooiflmjeibdaaDoor.Tr
open Go.RowKit

/-- A change: its kind, how deep, two paths, bytes. -/
abbrev OpT := Int × Int × ByteArray × ByteArray × List Nat
/-- At that place stand the changes l. -/
def OpsAt (w : World) (g o : Nat) (l : List OpT) : Prop := ∀ V, Kp No w V → ∀ i x, l[i]? = some x → ∃ u, V.cell? ⟨g, o + i * 5, none⟩ = some (.int .i64 x.1) ∧ V.cell? ⟨g, o + i * 5 + 1, none⟩ = some (.int .i64 x.2.1) ∧ V.cell? ⟨g, o + i * 5 + 2, none⟩ = some (.string x.2.2.1) ∧ V.cell? ⟨g, o + i * 5 + 3, none⟩ = some (.string x.2.2.2.1) ∧ V.cell? ⟨g, o + i * 5 + 4, none⟩ = some u ∧ ByP Any V u x.2.2.2.2

set_option maxHeartbeats 4000000 in
theorem grown_any (w : World) (g o cap n : Nat) (l : List OpT) (hn : l.length = n) (h20 : n ≤ 1000) (ho : OpsAt w g o l) (hs : ∀ x ∈ l, x.2.2.1.size ≤ 10000 ∧ x.2.2.2.1.size ≤ 10000) :
    Calls Tryd.prog 6 #[.slice (some ⟨g, o, none⟩) n cap] w fun e w' => ∃ v t, e = .returned v ∧ IOwn w' v t ∧ rightB t = true ∧ Kp No w w' := by
  have HO := hid ho
  have HS := hid hs
  have HN := hid hn
  clear hn ho hs
  go_enter Tryd.func6, Tryd.ntmps6
  go_wp2_with fail
  go_loopw [3, 4] (fun v3 x wr => ∃ (i : Nat) (t : List It), x = .int .i64 i ∧ i ≤ n ∧ Hid (IOwn wr v3 t ∧ rightB t = true ∧ Kp No w wr)) (fun _ x _ => n - (intOf x).toNat)
  case atStart => exact ⟨0, [], rfl, Nat.zero_le _, IOwn.nil _, right_nil, Kp.refl _ _⟩
  case round =>
    obtain ⟨i, t, rfl, hi, HT⟩ := hrel
    by_cases hlt : i < n
    · have hltI : (i : Int) < (n : Int) := by omega
      have hi0 : (0 : Int) ≤ (i : Int) := by omega
      obtain ⟨x, hx⟩ : ∃ x, l[i]? = some x := ⟨_, List.getElem?_eq_getElem (by rw [HN.out]; omega)⟩
      obtain ⟨u, c0, c1, c2, c3, c4, hb⟩ := HO.out _ HT.out.2.2 i x hx
      have hsx := HS.out x (List.mem_of_getElem? hx)
      have HD := hid (do_any wr u3 u t x.1 x.2.1 x.2.2.1 x.2.2.2.1 x.2.2.2.2 HT.out.1 HT.out.2.1 (right_short HT.out.2.1) hsx.1 hsx.2 hb)
      obtain ⟨ab, cb, rfl⟩ := hb.form
      clear hx hb hsx
      go_wp2_with (go_at_call 16; refine HD.out.mono ?_; rintro e w2 ⟨v', f, ys, rfl, hk, hh⟩; have HK := hid hk; have HH := hid hh; clear hk hh)
      · rename_i hf
        have h0 : f = 0 := by simpa using hf
        refine ⟨⟨i + 1, ys, by simp, by omega, (HH.out h0).1, (HH.out h0).2, HT.out.2.2.andNone HK.out⟩, ?_⟩
        simp [intOf]
        omega
      · go_roundw
        case rel => exact ⟨i + 1, t, by go_num, by omega, HT.out.1.kept HK.out, HT.out.2.1, HT.out.2.2.andNone HK.out⟩
        case measure => simp [intOf] <;> omega
    · have hltI : ¬ (i : Int) < (n : Int) := by omega
      go_wp2
      go_ret
      exact ⟨_, rfl, t, HT.out.1, HT.out.2.1, HT.out.2.2⟩

end Go.Proofs.YtdooiflmjeibdaaDoor.Tr
