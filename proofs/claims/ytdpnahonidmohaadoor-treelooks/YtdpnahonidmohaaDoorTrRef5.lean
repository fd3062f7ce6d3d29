/-
  Under and without, of the document.
-/
import Derived.Test.YtdpnahonidmohaaDoorTrRef4
namespace Go.Proofs.YtdpnahonidmohaaDoor.Tr
open Go.RowKit

theorem IRow.cellsP {P : Nat → Prop} {w : World} {v : Value} {t : List It} (h : IRow P w v t) (hne : t ≠ []) : ∃ g o cap, v = .slice (some ⟨g, o, none⟩) t.length cap ∧ ∀ V, Kp No w V → ∀ i x, t[i]? = some x → ∃ u, V.cell? ⟨g, o + i * 3, none⟩ = some (.string x.1) ∧ V.cell? ⟨g, o + i * 3 + 1, none⟩ = some (.bool x.2.1) ∧ V.cell? ⟨g, o + i * 3 + 2, none⟩ = some u ∧ ByP P V u x.2.2 := by
  obtain ⟨a, cap, rfl, h1, h2, h3, h4⟩ := h
  obtain ⟨g, o, rfl, hg, hl, hc⟩ := h4 hne
  refine ⟨g, o, cap, rfl, fun V k i x hx => ?_⟩
  obtain ⟨u, c0, c1, c2, hb⟩ := (hc i x hx).kp k (fun _ h => h.elim) hg hl
  exact ⟨u, c0, c1, c2, hb⟩
theorem IRow.below {w : World} {v : Value} {t : List It} (h : IRow Any w v t) : IRow (fun g => g < w.heap.size) w v t := h.mono (fun _ hx _ => hx)

set_option maxHeartbeats 4000000 in
theorem runder_any (w : World) (v : Value) (t : List It) (p : ByteArray) (B : Nat) (h : IRow (fun g => g < B) w v t) (hB : B ≤ w.heap.size) (hl : t.length ≤ 100000) :
    Calls Tryd.prog 17 #[v, .string p] w fun e w' => ∃ a n c, e = .returned (.slice a n c) ∧ ROwn B w' (.slice a n c) (underL t p) ∧ (∀ b, (Value.slice a n c).ownBlock = some b → w.heap.size ≤ b) ∧ Kp No w w' := by
  have hcl := hid (fun (hne : t ≠ []) => h.cellsP hne)
  obtain ⟨a, cap, rfl, _⟩ := h.form
  obtain ⟨n, hn⟩ : ∃ n, t.length = n := ⟨_, rfl⟩
  have HN := hid hn
  rw [hn] at hl hcl ⊢
  clear hn h
  go_enter Tryd.func17, Tryd.ntmps17
  go_wp2_with fail
  go_loopw [5, 6] (fun v5 x wr => ∃ (i : Nat) (a1 : Option Addr) (n1 c1 : Nat), v5 = .slice a1 n1 c1 ∧ x = .int .i64 i ∧ i ≤ n ∧ Hid (ROwn B wr (.slice a1 n1 c1) (underL (t.take i) p) ∧ (∀ b, (Value.slice a1 n1 c1).ownBlock = some b → w.heap.size ≤ b) ∧ Kp No w wr)) (fun _ x _ => n - (intOf x).toNat)
  case atStart => exact ⟨0, none, 0, 0, rfl, rfl, Nat.zero_le _, ROwn.nil hB, by simp [Value.ownBlock], Kp.refl _ _⟩
  case round =>
    obtain ⟨i, a1, n1, c1, rfl, rfl, hi, HT⟩ := hrel
    by_cases hlt : i < n
    · have hltI : (i : Int) < (n : Int) := by omega
      have hi0 : (0 : Int) ≤ (i : Int) := by omega
      obtain ⟨x, hx⟩ : ∃ x, t[i]? = some x := ⟨_, List.getElem?_eq_getElem (by rw [HN.out]; omega)⟩
      have HX := hid hx
      obtain ⟨g, o, c', e, hc⟩ := hcl.out (by rintro rfl; simp at hx)
      cases e
      obtain ⟨u, k0, k1, k2, hb⟩ := hc _ HT.out.2.2 i x hx
      obtain ⟨au, cu, hu⟩ := hb.form
      subst hu
      have HU := hid hb
      have HLEN : Hid ((underL (t.take i) p).length + 1 ≤ 1000000) := by
        have h1 := List.length_filter_le (fun x : It => withinB (tx p) (tx x.1)) (t.take i)
        have h3 := List.length_take_le i t
        unfold Hid underL
        omega
      clear hx hb
      have HWI := hid (fun W => rwithin_any p x.1 W)
      cases hp : withinB (tx p) (tx x.1) with
      | true =>
        have HP := hid hp
        simp only [hp] at HWI
        clear hp
        go_wp2_with (first | (go_at_call 44; refine (HWI.out _).mono ?_; rintro e w1 ⟨rfl, hw1⟩; subst hw1) | (at_builtin; refine app_itemR _ w1 rfl _ _ 22 Tryd.underlying22 rfl _ _ x (.slice au x.2.2.length cu) rfl rfl rfl HT.out.1 HU.out rfl HLEN.out ?_; intro ad cap2 w3 hown hk))
        have HR := hid (hk w HT.out.2.2 HT.out.2.1)
        have HO := hid hown
        clear hown hk
        go_roundw
        case rel => exact ⟨i + 1, ad, _, cap2, rfl, by go_num, by omega, by
          have h := under_yes HX.out HP.out
          rw [Hid, h.1]
          exact ⟨HO.out, HR.out.1, HR.out.2⟩⟩
        case measure => simp [intOf] <;> omega
      | false =>
        have HP := hid hp
        simp only [hp] at HWI
        clear hp
        go_wp2_with (first | (go_at_call 44; refine (HWI.out _).mono ?_; rintro e w1 ⟨rfl, hw1⟩; subst hw1))
        go_roundw
        case rel => exact ⟨i + 1, a1, n1, c1, rfl, by go_num, by omega, by
          have h := under_no HX.out HP.out
          rw [Hid, h.1]
          exact HT.out⟩
        case measure => simp [intOf] <;> omega
    · have hltI : ¬ (i : Int) < (n : Int) := by omega
      go_wp2
      go_ret
      refine ⟨a1, n1, c1, rfl, ?_, HT.out.2⟩
      have := HT.out.1
      rwa [List.take_of_length_le (by rw [HN.out]; omega)] at this


end Go.Proofs.YtdpnahonidmohaaDoor.Tr
