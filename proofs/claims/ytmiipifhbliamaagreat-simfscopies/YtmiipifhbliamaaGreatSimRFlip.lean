/-
  The reference's Flip.
-/
import Derived.Test.YtmiipifhbliamaaGreatSimRList
namespace Go.Proofs.YtmiipifhbliamaaGreat.Sim
open Go.RowKit Go.Maps

theorem own_some {w : World} {a : Option Addr} {n cap : Nat} {bs : List Nat} (h : OwnB w (.slice a n cap) bs) (hb : 0 < bs.length) : ∃ g, a = some ⟨g, 0, none⟩ := by
  rcases h.row.2 with ⟨_, h0⟩ | ⟨g, cap', cur, e, _⟩
  · omega
  · cases e; exact ⟨g, rfl⟩

set_option maxHeartbeats 4000000 in
set_option maxRecDepth 100000 in
theorem rflip_any {Q : Nat → Prop} {N : Nat} (w : World) (m : Nat) (p : PS) (t : ByteArray) (k : Int) (x : Nat) (hx : x < 256) (ht : t.size ≤ 1000000) (h : RSys Q N w m p) (hN : N + 1 ≤ 1000) :
    Calls Tryz.prog 40 #[.pointer (some ⟨m, 0, none⟩), .string t, .int .i64 k, .int .u8 (x : Int)] w fun e w' => e = .returned (.int .i64 ((pFlip (nm t) k x p).1 : Nat)) ∧ RDone Q (N + 1) w w' m (pFlip (nm t) k x p).2 := by
  have HH := hid h
  obtain ⟨D, vF, vS, vA, vC, us, F, h, hI, hF⟩ := h
  have HT := hid (rthere_any h t ht)
  have hml := h.lt m h.qm
  by_cases h0 : finds p (nm t) = 0
  · obtain ⟨hw, b, hb⟩ := finds_zero h0
    rw [h0] at HT
    have hf := hI.hasFound hb
    have hlen := hI.lfile b _ hf
    have hbg := hI.big
    have q1 : w.cell? ⟨m, 1, none⟩ = some vF := h.c 1
    have q2 : w.cell? ⟨m, 2, none⟩ = some vS := h.c 2
    have HFI := rfind_any w vS p.seen t h.seen
    rw [hb, show noOf (some b) = (b : Int) from rfl] at HFI
    have HFI := hid HFI
    obtain ⟨sa, sl, sc, hvS⟩ : ∃ a l c, vS = .slice a l c := by obtain ⟨a, c, e, _⟩ := h.seen; exact ⟨a, _, c, e⟩
    subst hvS
    obtain ⟨g, cap, uc, ua, hR⟩ := h.file hf
    have c0 := hR.c0
    have hgl := hR.gl
    have hbl := hR.lt
    have hbi : (b : Int) < (F.length : Int) := by omega
    by_cases hk : k < 0 ∨ ((fileAt p b).b.length : Int) ≤ k
    · have e1 : pFlip (nm t) k x p = (1, p) := by simp [pFlip, h0, blockOf, hb, hk]
      rw [e1]
      rw [hR.vF] at q1
      generalize (fileAt p b).b.length = L at *
      clear h hI hF h0 e1 hb hw hf hR
      rcases hk with hk | hk
      · go_enter Tryz.func40, Tryz.ntmps40
        go_wp2_with (first | (go_at_call 66; refine (HT.out).mono ?_; rintro e w1 ⟨rfl, h1⟩; subst w1) | (go_at_call 63; refine (HFI.out).mono ?_; rintro e w1 ⟨rfl, h1⟩; subst w1))
        go_ret
        exact ⟨rfl, RDone.of (HH.out.more (by omega) hN) (Kp.refl _ _)⟩
      · have hk0 : ¬ k < 0 := by omega
        go_enter Tryz.func40, Tryz.ntmps40
        go_wp2_with (first | (go_at_call 66; refine (HT.out).mono ?_; rintro e w1 ⟨rfl, h1⟩; subst w1) | (go_at_call 63; refine (HFI.out).mono ?_; rintro e w1 ⟨rfl, h1⟩; subst w1))
        go_ret
        exact ⟨rfl, RDone.of (HH.out.more (by omega) hN) (Kp.refl _ _)⟩
    · obtain ⟨i, rfl⟩ : ∃ i : Nat, k = i := ⟨k.toNat, by omega⟩
      have hil : i < (fileAt p b).b.length := by omega
      have e1 : pFlip (nm t) i x p = (0, setF b ⟨(fileAt p b).b.set i ((fileAt p b).b.getD i 0 ^^^ x), (fileAt p b).safe⟩ p) := by
        simp [pFlip, h0, blockOf, hb, hil]
      rw [e1]
      have hall : ∀ y ∈ (fileAt p b).b, y < 256 := by obtain ⟨_, _, _, _, _, _, _, h6, _⟩ := hR.by'; exact h6
      have hyl : (fileAt p b).b.getD i 0 < 256 := by
        rw [getD_at hil]
        exact hall _ (List.getElem_mem hil)
      have hxor := u8_xor_nat ((fileAt p b).b.getD i 0) x hyl hx
      have HX : Hid (((fileAt p b).b.getD i 0 ^^^ x) < 256) := Nat.xor_lt_two_pow (n := 8) hyl hx
      have HBy : Hid (ByP D w (.slice ua (fileAt p b).b.length uc) (fileAt p b).b) := hR.by'
      have HFX : Hid (∀ V, Kp No w V → V.cell? ⟨m, 1, none⟩ = some vF ∧ V.cell? ⟨g, b * 2, none⟩ = some (.slice ua (fileAt p b).b.length uc) ∧ V.frozen? ⟨g, b * 2, none⟩ = false) := fun V kV => ⟨(kV.cell (p := ⟨m, 1, none⟩) hml (fun h => h)).trans q1, (kV.cell (p := ⟨g, b * 2, none⟩) hgl (fun h => h)).trans c0, (kV.frozen (p := ⟨g, b * 2, none⟩) hgl (fun h => h)).trans hR.z0⟩
      have HE : Hid (∀ V g2 cap2, Kp No w V → OwnB V (.slice (some ⟨g2, 0, none⟩) (fileAt p b).b.length cap2) (fileAt p b).b → w.heap.size ≤ g2 → RDone Q (N + 1) w ((V.setCell ⟨g2, i, none⟩ (.int .u8 (((fileAt p b).b.getD i 0 ^^^ x : Nat) : Int))).setCell ⟨g, b * 2, none⟩ (.slice (some ⟨g2, 0, none⟩) (fileAt p b).b.length cap2)) m (setF b ⟨(fileAt p b).b.set i ((fileAt p b).b.getD i 0 ^^^ x), (fileAt p b).safe⟩ p)) := fun V g2 cap2 kV ho hg2 => by
        have ho' := ho.set i ((fileAt p b).b.getD i 0 ^^^ x)
        have kW : Kp No w (V.setCell ⟨g2, i, none⟩ (.int .u8 (((fileAt p b).b.getD i 0 ^^^ x : Nat) : Int))) := kV.trans (Kp.set1 _ _ _ _) (fun y hy => .inr (by omega))
        have hlt := ho'.row.lt g2 rfl
        obtain ⟨r1, r2⟩ := rr_bytes h hR kW ((fileAt p b).b.set i ((fileAt p b).b.getD i 0 ^^^ x)) (.slice (some ⟨g2, 0, none⟩) (fileAt p b).b.length cap2) (· = g2) (fun y hy => by subst hy; exact ⟨hg2, hlt⟩) (ho'.byP (fun y hy => .inr (by cases hy; rfl)) (by simp; omega) (fun y hy => by
          rcases List.mem_or_eq_of_mem_set hy with h1 | rfl
          · exact hall y h1
          · exact HX.out)) (by have := hR.sl; simpa using this)
        refine ⟨_, ⟨_, vF, _, vA, vC, _, _, r1, inv_setF (hI.mono (by omega) hN) (by simp; omega), by simp; omega⟩, r2.mono (fun y hy => .inl (by subst hy; exact (RFileAt.out h hR).1)), fun y hy => ?_⟩
        rcases hy with hy | hy
        · exact .inl hy
        · exact .inr hy.1
      rw [hR.vF] at q1 HFX
      have hil' : (i : Int) < ((fileAt p b).b.length : Int) := by omega
      have hnot : ¬ ((fileAt p b).b.length : Int) ≤ (i : Int) := by omega
      generalize (fileAt p b).safe = sf at *
      generalize (fileAt p b).b = bs at *
      have HRC : Hid (∀ V g2 cap2, OwnB V (.slice (some ⟨g2, 0, none⟩) bs.length cap2) bs → V.cell? ⟨g2, i, none⟩ = some (.int .u8 (bs.getD i 0 : Nat)) ∧ V.frozen? ⟨g2, i, none⟩ = false) := fun V g2 cap2 ho => row_cell ho rfl i hil
      generalize bs.getD i 0 = y at *
      generalize (setF b ⟨bs.set i (y ^^^ x), sf⟩ p) = R at *
      clear h hI hF h0 e1 hb hw hf hR hk hall
      go_enter Tryz.func40, Tryz.ntmps40
      go_wp2_with (first | (go_at_call 66; refine (HT.out).mono ?_; rintro e w1 ⟨rfl, h1⟩; subst w1) | (go_at_call 63; refine (HFI.out).mono ?_; rintro e w1 ⟨rfl, h1⟩; subst w1) | (at_builtin; refine app_bytes _ rfl _ _ rfl (.slice (some ⟨w.heap.size, 0, none⟩) 0 0) _ [] bs D rfl rfl (own_empty w) (HBy.out.kept ((Kp.refl _ _).alloc _)) (by simp; omega) ?_; intro a2 cap2 w2 hown hg2 hb2; simp only [List.length_nil, Nat.zero_add, List.nil_append] at hown hb2 ⊢; obtain ⟨g2, rfl⟩ := own_some hown (by omega); have K2 : Hid (Kp No w w2) := ((Kp.refl _ w).alloc _).grown hg2 (fun z hz => .inr (by simp [Value.ownBlock] at hz; omega)); have hgz : w.heap.size ≤ g2 := (by rcases hb2 with e | e <;> simp [Value.ownBlock] at e <;> omega); have hne2 : g ≠ g2 := (by omega); have hne3 : m ≠ g2 := (by omega); obtain ⟨y1, y0, yz⟩ := HFX.out _ K2.out; obtain ⟨v0, vz⟩ := HRC.out _ _ _ hown; have HO := hid hown; clear hown hg2 hb2) | go_in)
      go_ret
      exact ⟨rfl, HE.out _ _ _ K2.out HO.out hgz⟩
  · have e1 : pFlip (nm t) k x p = (finds p (nm t), p) := by simp [pFlip, h0]
    rw [e1]
    generalize finds p (nm t) = y at *
    have hne : ((y : Int) != 0) = true := by simp; omega
    clear e1 h0 hI h hF
    go_enter Tryz.func40, Tryz.ntmps40
    go_wp2_with (go_at_call 66; refine (HT.out).mono ?_; rintro e w1 ⟨rfl, h1⟩; subst w1)
    go_ret
    exact ⟨rfl, RDone.of (HH.out.more (by omega) hN) (Kp.refl _ _)⟩

end Go.Proofs.YtmiipifhbliamaaGreat.Sim
