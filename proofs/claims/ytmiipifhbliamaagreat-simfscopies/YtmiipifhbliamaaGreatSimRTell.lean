/-
  The reference's Used and Read.
-/
import Derived.Test.YtmiipifhbliamaaGreatSimRMake
import Derived.Deep.RegionHeld3
namespace Go.Proofs.YtmiipifhbliamaaGreat.Sim
open Go.RowKit Go.Maps

/-- A file of the reference, in memory. -/
structure RFileAt (D : Nat → Prop) (w : World) (vF : Value) (us : List Value) (F : List Fl) (b : Nat) (f : Fl) (g cap uc : Nat) (ua : Option Addr) : Prop where
  vF : vF = .slice (some ⟨g, 0, none⟩) F.length cap
  lt : b < F.length
  le : F.length ≤ cap
  gl : g < w.heap.size
  get : F[b]? = some f
  u : us[b]? = some (.slice ua f.b.length uc)
  by' : ByP D w (.slice ua f.b.length uc) f.b
  sl : f.safe ≤ f.b.length
  c0 : w.cell? ⟨g, b * 2, none⟩ = some (.slice ua f.b.length uc)
  c1 : w.cell? ⟨g, b * 2 + 1, none⟩ = some (.int .i64 (f.safe : Int))
  z0 : w.frozen? ⟨g, b * 2, none⟩ = false
  z1 : w.frozen? ⟨g, b * 2 + 1, none⟩ = false

theorem Rr.file {Q D : Nat → Prop} {w : World} {m : Nat} {p : PS} {vF vS vA vC : Value} {us : List Value} {F : List Fl} (h : Rr Q D w m p vF vS vA vC us F) {b : Nat} {f : Fl} (hb : p.files b = some f) : ∃ g cap uc ua, RFileAt D w vF us F b f g cap uc ua := by
  have hg : F[b]? = some f := by rw [h.files] at hb; exact hb
  have hlt := (List.getElem?_eq_some_iff.1 hg).1
  have hu : us[b]? = some (us[b]'(by rw [h.ulen]; exact hlt)) := List.getElem?_eq_getElem _
  generalize us[b]'(by rw [h.ulen]; exact hlt) = u at hu
  obtain ⟨h1, h2⟩ := h.ub b u f hu hg
  obtain ⟨ua, uc, rfl, _⟩ := h1
  have hrow := h.frow
  rcases hrow.2 with ⟨e, h0⟩ | ⟨g, cap, cur, rfl, hg', hh, hn, hc, hs, ht⟩
  · omega
  · obtain ⟨c0, c1⟩ := rfs_at us F b _ f hu hg
    refine ⟨g, cap, uc, ua, ⟨rfl, hlt, hn, (Array.getElem?_eq_some_iff.1 hh).1, hg, hu, (h.ub b _ f hu hg).1, h2, ?_, ?_, ?_, ?_⟩⟩
    · rw [hrow.cellAt (b * 2) (by omega)]; exact c0
    · rw [hrow.cellAt (b * 2 + 1) (by omega)]; exact c1
    · simp [World.frozen?, hh]
    · simp [World.frozen?, hh]

def sumTo (p : PS) (i : Nat) : Nat := ((p.seen.take i).map fun e => (fileAt p e.2).b.length).sum
theorem sumTo_le (p : PS) {N : Nat} (hI : PInv N p) (i : Nat) : sumTo p i ≤ 1000 * 200000 := by
  unfold sumTo
  have h1 : ∀ l : Dir, (∀ e ∈ l, e ∈ p.seen) → (l.map fun e => (fileAt p e.2).b.length).sum ≤ l.length * 200000 := by
    intro l
    induction l with
    | nil => simp
    | cons x r ih =>
      intro h
      have h2 := ih (fun e he => h e (by simp [he]))
      obtain ⟨f, hf⟩ := Option.isSome_iff_exists.1 (hI.hasSeen x (h x (by simp))).1
      have h3 := hI.lfile _ f hf
      have h4 := hI.big
      have h5 : (fileAt p x.2).b.length ≤ 200000 := by simp only [fileAt, hf, Option.getD_some]; omega
      rw [List.map_cons, List.sum_cons, List.length_cons, Nat.add_mul]
      omega
  have h6 := h1 (p.seen.take i) (fun e he => List.mem_of_mem_take he)
  have h7 := List.length_take_le i p.seen
  have h8 := List.length_take_le' i p.seen
  have h9 := hI.lseen
  have h10 := hI.big
  exact Nat.le_trans h6 (Nat.mul_le_mul_right _ (by omega))

set_option maxHeartbeats 4000000 in
theorem rused_any {Q : Nat → Prop} {N : Nat} (w : World) (m : Nat) (p : PS) (h : RSys Q N w m p) : Calls Tryz.prog 44 #[.pointer (some ⟨m, 0, none⟩)] w fun e w' => e = .returned (.int .i64 (used p : Nat)) ∧ Kp No w w' := by
  obtain ⟨D, vF, vS, vA, vC, us, F, h, hI, hF⟩ := h
  have hml := h.lt m h.qm
  have q1 : w.cell? ⟨m, 1, none⟩ = some vF := h.c 1
  have q2 : w.cell? ⟨m, 2, none⟩ = some vS := h.c 2
  have HB : Hid (∀ i, sumTo p i ≤ 1000 * 200000) := sumTo_le p hI
  have hls := hI.lseen
  have hbg := hI.big
  have HFI : Hid (∀ e ∈ p.seen, ∃ f g cap uc ua, fileAt p e.2 = f ∧ RFileAt D w vF us F e.2 f g cap uc ua) := fun e he => by
    obtain ⟨f, hf⟩ := Option.isSome_iff_exists.1 (hI.hasSeen e he).1
    obtain ⟨g, cap, uc, ua, hr⟩ := h.file hf
    exact ⟨f, g, cap, uc, ua, by simp [fileAt, hf], hr⟩
  obtain ⟨sa, sc, rfl, hs1, hs2, hs3⟩ := h.seen
  obtain ⟨fa, fc, hvF, _⟩ := h.frow.shape
  have HS := hid hs3
  have r1 : Hid (∀ V, Kp No w V → V.cell? ⟨m, 1, none⟩ = some vF) := fun V k => (k.cell (p := ⟨m, 1, none⟩) hml (fun h => h)).trans q1
  have r2 : Hid (∀ V, Kp No w V → V.cell? ⟨m, 2, none⟩ = some (.slice sa p.seen.length sc)) := fun V k => (k.cell (p := ⟨m, 2, none⟩) hml (fun h => h)).trans q2
  clear hs3 h hI hF q1 q2
  go_enter Tryz.func44, Tryz.ntmps44
  go_wp2
  go_loopw [3, 4] (fun x y wr => ∃ i : Nat, x = .int .i64 (sumTo p i : Nat) ∧ y = .int .i64 i ∧ i ≤ p.seen.length ∧ Hid (Kp No w wr)) (fun _ y _ => p.seen.length - (intOf y).toNat)
  case atStart => exact ⟨0, by simp [sumTo], rfl, by omega, Kp.refl _ _⟩
  case round =>
    obtain ⟨i, rfl, rfl, hi, HK⟩ := hrel
    have z1 := r1.out _ HK.out
    have z2 := r2.out _ HK.out
    by_cases hlt : i < p.seen.length
    · obtain ⟨g, rfl, _, hg, hcell⟩ := HS.out (by intro e; rw [e] at hlt; simp at hlt)
      obtain ⟨c, hc⟩ : ∃ c, p.seen[i]? = some c := ⟨_, List.getElem?_eq_getElem hlt⟩
      have hcm := List.mem_of_getElem? hc
      obtain ⟨f, gf, cap, uc, ua, hfa, hR⟩ := HFI.out c hcm
      have HT : Hid (sumTo p (i + 1) = sumTo p i + f.b.length) := by
        rw [Hid, sumTo, sumTo, List.take_add_one, hc]
        simp [hfa]
      have hb1 := HB.out i
      have hb2 := HB.out (i + 1)
      rw [HT.out] at hb2
      have e1 : wr.cell? ⟨g, i * 2 + 1, none⟩ = some (.int .i64 (c.2 : Int)) := (HK.out.cell (p := ⟨g, i * 2 + 1, none⟩) hg (fun h => h)).trans (hcell i c hc 1 (by omega))
      have e2 : wr.cell? ⟨gf, c.2 * 2, none⟩ = some (.slice ua f.b.length uc) := (HK.out.cell (p := ⟨gf, c.2 * 2, none⟩) hR.gl (fun h => h)).trans hR.c0
      have e3 := hR.vF
      have e4 := hR.lt
      have e5 : (c.2 : Int) < (F.length : Int) := by omega
      rw [e3] at z1
      generalize sumTo p i = S at *
      generalize f.b.length = L at *
      clear hcell hc hcm hfa hR e3 hvF
      go_wp2_with fail
      go_quiet (fail)
      go_wp2
      go_roundw
      case rel => exact ⟨i + 1, by rw [HT.out]; go_num, by go_num, by omega, HK.out.drewN _⟩
      case measure => simp [intOf]; omega
    · obtain rfl : i = p.seen.length := by omega
      go_wp2
      go_ret
      refine ⟨?_, HK.out⟩
      have : sumTo p p.seen.length = used p := by rw [sumTo, List.take_length]; rfl
      rw [this]
      rfl

theorem finds_zero {p : PS} {n : Nm} (h : finds p n = 0) : wrongs p [n] = 0 ∧ ∃ b, dfind p.seen n = some b := by
  unfold finds at h
  split at h
  · rename_i h1; exact absurd h h1
  · rename_i h1
    split at h
    · rename_i h2; exact ⟨by simpa using h1, Option.isSome_iff_exists.1 h2⟩
    · cases h

set_option maxHeartbeats 4000000 in
theorem rread_any {Q : Nat → Prop} {N : Nat} (w : World) (m : Nat) (p : PS) (t : ByteArray) (ht : t.size ≤ 1000000) (h : RSys Q N w m p) :
    Calls Tryz.prog 27 #[.pointer (some ⟨m, 0, none⟩), .string t] w fun e w' => ∃ ad cap, e = .returned (.tuple #[.slice ad (pBytes (nm t) p).length cap, .int .i64 (finds p (nm t) : Nat)]) ∧ ByP Q w' (.slice ad (pBytes (nm t) p).length cap) (pBytes (nm t) p) ∧ Kp No w w' := by
  obtain ⟨D, vF, vS, vA, vC, us, F, h, hI, hF⟩ := h
  have HT := hid (rthere_any h t ht)
  by_cases h0 : finds p (nm t) = 0
  · obtain ⟨hw, b, hb⟩ := finds_zero h0
    have hf := hI.hasFound hb
    obtain ⟨g, cap, uc, ua, hR⟩ := h.file hf
    have e1 : pBytes (nm t) p = (fileAt p b).b := by simp [pBytes, h0, blockOf, hb]
    rw [e1]
    rw [h0] at HT ⊢
    have HBy : Hid (ByP Q w (.slice ua (fileAt p b).b.length uc) (fileAt p b).b) := hR.by'.mono (fun x _ hx => (h.dq x hx).1)
    have HFI : Hid (∀ V, Kp No w V → Calls Tryz.prog 63 #[vS, .string t] V fun e w' => e = .returned (.int .i64 (b : Int)) ∧ w' = V) := fun V k => by
      have := rfind_any V vS p.seen t (h.seen.kept k)
      rw [hb] at this
      exact this
    have hml := h.lt m h.qm
    have q1 : w.cell? ⟨m, 1, none⟩ = some vF := h.c 1
    have q2 : w.cell? ⟨m, 2, none⟩ = some vS := h.c 2
    obtain ⟨sa, sl, sc, hvS⟩ : ∃ a l c, vS = .slice a l c := by obtain ⟨a, c, e, _⟩ := h.seen; exact ⟨a, _, c, e⟩
    subst hvS
    have c0 := hR.c0
    have hgl := hR.gl
    have hbl : (b : Int) < (F.length : Int) := by have := hR.lt; omega
    have hbl' := hR.lt
    rw [hR.vF] at q1
    generalize (fileAt p b).b = bs at *
    clear h hI hF h0 hw hb hf hR e1
    go_enter Tryz.func27, Tryz.ntmps27
    go_wp2_with (go_at_call 66; refine (HT.out).mono ?_; rintro e w1 ⟨rfl, h1⟩; subst w1)
    have r1 : ∀ V, Kp No w V → V.cell? ⟨m, 1, none⟩ = some (.slice (some ⟨g, 0, none⟩) F.length cap) := fun V k => (k.cell (p := ⟨m, 1, none⟩) hml (fun h => h)).trans q1
    have r2 : ∀ V, Kp No w V → V.cell? ⟨m, 2, none⟩ = some (.slice sa sl sc) := fun V k => (k.cell (p := ⟨m, 2, none⟩) hml (fun h => h)).trans q2
    have r3 : ∀ V, Kp No w V → V.cell? ⟨g, b * 2, none⟩ = some (.slice ua bs.length uc) := fun V k => (k.cell (p := ⟨g, b * 2, none⟩) hgl (fun h => h)).trans c0
    go_region_held3 (fun V => Kp No w V) (first | (with_reducible exact Kp.refl _ _) | (with_reducible exact (Kp.refl _ _).drew)) (first | (go_at_call 63; refine (HFI.out _ ?_).mono ?_; (with_reducible exact (Kp.refl _ _).drew); rintro e w1 ⟨rfl, h1⟩; subst w1))
    go_wp2
    go_ret2
    exact ⟨ua, uc, rfl, HBy.out.kept (Kp.refl _ _).drew, (Kp.refl _ _).drew⟩
  · have e1 : pBytes (nm t) p = [] := by simp [pBytes, h0]
    rw [e1]
    generalize finds p (nm t) = x at *
    have hne : ((x : Int) != 0) = true := by simp; omega
    clear h hI hF h0 e1
    go_enter Tryz.func27, Tryz.ntmps27
    go_wp2_with (go_at_call 66; refine (HT.out).mono ?_; rintro e w1 ⟨rfl, h1⟩; subst w1)
    go_ret2
    exact ⟨none, 0, rfl, ByP.nil _ _, Kp.refl _ _⟩

end Go.Proofs.YtmiipifhbliamaaGreat.Sim
