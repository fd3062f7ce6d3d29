/-
  Copy: another system, the same under other blocks.
-/
import Derived.Test.YtmiipifhbliamaaGreatSimCopy3
namespace Go.Proofs.YtmiipifhbliamaaGreat.Sim
open Go.RowKit Go.Maps

def backOf (R : List Nat) (g : Nat → Nat) (y : Nat) : Option Nat := R.find? (fun b => g b == y)
theorem backOf_at {R : List Nat} {g : Nat → Nat} (hi : ∀ b c, b ∈ R → c ∈ R → g b = g c → b = c) {b : Nat} (hb : b ∈ R) : backOf R g (g b) = some b := by
  unfold backOf
  cases hf : R.find? (fun b' => g b' == g b) with
  | none => have := List.find?_eq_none.1 hf b hb; simp at this
  | some b' =>
    have h1 := List.mem_of_find?_eq_some hf
    have h2 := List.find?_some hf
    simp at h2
    rw [hi b' b h1 hb h2]
theorem backOf_some {R : List Nat} {g : Nat → Nat} {y b : Nat} (h : backOf R g y = some b) : b ∈ R ∧ g b = y := by
  have h1 := List.mem_of_find?_eq_some h
  have h2 := List.find?_some h
  simp at h2
  exact ⟨h1, h2⟩

/-- Copy. -/
theorem copy_any {P : Nat → Prop} {N : Nat} (w : World) (s : Nat) (p : PS) (h : Sys P N w s p) :
    Calls Tryz.prog 9 #[.pointer (some ⟨s, 0, none⟩)] w fun e w' => ∃ c g q P', e = .returned (.pointer (some ⟨c, 0, none⟩)) ∧ CopyOf g p q ∧ Sys P' N w' c q ∧ (∀ x, P' x → w.heap.size ≤ x) ∧ Kp No w w' := by
  have hI := h.inv
  refine (copy_walk w s p h).mono ?_
  rintro e w' ⟨c, mb, g, u, vc, wr, ms, rfl, hC, hms, hB, hM, hK⟩
  have htk : p.chg.take p.chg.length = p.chg := List.take_of_length_le (Nat.le_refl _)
  have hcps := hC.cps
  rw [htk] at hcps
  have hrow := hC.row
  rw [htk] at hrow
  have hinj : ∀ a b, a ∈ vals p.safe ++ mades p.chg → b ∈ vals p.safe ++ mades p.chg → g a = g b → a = b := fun a b ha hb e => by
    refine Classical.byContradiction fun hne => ?_
    exact (hcps.apart a b ha hb hne).1 e
  have hfold := ren_fold g p.chg p.safe hI.okc
  have hseen : (p.chg.map (renC g)).foldl pdo (ren g p.safe) = ren g p.seen := by rw [hfold.1, ← hI.seen_eq]
  rw [hseen] at hM
  obtain ⟨q, hq⟩ : ∃ q : PS, q = ⟨p.room, true, ren g p.seen, ren g p.safe, p.chg.map (renC g), p.down, p.armed, p.left, p.steps, fun y => (backOf (vals p.safe ++ mades p.chg) g y).bind p.files⟩ := ⟨_, rfl⟩
  have hCo : CopyOf g p q := by
    subst hq
    exact ⟨rfl, rfl, rfl, rfl, rfl, rfl, rfl, rfl, rfl, fun b hb => by show (backOf _ g (g b)).bind p.files = _; rw [backOf_at hinj hb]; rfl, hinj⟩
  have hfl : ∀ y f, q.files y = some f → ∃ b, b ∈ vals p.safe ++ mades p.chg ∧ g b = y ∧ p.files b = some f ∧ backOf (vals p.safe ++ mades p.chg) g y = some b := fun y f hf => by
    subst hq
    have hf' : (backOf (vals p.safe ++ mades p.chg) g y).bind p.files = some f := hf
    cases hb : backOf (vals p.safe ++ mades p.chg) g y with
    | none => rw [hb] at hf'; cases hf'
    | some b =>
      rw [hb] at hf'
      obtain ⟨h1, h2⟩ := backOf_some hb
      exact ⟨b, h1, h2, hf', rfl⟩
  have hinv := inv_copy hI hCo (fun y f hf => by obtain ⟨b, _, _, h3, _⟩ := hfl y f hf; exact hI.lfile b f h3)
  have hmbl := hC.map.lt
  have hwz := hC.kp.size
  have hkz := hK.size
  refine ⟨c, g, q, fun x => w.heap.size ≤ x ∧ x < w'.heap.size, rfl, hCo, ⟨.map (some ms), .map (some mb), vc, fun y => match backOf (vals p.safe ++ mades p.chg) g y with | some b => u b | none => .slice none 0 0, ?_⟩, fun x hx => hx.1, hC.kp.trans hK (fun x hx => .inr (by rw [hx]; exact hC.cn))⟩
  have hsafe : MapAt w' mb (ren g p.safe) := hC.map.kp hK (hC.map.blk hC.blk)
  have hrow' : Row w' 69 4 vc p.chg.length (chgs (p.chg.map (renC g))) := hrow.kp hK (fun x hx e => hrow.ne hC.blk (by decide) (by rw [hx, e]))
  have hfile : ∀ b, b ∈ vals p.safe ++ mades p.chg → ∃ f, p.files b = some f ∧ FileAt w' (g b) (u b) f ∧ w.heap.size ≤ g b ∧ ∀ x, (u b).ownBlock = some x → w.heap.size ≤ x := fun b hb => by
    obtain ⟨f, h1, h2, h3, h4⟩ := hcps.file b hb
    exact ⟨f, h1, h2.kp hK (h2.blk.ne hC.blk (by decide)) (fun x hx e => h2.own.row.ne hC.blk (by decide) (by rw [hx, e])), h3, h4⟩
  exact {
    lt := fun x hx => hx.2
    ps := ⟨hC.cn, hB.lt⟩
    blk := by subst hq; exact hB
    seen := by subst hq; exact .inr ⟨ms, rfl, hM⟩
    safe := by subst hq; exact .inr ⟨mb, rfl, hsafe⟩
    unmade := fun e => by rw [hCo.made] at e; cases e
    mades := fun _ => ⟨ms, mb, rfl, rfl, by omega, ⟨by omega, hM.lt⟩, ⟨hC.mbn, hsafe.lt⟩⟩
    chg := by
      subst hq
      show Row w' 69 4 vc (p.chg.map (renC g)).length _
      rw [List.length_map]
      exact hrow'
    pc := fun x hx => ⟨hC.own x hx, hrow'.lt x hx⟩
    file := fun y f hf => by
      obtain ⟨b, h1, h2, h3, h4⟩ := hfl y f hf
      obtain ⟨f', r1, r2, r3, r4⟩ := hfile b h1
      rw [h3] at r1
      cases r1
      subst h2
      simp only [h4]
      exact ⟨⟨r3, r2.blk.lt⟩, r2, fun x hx => ⟨r4 x hx, r2.own.row.lt x hx⟩⟩
    sep := fun y y' f f' hf hf' hne x hx => by
      obtain ⟨b, h1, h2, h3, h4⟩ := hfl y f hf
      obtain ⟨b', h1', h2', h3', h4'⟩ := hfl y' f' hf'
      simp only [h4] at hx
      simp only [h4']
      exact (hcps.apart b b' h1 h1' (fun e => hne (by rw [← h2, ← h2', e]))).2 x hx
    inv := hinv }

end Go.Proofs.YtmiipifhbliamaaGreat.Sim
