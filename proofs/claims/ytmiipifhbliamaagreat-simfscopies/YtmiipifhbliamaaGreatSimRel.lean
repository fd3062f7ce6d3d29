/-
  Two systems that are the same but for their files' numbers: each call makes the same of both.
-/
import Derived.Test.YtmiipifhbliamaaGreatSimDoes4
import Derived.Test.YtmiipifhbliamaaGreatSimSafeM
namespace Go.Proofs.YtmiipifhbliamaaGreat.Sim
open Go.RowKit Go.Maps

/-- A file that a name leads to, or may lead to behind an Up. -/
def Ref (p : PS) (b : Nat) : Prop := b ∈ vals p.safe ++ mades p.chg
theorem fold_ref {d : Dir} {l : List PC} (hok : okcs d l) : ∀ e ∈ l.foldl pdo d, e.2 ∈ vals d ++ mades l := fun e he =>
  (fold_has (F := fun b => b ∈ vals d ++ mades l) (M := fun _ => True) l d hok (fun e he => ⟨List.mem_append_left _ (List.mem_map.2 ⟨e, he, rfl⟩), trivial⟩) (fun c hc => ⟨fun hk => List.mem_append_right _ (List.mem_map.2 ⟨c, List.mem_filter.2 ⟨hc, by simp [hk]⟩, rfl⟩), trivial, trivial⟩) e he).1
theorem PInv.ref {N : Nat} {p : PS} (h : PInv N p) {b : Nat} (hb : Ref p b) : (p.files b).isSome = true := by
  rcases List.mem_append.1 hb with hb | hb
  · obtain ⟨e, he, rfl⟩ := List.mem_map.1 hb
    exact h.has e he
  · obtain ⟨c, hc, rfl⟩ := List.mem_map.1 hb
    obtain ⟨h1, h2⟩ := List.mem_filter.1 hc
    exact h.hasC c h1 (by simpa using h2)
theorem PInv.refSeen {N : Nat} {p : PS} (h : PInv N p) : ∀ e ∈ p.seen, Ref p e.2 := by
  rw [h.seen_eq]
  exact fold_ref h.okc
theorem PInv.refFound {N : Nat} {p : PS} (h : PInv N p) {n : Nm} {b : Nat} (hb : dfind p.seen n = some b) : Ref p b := h.refSeen _ (mem_of_dfind hb)

structure Rel (g : Nat → Nat) (p r : PS) : Prop where
  room : r.room = p.room
  down : r.down = p.down
  armed : r.armed = p.armed
  left : r.left = p.left
  steps : r.steps = p.steps
  safe : r.safe = ren g p.safe
  seen : r.seen = ren g p.seen
  chg : r.chg = p.chg.map (renC g)
  file : ∀ b, Ref p b → r.files (g b) = p.files b
  inj : ∀ b b', Ref p b → Ref p b' → g b = g b' → b = b'

section
variable {g : Nat → Nat} {p r : PS} (h : Rel g p r)
include h
theorem rel_wrongs (l : List Nm) : wrongs r l = wrongs p l := by unfold wrongs; rw [h.down]
theorem rel_find (n : Nm) : dfind r.seen n = (dfind p.seen n).map g := by rw [h.seen, ren_find]
theorem rel_finds (n : Nm) : finds r n = finds p n := by
  unfold finds
  rw [rel_wrongs h, rel_find h, Option.isSome_map]
theorem rel_block {n : Nm} {b : Nat} (hb : dfind p.seen n = some b) : blockOf r n = g b := by
  unfold blockOf
  rw [rel_find h, hb]
  rfl
theorem rel_fileAt {b : Nat} (hb : Ref p b) : fileAt r (g b) = fileAt p b := by
  unfold fileAt
  rw [h.file b hb]
theorem rel_dead : dead r = dead p := by unfold dead; rw [h.armed, h.left]
theorem rel_tick : Rel g (tick p) (tick r) :=
  ⟨h.room, h.down, h.armed, by show (if r.armed then r.left - 1 else r.left) = (if p.armed then p.left - 1 else p.left); rw [h.armed, h.left], by show r.steps + 1 = p.steps + 1; rw [h.steps], h.safe, h.seen, h.chg, h.file, h.inj⟩
theorem rel_fall : Rel g (fall p) (fall r) := ⟨h.room, rfl, h.armed, h.left, h.steps, h.safe, h.seen, h.chg, h.file, h.inj⟩
theorem rel_setF {b : Nat} (hb : Ref p b) (f : Fl) : Rel g (setF b f p) (setF (g b) f r) := by
  refine ⟨h.room, h.down, h.armed, h.left, h.steps, h.safe, h.seen, h.chg, fun x hx => ?_, h.inj⟩
  show (if g x = g b then some f else r.files (g x)) = (if x = b then some f else p.files x)
  by_cases e : x = b
  · rw [if_pos e, if_pos (by rw [e])]
  · rw [if_neg e, if_neg (fun eg => e (h.inj x b hx hb eg))]
    exact h.file x hx
theorem rel_chgd (c : PC) (hok : okc p.seen c) (h0 : c.kind ≠ 0) : Rel g (chgd c p) (chgd c r) := by
  have e : renC g c = c := by unfold renC; rw [if_neg h0]
  have hm : ∀ x, Ref (chgd c p) x → Ref p x := fun x hx => by
    have e1 : mades (p.chg ++ [c]) = mades p.chg := by simp [mades, h0]
    have hx' : x ∈ vals p.safe ++ mades (p.chg ++ [c]) := hx
    rw [e1] at hx'
    exact hx'
  refine ⟨h.room, h.down, h.armed, h.left, h.steps, h.safe, ?_, ?_, fun x hx => h.file x (hm x hx), fun x y hx hy => h.inj x y (hm x hx) (hm y hy)⟩
  · show pdo r.seen c = ren g (pdo p.seen c)
    have := (ren_pdo g p.seen c hok).1
    rw [e] at this
    rw [h.seen, this]
  · show r.chg ++ [c] = (p.chg ++ [c]).map (renC g)
    rw [h.chg, List.map_append, List.map_cons, List.map_nil, e]
theorem rel_settle (k : Nat) (hok : okcs p.safe p.chg) : Rel g (settle k p) (settle k r) := by
  have h1 : okcs p.safe (p.chg.take k) := by rw [← List.take_append_drop k p.chg, okcs_append] at hok; exact hok.1
  have hm : ∀ x, Ref (settle k p) x → Ref p x := fun x hx => by
    have hx' : x ∈ vals ((p.chg.take k).foldl pdo p.safe) ++ mades [] := hx
    have e0 : mades [] = [] := rfl
    rw [e0, List.append_nil] at hx'
    obtain ⟨e, he, rfl⟩ := List.mem_map.1 hx'
    rcases List.mem_append.1 (fold_ref h1 e he) with h2 | h2
    · exact List.mem_append_left _ h2
    · refine List.mem_append_right _ ?_
      obtain ⟨c, hc, e2⟩ := List.mem_map.1 h2
      obtain ⟨h3, h4⟩ := List.mem_filter.1 hc
      exact List.mem_map.2 ⟨c, List.mem_filter.2 ⟨List.mem_of_mem_take h3, h4⟩, e2⟩
  refine ⟨h.room, h.down, h.armed, h.left, h.steps, ?_, h.seen, rfl, fun x hx => h.file x (hm x hx), fun x y hx hy => h.inj x y (hm x hx) (hm y hy)⟩
  show (r.chg.take k).foldl pdo r.safe = ren g ((p.chg.take k).foldl pdo p.safe)
  rw [h.chg, h.safe, ← List.map_take]
  exact (ren_fold g (p.chg.take k) p.safe h1).1
end

/-- Both do a step. -/
theorem rel_stp {g : Nat → Nat} {p r : PS} (h : Rel g p r) (F G : PS → PS) (hFG : Rel g (tick p) (tick r) → Rel g (F (tick p)) (G (tick r))) : (stp r G).1 = (stp p F).1 ∧ Rel g (stp p F).2 (stp r G).2 := by
  unfold stp
  rw [rel_dead h]
  split
  · exact ⟨rfl, rel_fall h⟩
  · exact ⟨rfl, hFG (rel_tick h)⟩

section
variable {g : Nat → Nat} {p r : PS} (h : Rel g p r)
include h
theorem rel_remove (n : Nm) : (pRemove n r).1 = (pRemove n p).1 ∧ Rel g (pRemove n p).2 (pRemove n r).2 := by
  unfold pRemove
  rw [rel_finds h]
  split
  · exact ⟨rfl, h⟩
  · exact rel_stp h _ _ (fun ht => rel_chgd ht _ ⟨by simp, fun e => by simp at e⟩ (by simp))
theorem rel_rename (n t : Nm) : (pRename n t r).1 = (pRename n t p).1 ∧ Rel g (pRename n t p).2 (pRename n t r).2 := by
  unfold pRename
  rw [rel_wrongs h, rel_find h, Option.isSome_map]
  split
  · exact ⟨rfl, h⟩
  · split
    · rename_i hs
      exact rel_stp h _ _ (fun ht => rel_chgd ht _ ⟨by simp, fun _ => hs⟩ (by simp))
    · exact ⟨rfl, h⟩
theorem rel_arm (k : Int) : (pArm k r).1 = (pArm k p).1 ∧ Rel g (pArm k p).2 (pArm k r).2 := by
  unfold pArm
  rw [rel_wrongs h]
  repeat' split
  · exact ⟨rfl, h⟩
  · exact ⟨rfl, h⟩
  · exact ⟨rfl, ⟨h.room, h.down, rfl, rfl, h.steps, h.safe, h.seen, h.chg, h.file, h.inj⟩⟩
end
section
variable {g : Nat → Nat} {p r : PS} {N : Nat} (h : Rel g p r) (hI : PInv N p)
include h hI
theorem rel_used : used r = used p := by
  rw [used_eq, used_eq, h.seen]
  have e : vals (ren g p.seen) = (vals p.seen).map g := by unfold vals ren; rw [List.map_map, List.map_map]; rfl
  rw [e, List.map_map]
  congr 1
  apply List.map_congr_left
  intro x hx
  obtain ⟨e', he', rfl⟩ := List.mem_map.1 hx
  show lens r (g e'.2) = lens p e'.2
  unfold lens
  rw [rel_fileAt h (hI.refSeen e' he')]
theorem rel_bytes (n : Nm) : pBytes n r = pBytes n p := by
  unfold pBytes
  rw [rel_finds h]
  split
  · rfl
  · rename_i h0
    obtain ⟨_, b, hb⟩ := finds_zero (p := p) (n := n) (by simpa using h0)
    have e : blockOf p n = b := by unfold blockOf; rw [hb]; rfl
    rw [rel_block h hb, e, rel_fileAt h (hI.refFound hb)]
theorem rel_append (n : Nm) (bs : List Nat) : (pAppend n bs r).1 = (pAppend n bs p).1 ∧ Rel g (pAppend n bs p).2 (pAppend n bs r).2 := by
  unfold pAppend
  rw [rel_finds h, rel_used h hI, h.room]
  split
  · exact ⟨rfl, h⟩
  · rename_i h0
    split
    · exact ⟨rfl, h⟩
    · obtain ⟨_, b, hb⟩ := finds_zero (p := p) (n := n) (by simpa using h0)
      have e : blockOf p n = b := by unfold blockOf; rw [hb]; rfl
      have hs := hI.refFound hb
      rw [rel_block h hb, e, rel_fileAt h hs]
      exact rel_stp h _ _ (fun ht => rel_setF ht hs _)
theorem rel_fsync (n : Nm) : (pFsync n r).1 = (pFsync n p).1 ∧ Rel g (pFsync n p).2 (pFsync n r).2 := by
  unfold pFsync
  rw [rel_finds h]
  split
  · exact ⟨rfl, h⟩
  · rename_i h0
    obtain ⟨_, b, hb⟩ := finds_zero (p := p) (n := n) (by simpa using h0)
    have e : blockOf p n = b := by unfold blockOf; rw [hb]; rfl
    have hs := hI.refFound hb
    rw [rel_block h hb, e, rel_fileAt h hs]
    exact rel_stp h _ _ (fun ht => rel_setF ht hs _)
theorem rel_flip (n : Nm) (a : Int) (y : Nat) : (pFlip n a y r).1 = (pFlip n a y p).1 ∧ Rel g (pFlip n a y p).2 (pFlip n a y r).2 := by
  unfold pFlip
  rw [rel_finds h]
  split
  · exact ⟨rfl, h⟩
  · rename_i h0
    obtain ⟨_, b, hb⟩ := finds_zero (p := p) (n := n) (by simpa using h0)
    have e : blockOf p n = b := by unfold blockOf; rw [hb]; rfl
    have hs := hI.refFound hb
    rw [rel_block h hb, e, rel_fileAt h hs]
    split
    · exact ⟨rfl, h⟩
    · exact ⟨rfl, rel_setF h hs _⟩
theorem rel_syncdir : (pSyncDir r).1 = (pSyncDir p).1 ∧ Rel g (pSyncDir p).2 (pSyncDir r).2 := by
  unfold pSyncDir
  rw [rel_wrongs h, h.chg, List.length_map]
  split
  · exact ⟨rfl, h⟩
  · exact rel_stp h _ _ (fun ht => rel_settle ht _ hI.okc)
/-- A new file, with a number of its own on each side. -/
theorem rel_create (n : Nm) (c d : Nat) (hc : p.files c = none) (hd : r.files d = none) : (pCreate n d r).1 = (pCreate n c p).1 ∧ ∃ g', Rel g' (pCreate n c p).2 (pCreate n d r).2 := by
  unfold pCreate
  rw [rel_wrongs h, rel_find h, Option.isSome_map]
  split
  · exact ⟨rfl, g, h⟩
  · split
    · exact ⟨rfl, g, h⟩
    · unfold stp
      rw [rel_dead h]
      split
      · exact ⟨rfl, g, rel_fall h⟩
      · refine ⟨rfl, fun x => if x = c then d else g x, ?_⟩
        have ht := rel_tick h
        obtain ⟨g', hg'⟩ : ∃ g' : Nat → Nat, g' = fun x => if x = c then d else g x := ⟨_, rfl⟩
        have hgc : g' c = d := by rw [hg']; simp
        have hgo : ∀ x, x ≠ c → g' x = g x := fun x hx => by rw [hg']; simp [hx]
        have hnc : ∀ x, Ref p x → x ≠ c := fun x hx e => by
          have := hI.ref hx
          rw [e, hc] at this
          cases this
        have hren : ∀ D : Dir, (∀ e ∈ D, Ref p e.2) → ren g' D = ren g D := fun D hD => by
          unfold ren
          apply List.map_congr_left
          intro e he
          rw [hgo e.2 (hnc _ (hD e he))]
        have hrc : ∀ e ∈ p.chg, e.kind = 0 → Ref p e.file := fun e he hk => List.mem_append_right _ (List.mem_map.2 ⟨e, List.mem_filter.2 ⟨he, by simp [hk]⟩, rfl⟩)
        have hchg : p.chg.map (renC g') = p.chg.map (renC g) := by
          apply List.map_congr_left
          intro e he
          unfold renC
          split
          · rename_i hk
            rw [hgo e.file (hnc _ (hrc e he hk))]
          · rfl
        have hm : ∀ x, Ref (chgd ⟨0, n, [], c⟩ (setF c ⟨[], 0⟩ (tick p))) x → x = c ∨ Ref p x := fun x hx => by
          have hx' : x ∈ vals p.safe ++ mades (p.chg ++ [⟨0, n, [], c⟩]) := hx
          have e1 : mades (p.chg ++ [⟨0, n, [], c⟩]) = mades p.chg ++ [c] := by simp [mades]
          rw [e1, ← List.append_assoc] at hx'
          rcases List.mem_append.1 hx' with h1 | h1
          · exact .inr h1
          · exact .inl (by simpa using h1)
        have hnd : ∀ x, Ref p x → g x ≠ d := fun x hx e => by
          have h1 := h.file x hx
          rw [e, hd] at h1
          have := hI.ref hx
          rw [← h1] at this
          cases this
        rw [← hg']
        refine ⟨ht.room, ht.down, ht.armed, ht.left, ht.steps, ?_, ?_, ?_, fun x hx => ?_, fun x y hx hy e => ?_⟩
        · show r.safe = ren g' p.safe
          rw [hren p.safe (fun e he => List.mem_append_left _ (List.mem_map.2 ⟨e, he, rfl⟩))]
          exact h.safe
        · show pdo r.seen ⟨0, n, [], d⟩ = ren g' (pdo p.seen ⟨0, n, [], c⟩)
          have e1 : pdo r.seen ⟨0, n, [], d⟩ = dput r.seen n d := rfl
          have e2 : pdo p.seen ⟨0, n, [], c⟩ = dput p.seen n c := rfl
          rw [e1, e2, ← ren_put, hren p.seen hI.refSeen, h.seen, hgc]
        · show r.chg ++ [(⟨0, n, [], d⟩ : PC)] = (p.chg ++ [(⟨0, n, [], c⟩ : PC)]).map (renC g')
          rw [List.map_append, hchg, h.chg]
          congr 1
          simp [renC, hgc]
        · show (if g' x = d then some (⟨[], 0⟩ : Fl) else r.files (g' x)) = (if x = c then some (⟨[], 0⟩ : Fl) else p.files x)
          rcases hm x hx with ex | hx
          · rw [if_pos ex, ex, hgc, if_pos rfl]
          · have hxc := hnc x hx
            rw [if_neg hxc, hgo x hxc, if_neg (hnd x hx)]
            exact h.file x hx
        · rcases hm x hx with ex | hx
          · rcases hm y hy with ey | hy
            · rw [ex, ey]
            · rw [ex, hgc, hgo y (hnc y hy)] at e
              exact absurd e.symm (hnd y hy)
          · rcases hm y hy with ey | hy
            · rw [ey, hgc, hgo x (hnc x hx)] at e
              exact absurd e (hnd x hx)
            · rw [hgo x (hnc x hx), hgo y (hnc y hy)] at e
              exact h.inj x y hx hy e
end

theorem rel_loses {g : Nat → Nat} (cuts : List Int) : ∀ (d : Dir) (i : Nat) (p r : PS), Rel g p r → (∀ e ∈ d, Ref p e.2) → Rel g (loses d i cuts p) (loses (ren g d) i cuts r)
  | [], _, _, _, h, _ => h
  | e :: t, i, p, r, h, hd => by
    have he := hd e (by simp)
    show Rel g (loses t (i + 1) cuts (setF e.2 (lose (cuts.getD i 0) (fileAt p e.2)) p)) (loses (ren g t) (i + 1) cuts (setF (g e.2) (lose (cuts.getD i 0) (fileAt r (g e.2))) r))
    rw [rel_fileAt h he]
    exact rel_loses cuts t (i + 1) _ _ (rel_setF h he _) (fun x hx => hd x (by simp [hx]))
theorem rel_up {g : Nat → Nat} {p r : PS} {N : Nat} (h : Rel g p r) (hI : PInv N p) (k : Int) (cuts : List Int) : Rel g (pUp k cuts p) (pUp k cuts r) := by
  have hs := rel_settle h (min (max k 0).toNat p.chg.length) hI.okc
  have hl := rel_loses cuts (settle (min (max k 0).toNat p.chg.length) p).safe 0 _ _ hs (fun e he => List.mem_append_left _ (List.mem_map.2 ⟨e, he, rfl⟩))
  rw [← hs.safe] at hl
  have e : min (max k 0).toNat r.chg.length = min (max k 0).toNat p.chg.length := by rw [h.chg, List.length_map]
  unfold pUp
  simp only
  rw [e]
  exact ⟨hl.room, rfl, rfl, rfl, hl.steps, hl.safe, hl.safe, hl.chg, hl.file, hl.inj⟩

/-- A copy is the same too. -/
theorem rel_copy {g f : Nat → Nat} {p q r : PS} {N : Nat} (h : Rel g p r) (hI : PInv N p) (hc : CopyOf f p q) : ∃ k, Rel k q r := by
  have hex : ∀ x, ∃ y, ∀ b, Ref p b → f b = x → y = g b := fun x => by
    by_cases hx : ∃ b, Ref p b ∧ f b = x
    · obtain ⟨b, hb, e⟩ := hx
      exact ⟨g b, fun b' hb' e' => by rw [hc.inj b b' hb hb' (e.trans e'.symm)]⟩
    · exact ⟨0, fun b hb e => absurd ⟨b, hb, e⟩ hx⟩
  obtain ⟨k, hk0⟩ := Classical.axiomOfChoice hex
  have hk : ∀ b, Ref p b → k (f b) = g b := fun b hb => hk0 (f b) b hb rfl
  have hren : ∀ D : Dir, (∀ e ∈ D, Ref p e.2) → ren k (ren f D) = ren g D := fun D hD => by
    unfold ren
    rw [List.map_map]
    apply List.map_congr_left
    intro e he
    show (e.1, k (f e.2)) = (e.1, g e.2)
    rw [hk e.2 (hD e he)]
  have hrs : ∀ e ∈ p.safe, Ref p e.2 := fun e he => List.mem_append_left _ (List.mem_map.2 ⟨e, he, rfl⟩)
  have hrc : ∀ e ∈ p.chg, e.kind = 0 → Ref p e.file := fun e he hk => List.mem_append_right _ (List.mem_map.2 ⟨e, List.mem_filter.2 ⟨he, by simp [hk]⟩, rfl⟩)
  have hm : ∀ x, Ref q x → ∃ b, Ref p b ∧ x = f b := fun x hx => by
    have hx' : x ∈ vals q.safe ++ mades q.chg := hx
    have e1 : vals (ren f p.safe) = (vals p.safe).map f := by unfold vals ren; rw [List.map_map, List.map_map]; rfl
    rw [hc.safe, hc.chg, mades_ren, e1, ← List.map_append] at hx'
    obtain ⟨b, hb, e⟩ := List.mem_map.1 hx'
    exact ⟨b, hb, e.symm⟩
  refine ⟨k, ⟨by rw [hc.room]; exact h.room, by rw [hc.down]; exact h.down, by rw [hc.armed]; exact h.armed, by rw [hc.left]; exact h.left, by rw [hc.steps]; exact h.steps, ?_, ?_, ?_, fun x hx => ?_, fun x y hx hy e => ?_⟩⟩
  · rw [hc.safe, hren _ hrs]; exact h.safe
  · rw [hc.seen, hren _ hI.refSeen]; exact h.seen
  · rw [hc.chg, List.map_map, h.chg]
    apply List.map_congr_left
    intro e he
    show renC g e = renC k (renC f e)
    unfold renC
    by_cases h0 : e.kind = 0
    · simp only [h0, if_true]
      rw [hk e.file (hrc e he h0)]
    · simp only [h0, if_false]
  · obtain ⟨b, hb, rfl⟩ := hm x hx
    rw [hk b hb, hc.files b hb]
    exact h.file b hb
  · obtain ⟨b, hb, rfl⟩ := hm x hx
    obtain ⟨b', hb', rfl⟩ := hm y hy
    rw [hk b hb, hk b' hb'] at e
    rw [h.inj b b' hb hb' e]

/-- Any call makes the same of both. -/
theorem rel_step {g : Nat → Nat} {p r : PS} {N : Nat} (h : Rel g p r) (hI : PInv N p) (o : RawOp) (bs : List Nat) (cuts : List Int) (c d : Nat) (hcd : o.k = 0 → p.files c = none ∧ r.files d = none) :
    stepC o bs cuts c d p r = true ∧ ∃ g', Rel g' (stepQ o bs cuts c p).2 (stepQ o bs cuts d r).2 := by
  have key : o.k ≠ 2 → (stepQ o bs cuts d r).1 = (stepQ o bs cuts c p).1 → stepC o bs cuts c d p r = true := fun h2 e => by
    unfold stepC
    rw [if_neg h2, e]
    simp
  by_cases k2 : o.k = 2
  · refine ⟨?_, g, ?_⟩
    · unfold stepC
      rw [if_pos k2, rel_bytes h hI, rel_finds h]
      simp
    · have e : ∀ (x : Nat) q, stepQ o bs cuts x q = (0, q) := fun x q => by simp [stepQ, stepP, k2]
      rw [e, e]
      exact h
  by_cases k8 : o.k = 8
  · have e : ∀ (x : Nat) q, stepQ o bs cuts x q = (0, pUp o.z cuts q) := fun x q => by rw [stepQ, if_pos k8]
    refine ⟨key k2 (by rw [e, e]), g, ?_⟩
    rw [e, e]
    exact rel_up h hI o.z cuts
  have e8 : ∀ (x : Nat) q, stepQ o bs cuts x q = stepP o bs x q := fun x q => by rw [stepQ, if_neg k8]
  rw [e8, e8]
  by_cases k0 : o.k = 0
  · obtain ⟨hc, hd⟩ := hcd k0
    obtain ⟨h1, g', h2⟩ := rel_create h hI (nm o.s) c d hc hd
    have e : ∀ (x : Nat) q, stepP o bs x q = pCreate (nm o.s) x q := fun x q => by simp [stepP, k0]
    exact ⟨key k2 (by rw [e8, e8, e, e]; exact h1), g', by rw [e, e]; exact h2⟩
  have fin : ∀ F : PS → Nat × PS, (∀ (x : Nat) q, stepP o bs x q = F q) → ((F r).1 = (F p).1 ∧ Rel g (F p).2 (F r).2) → stepC o bs cuts c d p r = true ∧ ∃ g', Rel g' (stepP o bs c p).2 (stepP o bs d r).2 := fun F e hF => ⟨key k2 (by rw [e8, e8, e, e]; exact hF.1), g, by rw [e, e]; exact hF.2⟩
  by_cases k1 : o.k = 1
  · exact fin _ (fun x q => by simp [stepP, k1]) (rel_append h hI (nm o.s) bs)
  by_cases k3 : o.k = 3
  · exact fin _ (fun x q => by simp [stepP, k3]) (rel_rename h (nm o.s) (nm o.t))
  by_cases k4 : o.k = 4
  · exact fin _ (fun x q => by simp [stepP, k4]) (rel_remove h (nm o.s))
  by_cases k5 : o.k = 5
  · exact fin _ (fun x q => by simp [stepP, k5]) (rel_fsync h hI (nm o.s))
  by_cases k6 : o.k = 6
  · exact fin _ (fun x q => by simp [stepP, k6]) (rel_syncdir h hI)
  by_cases k7 : o.k = 7
  · exact fin _ (fun x q => by simp [stepP, k7]) (rel_arm h o.z)
  by_cases k9 : o.k = 9
  · exact fin _ (fun x q => by simp [stepP, k9]) (rel_flip h hI (nm o.s) o.z o.y)
  · exact fin (fun q => (0, q)) (fun x q => by simp [stepP, k0, k1, k3, k4, k5, k6, k7, k9]) ⟨rfl, h⟩

end Go.Proofs.YtmiipifhbliamaaGreat.Sim
