/-
  Used: the bytes of all files that are seen, in whatever order.
-/
import Derived.Test.YtmiipifhbliamaaGreatSimTell
namespace Go.Proofs.YtmiipifhbliamaaGreat.Sim
open Go.RowKit Go.Maps

/-- The files of those names that are no longer to come. -/
def sumBy (g : Nat → Nat) (l : Dir) (left : Lit → Bool) : Nat := (l.map fun e => if left (.string e.1) then 0 else g e.2).sum
theorem sumBy_start (g : Nat → Nat) (l : Dir) : sumBy g l (Maps.has (dirD l)) = 0 := by
  unfold sumBy
  have : ∀ e ∈ l, Maps.has (dirD l) (.string e.1) = true := by
    intro e he
    rw [dirD_has]
    cases hd : dfind l e.1 with
    | none => exact absurd rfl (dfind_none hd e he)
    | some b => rfl
  generalize Maps.has (dirD l) = h at this
  induction l with
  | nil => rfl
  | cons x r ih =>
    rw [List.map_cons, List.sum_cons, this x (by simp), ih (fun e he => this e (by simp [he]))]
    simp
theorem sumBy_end (g : Nat → Nat) (l : Dir) (left : Lit → Bool) (h : ∀ k, left k = false) : sumBy g l left = (l.map fun e => g e.2).sum := by
  unfold sumBy
  congr 1
  apply List.map_congr_left
  intro e _
  rw [h]
  rfl
theorem sumBy_step (g : Nat → Nat) (left : Lit → Bool) (n : Nm) (b : Nat) : ∀ (l : Dir), (l.map (·.1)).Nodup → (n, b) ∈ l → left (.string n) = true → sumBy g l (fun z => left z && !z.sameKey (.string n)) = sumBy g l left + g b
  | [], _, h, _ => by simp at h
  | x :: r, hn, h, hl => by
    rw [List.map_cons, List.nodup_cons] at hn
    unfold sumBy
    rw [List.map_cons, List.map_cons, List.sum_cons, List.sum_cons]
    rcases List.mem_cons.1 h with e | h
    · have hr : (r.map fun e => if (left (.string e.1) && !(Lit.string e.1).sameKey (.string n)) = true then 0 else g e.2) = r.map fun e => if left (.string e.1) = true then 0 else g e.2 := by
        apply List.map_congr_left
        intro e' he'
        have : (Lit.string e'.1).sameKey (.string n) = false := by
          rw [sameKey_str]
          simp
          intro e2
          exact hn.1 (List.mem_map.2 ⟨e', he', by rw [e2, ← e]⟩)
        rw [this]
        simp
      rw [hr, ← e]
      simp [hl, sameKey_str]
      omega
    · have ih := sumBy_step g left n b r hn.2 h hl
      unfold sumBy at ih
      rw [ih]
      have : (Lit.string x.1).sameKey (.string n) = false := by
        rw [sameKey_str]
        simp
        intro e2
        exact hn.1 (List.mem_map.2 ⟨(n, b), h, by simp [e2]⟩)
      simp only [this, Bool.not_false, Bool.and_true]
      omega
theorem sumBy_le (g : Nat → Nat) (B : Nat) (left : Lit → Bool) : ∀ (l : Dir), (∀ e ∈ l, g e.2 ≤ B) → sumBy g l left ≤ l.length * B
  | [], _ => by simp [sumBy]
  | x :: r, h => by
    have ih := sumBy_le g B left r (fun e he => h e (by simp [he]))
    unfold sumBy at ih ⊢
    rw [List.map_cons, List.sum_cons, List.length_cons, Nat.add_mul]
    have := h x (by simp)
    split <;> omega

theorem used_nil (w : World) : Calls Tryz.prog 43 #[.pointer none] w fun e w' => e = .returned (.int .i64 0) ∧ w' = w := by
  go_enter Tryz.func43, Tryz.ntmps43
  go_wp2
  go_ret
  exact ⟨rfl, rfl⟩

set_option maxHeartbeats 1000000 in
theorem used_any {P : Nat → Prop} {N : Nat} (w : World) (s : Nat) (p : PS) (h : Sys P N w s p) : Calls Tryz.prog 43 #[.pointer (some ⟨s, 0, none⟩)] w fun e w' => e = .returned (.int .i64 (used p : Nat)) ∧ Kp No w w' := by
  have hI := h.inv
  have hB : Hid (∀ left, sumBy (fun b => (fileAt p b).b.length) p.seen left ≤ 1000 * 200000) := fun left => by
    refine Nat.le_trans (sumBy_le _ 200000 left p.seen (fun e he => ?_)) (Nat.mul_le_mul_right _ (Nat.le_trans hI.lseen hI.big))
    obtain ⟨f, hf⟩ := Option.isSome_iff_exists.1 (hI.hasSeen e he).1
    have := hI.lfile _ f hf
    have := hI.big
    simp only [fileAt, hf, Option.getD_some]
    omega
  obtain ⟨vs, vf, vc, u, h⟩ := h
  have q1 : w.cell? ⟨s, 1, none⟩ = some vs := h.c 1
  have hsl := h.lt s h.ps
  have HF : Hid (∀ e ∈ p.seen, ∃ a cap, w.cell? ⟨e.2, 0, none⟩ = some (.slice a (fileAt p e.2).b.length cap) ∧ e.2 < w.heap.size) := fun e he => by
    obtain ⟨f, hf⟩ := Option.isSome_iff_exists.1 (hI.hasSeen e he).1
    obtain ⟨h1, h2, _⟩ := h.file _ f hf
    obtain ⟨a, cap, hv, _⟩ := h2.own.shape
    have : fileAt p e.2 = f := by simp [fileAt, hf]
    rw [this]
    exact ⟨a, cap, by rw [← hv]; exact h2.blk.cell 0, h.lt _ h1⟩
  rcases h.seen with ⟨rfl, hs⟩ | ⟨b, rfl, hM⟩
  · have hu : used p = 0 := by simp [used, hs]
    rw [hu]
    clear HF hB h hs hu
    have hrn := run_range_nilMap (P := Tryz.prog) w 55 9 67 Tryz.underlying55
    have hnx : ∀ ty, (Instr.next (.pointer (some ⟨w.heap.size, 0, none⟩)) false ty).run Tryz.prog (w.alloc (.mapIter none 0 #[] 0)) = _ := fun ty => run_next_nilMap w ty 0 0 #[]
    go_enter Tryz.func43, Tryz.ntmps43
    go_wp2
    refine wp_loop_rounds 1 ?_
    rw [rounds_succ]
    go_wp2
    go_ret
    exact ⟨rfl, (Kp.refl _ _).alloc _⟩
  · have HM := hid hM
    have hnd := hid hM.ris.nodup
    have hbl := hM.lt
    clear hM h
    go_enter Tryz.func43, Tryz.ntmps43
    go_wp2_with (first | (at_range; refine wpList_range_own _ rfl _ 55 rfl 9 67 Tryz.keyed Tryz.underlying55 ptrR b p.seen.length (dirD p.seen) rfl HM.out ?_; intro w0 hrg0 hg0 hs0) | go_in)
    go_frame
    have hrg := hid hrg0
    have hg := hid hg0
    clear hrg0 hg0 hs0
    go_loopw [3, 5] (fun x _ wr => ∃ left cnt, x = .int .i64 (sumBy (fun b => (fileAt p b).b.length) p.seen left : Nat) ∧ Hid (wr.ranges Tryz.prog 9 ptrR b w.heap.size p.seen.length (dirD p.seen) left cnt) ∧ Hid (Kp No w wr)) (fun _ _ wr => wr.rangeLeft b w.heap.size)
    case atStart => exact ⟨Maps.has (dirD p.seen), Maps.size (dirD p.seen), by rw [sumBy_start]; rfl, hrg.out, (Kp.refl _ _).grown hg.out (by simp)⟩
    case round =>
      obtain ⟨left, cnt, rfl, HR, HK⟩ := hrel
      go_wp2_with (first | (at_next; refine wpList_next_ranges _ rfl _ rfl 9 Tryz.keyed ptrR encStr ptrV (fun key kl hk => by obtain ⟨x, hx, _⟩ := Maps.keyOf_str Tryz.underlying9 hk; exact ⟨x, hx⟩) (fun v y hv => by obtain ⟨c, rfl, _⟩ := ptrR_inv hv; exact ⟨c, rfl⟩) b w.heap.size p.seen.length (dirD p.seen) left cnt rfl HR.out ?_ ?_) | go_in)
      · intro _ hl0
        have HL := hid hl0
        clear hl0
        go_wp2
        go_ret
        refine ⟨?_, HK.out⟩
        rw [used, ← sumBy_end (fun b => (fileAt p b).b.length) p.seen left HL.out]
        rfl
      · intro x c kl yd yp w2 cnt2 hkey hlk hv hat hrg2 hlt hg2 hs2 hen
        obtain ⟨x', ex, rfl, _⟩ := Maps.keyOf_str Tryz.underlying9 hkey
        obtain rfl : x = x' := encStr_inj ex
        obtain ⟨c', hc1, hc2⟩ := ptrR_inv hv
        have hdx : ∃ f, dfind p.seen x = some f := by
          have := has_true_of_atKey hat
          rw [dirD_has] at this
          exact Option.isSome_iff_exists.1 this
        obtain ⟨f, hf⟩ := hdx
        have hcf : c = some f := by
          have h1 := hat .nil
          rw [dirD_at, hf] at h1
          have hcc : c = c' := by
            unfold ptrV at hc1
            cases c <;> cases c' <;> simp at hc1 <;> simp [hc1]
          subst hcc
          cases c with
          | none => simp at hc2; rw [← h1] at hc2; simp [fileD] at hc2
          | some y =>
            simp at hc2
            rw [← h1] at hc2
            rw [fileD_inj hc2.1]
        subst hcf
        have hmem := mem_of_dfind hf
        obtain ⟨a, cap, hcell, hfl⟩ := HF.out _ hmem
        have HK2 : Hid (Kp No w w2) := HK.out.grown hg2 (fun y hy => .inr (by simp at hy; omega))
        have c0 := (HK2.out.cell (p := ⟨f, 0, none⟩) hfl (fun h => h.elim)).trans hcell
        have HS := hid (sumBy_step (fun b => (fileAt p b).b.length) left x f p.seen hnd.out hmem hlk)
        have hb2 := hB.out left
        have hb3 := hB.out (fun z => left z && !z.sameKey (.string x))
        rw [HS.out] at hb3
        have HR2 := hid hrg2
        have HE : (Instr.entry (.pointer (some ⟨w.heap.size, 0, none⟩))).run Tryz.prog w2 = .ok (.tuple #[encStr x, .pointer (some ⟨f, 0, none⟩)]) w2 := hen
        have e0 : ptrV (some f) = .pointer (some ⟨f, 0, none⟩) := rfl
        rw [e0]
        simp only at hcell c0 hb3 HS
        generalize sumBy (fun b => (fileAt p b).b.length) p.seen left = S at *
        obtain ⟨L, hL⟩ : ∃ L, (fileAt p f).b.length = L := ⟨_, rfl⟩
        rw [hL] at c0 hb3 HS
        clear hs2 hen hv hat hkey hlk hc1 hc2 hrg2 hg2 hf hmem hcell e0 hL
        go_wp2
        go_roundw
        case rel => exact ⟨_, cnt2, by rw [HS.out]; go_num, HR2, HK2⟩
        case measure => rw [HR2.out.left_eq, HR.out.left_eq]; exact hlt

end Go.Proofs.YtmiipifhbliamaaGreat.Sim
