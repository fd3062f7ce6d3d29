/- Of the proof: the texts SimUsed, SimDo, SimStep, SimChg, SimChange, SimCreate, one behind the other. -/
import Derived.Test.YtaaioaocjfpajaaGreatDoorB1
import Derived.Deep.RegionHeld3
import Derived.Deep.RegionLaw
import Derived.Deep.DeepCutAuto
import Derived.Deep.CutRange
section
/-
  Used: the bytes of all files that are seen, in whatever order.
-/
namespace Go.Proofs.YtaaioaocjfpajaaGreatDoor.Sim
open Go.RowKit Go.Maps

/-- The files of those names that are no longer to come. -/
def sumBy (g : Nat → Nat) (l : Dir) (left : Lit → Bool) : Nat := (l.map fun e => if left (.string e.1) then 0 else g e.2).sum
theorem sumBy_start (g : Nat → Nat) (l : Dir) : sumBy g l (Maps.has (dirD l)) = 0 := by
  unfold sumBy
  have : ∀ e ∈ l, Maps.has (dirD l) (.string e.1) = true := by
    intro e he
    rw [dirD_has]
    cases hd : dfind l e.1 with
    | none => exact absurd rfl (dfind_none hd e he)
    | some b => rfl
  generalize Maps.has (dirD l) = h at this
  induction l with
  | nil => rfl
  | cons x r ih =>
    rw [List.map_cons, List.sum_cons, this x (by simp), ih (fun e he => this e (by simp [he]))]
    simp
theorem sumBy_end (g : Nat → Nat) (l : Dir) (left : Lit → Bool) (h : ∀ k, left k = false) : sumBy g l left = (l.map fun e => g e.2).sum := by
  unfold sumBy
  congr 1
  apply List.map_congr_left
  intro e _
  rw [h]
  rfl
theorem sumBy_step (g : Nat → Nat) (left : Lit → Bool) (n : Nm) (b : Nat) : ∀ (l : Dir), (l.map (·.1)).Nodup → (n, b) ∈ l → left (.string n) = true → sumBy g l (fun z => left z && !z.sameKey (.string n)) = sumBy g l left + g b
  | [], _, h, _ => by simp at h
  | x :: r, hn, h, hl => by
    rw [List.map_cons, List.nodup_cons] at hn
    unfold sumBy
    rw [List.map_cons, List.map_cons, List.sum_cons, List.sum_cons]
    rcases List.mem_cons.1 h with e | h
    · have hr : (r.map fun e => if (left (.string e.1) && !(Lit.string e.1).sameKey (.string n)) = true then 0 else g e.2) = r.map fun e => if left (.string e.1) = true then 0 else g e.2 := by
        apply List.map_congr_left
        intro e' he'
        have : (Lit.string e'.1).sameKey (.string n) = false := by
          rw [sameKey_str]
          simp
          intro e2
          exact hn.1 (List.mem_map.2 ⟨e', he', by rw [e2, ← e]⟩)
        rw [this]
        simp
      rw [hr, ← e]
      simp [hl, sameKey_str]
      omega
    · have ih := sumBy_step g left n b r hn.2 h hl
      unfold sumBy at ih
      rw [ih]
      have : (Lit.string x.1).sameKey (.string n) = false := by
        rw [sameKey_str]
        simp
        intro e2
        exact hn.1 (List.mem_map.2 ⟨(n, b), h, by simp [e2]⟩)
      simp only [this, Bool.not_false, Bool.and_true]
      omega
theorem sumBy_le (g : Nat → Nat) (B : Nat) (left : Lit → Bool) : ∀ (l : Dir), (∀ e ∈ l, g e.2 ≤ B) → sumBy g l left ≤ l.length * B
  | [], _ => by simp [sumBy]
  | x :: r, h => by
    have ih := sumBy_le g B left r (fun e he => h e (by simp [he]))
    unfold sumBy at ih ⊢
    rw [List.map_cons, List.sum_cons, List.length_cons, Nat.add_mul]
    have := h x (by simp)
    split <;> omega

set_option maxHeartbeats 1000000 in
theorem used_any {P : Nat → Prop} {N : Nat} (w : World) (s : Nat) (p : PS) (h : Sys P N w s p) : Calls Tryz.prog 141 #[.pointer (some ⟨s, 0, none⟩)] w fun e w' => e = .returned (.int .i64 (used p : Nat)) ∧ Kp No w w' := by
  have hI := h.inv
  have hB : Hid (∀ left, sumBy (fun b => (fileAt p b).b.length) p.seen left ≤ 1000 * 12000000) := fun left => by
    refine Nat.le_trans (sumBy_le _ 12000000 left p.seen (fun e he => ?_)) (Nat.mul_le_mul_right _ (Nat.le_trans hI.lseen hI.big))
    obtain ⟨f, hf⟩ := Option.isSome_iff_exists.1 (hI.hasSeen e he).1
    have := hI.lfile _ f hf
    have := hI.big
    simp only [fileAt, hf, Option.getD_some]
    omega
  obtain ⟨vs, vf, vc, u, h⟩ := h
  have q1 : w.cell? ⟨s, 1, none⟩ = some vs := h.c 1
  have hsl := h.lt s h.ps
  have HF : Hid (∀ e ∈ p.seen, ∃ a cap, w.cell? ⟨e.2, 0, none⟩ = some (.slice a (fileAt p e.2).b.length cap) ∧ e.2 < w.heap.size) := fun e he => by
    obtain ⟨f, hf⟩ := Option.isSome_iff_exists.1 (hI.hasSeen e he).1
    obtain ⟨h1, h2, _⟩ := h.file _ f hf
    obtain ⟨a, cap, hv, _⟩ := h2.own.shape
    have : fileAt p e.2 = f := by simp [fileAt, hf]
    rw [this]
    exact ⟨a, cap, by rw [← hv]; exact h2.blk.cell 0, h.lt _ h1⟩
  rcases h.seen with ⟨rfl, hs⟩ | ⟨b, rfl, hM⟩
  · have hu : used p = 0 := by simp [used, hs]
    rw [hu]
    clear HF hB h hs hu
    have hrn := run_range_nilMap (P := Tryz.prog) w 75 9 106 Tryz.underlying75
    have hnx : ∀ ty, (Instr.next (.pointer (some ⟨w.heap.size, 0, none⟩)) false ty).run Tryz.prog (w.alloc (.mapIter none 0 #[] 0)) = _ := fun ty => run_next_nilMap w ty 0 0 #[]
    go_enter Tryz.func141, Tryz.ntmps141
    go_wp2
    refine wp_loop_rounds 1 ?_
    rw [rounds_succ]
    go_wp2
    go_ret
    exact ⟨rfl, (Kp.refl _ _).alloc _⟩
  · have HM := hid hM
    have hnd := hid hM.ris.nodup
    have hbl := hM.lt
    clear hM h
    go_enter Tryz.func141, Tryz.ntmps141
    go_wp2_with (first | (at_range; refine wpList_range_own _ rfl _ 75 rfl 9 106 Tryz.keyed Tryz.underlying75 ptrR b p.seen.length (dirD p.seen) rfl HM.out ?_; intro w0 hrg0 hg0 hs0) | go_in)
    go_frame
    have hrg := hid hrg0
    have hg := hid hg0
    clear hrg0 hg0 hs0
    go_loopw [3, 5] (fun x _ wr => ∃ left cnt, x = .int .i64 (sumBy (fun b => (fileAt p b).b.length) p.seen left : Nat) ∧ Hid (wr.ranges Tryz.prog 9 ptrR b w.heap.size p.seen.length (dirD p.seen) left cnt) ∧ Hid (Kp No w wr)) (fun _ _ wr => wr.rangeLeft b w.heap.size)
    case atStart => exact ⟨Maps.has (dirD p.seen), Maps.size (dirD p.seen), by rw [sumBy_start]; rfl, hrg.out, (Kp.refl _ _).grown hg.out (by simp)⟩
    case round =>
      obtain ⟨left, cnt, rfl, HR, HK⟩ := hrel
      go_wp2_with (first | (at_next; refine wpList_next_ranges _ rfl _ rfl 9 Tryz.keyed ptrR encStr ptrV (fun key kl hk => by obtain ⟨x, hx, _⟩ := Maps.keyOf_str Tryz.underlying9 hk; exact ⟨x, hx⟩) (fun v y hv => by obtain ⟨c, rfl, _⟩ := ptrR_inv hv; exact ⟨c, rfl⟩) b w.heap.size p.seen.length (dirD p.seen) left cnt rfl HR.out ?_ ?_) | go_in)
      · intro _ hl0
        have HL := hid hl0
        clear hl0
        go_wp2
        go_ret
        refine ⟨?_, HK.out⟩
        rw [used, ← sumBy_end (fun b => (fileAt p b).b.length) p.seen left HL.out]
        rfl
      · intro x c kl yd yp w2 cnt2 hkey hlk hv hat hrg2 hlt hg2 hs2 hen
        obtain ⟨x', ex, rfl, _⟩ := Maps.keyOf_str Tryz.underlying9 hkey
        obtain rfl : x = x' := encStr_inj ex
        obtain ⟨c', hc1, hc2⟩ := ptrR_inv hv
        have hdx : ∃ f, dfind p.seen x = some f := by
          have := has_true_of_atKey hat
          rw [dirD_has] at this
          exact Option.isSome_iff_exists.1 this
        obtain ⟨f, hf⟩ := hdx
        have hcf : c = some f := by
          have h1 := hat .nil
          rw [dirD_at, hf] at h1
          have hcc : c = c' := by
            unfold ptrV at hc1
            cases c <;> cases c' <;> simp at hc1 <;> simp [hc1]
          subst hcc
          cases c with
          | none => simp at hc2; rw [← h1] at hc2; simp [fileD] at hc2
          | some y =>
            simp at hc2
            rw [← h1] at hc2
            rw [fileD_inj hc2.1]
        subst hcf
        have hmem := mem_of_dfind hf
        obtain ⟨a, cap, hcell, hfl⟩ := HF.out _ hmem
        have HK2 : Hid (Kp No w w2) := HK.out.grown hg2 (fun y hy => .inr (by simp at hy; omega))
        have c0 := (HK2.out.cell (p := ⟨f, 0, none⟩) hfl (fun h => h.elim)).trans hcell
        have HS := hid (sumBy_step (fun b => (fileAt p b).b.length) left x f p.seen hnd.out hmem hlk)
        have hb2 := hB.out left
        have hb3 := hB.out (fun z => left z && !z.sameKey (.string x))
        rw [HS.out] at hb3
        have HR2 := hid hrg2
        have HE : (Instr.entry (.pointer (some ⟨w.heap.size, 0, none⟩))).run Tryz.prog w2 = .ok (.tuple #[encStr x, .pointer (some ⟨f, 0, none⟩)]) w2 := hen
        have e0 : ptrV (some f) = .pointer (some ⟨f, 0, none⟩) := rfl
        rw [e0]
        simp only at hcell c0 hb3 HS
        generalize sumBy (fun b => (fileAt p b).b.length) p.seen left = S at *
        obtain ⟨L, hL⟩ : ∃ L, (fileAt p f).b.length = L := ⟨_, rfl⟩
        rw [hL] at c0 hb3 HS
        clear hs2 hen hv hat hkey hlk hc1 hc2 hrg2 hg2 hf hmem hcell e0 hL
        go_wp2
        go_roundw
        case rel => exact ⟨_, cnt2, by rw [HS.out]; go_num, HR2, HK2⟩
        case measure => rw [HR2.out.left_eq, HR.out.left_eq]; exact hlt

end Go.Proofs.YtaaioaocjfpajaaGreatDoor.Sim
end

section
/-
  (directory).do: changes, done one behind the other to a map.
-/
namespace Go.Proofs.YtaaioaocjfpajaaGreatDoor.Sim
open Go.RowKit Go.Maps

/-- A slice of changes that is read. -/
def ChAt (w : World) (v : Value) (cs : List PC) : Prop :=
  ∃ a cap, v = .slice a cs.length cap ∧ cs.length ≤ cap ∧ cap ≤ maxLen ∧ cs.length ≤ 100000 ∧ (cs ≠ [] → ∃ g, a = some ⟨g, 0, none⟩ ∧ g < w.heap.size ∧ ∀ i c, cs[i]? = some c → ∀ j, j < 4 → w.cell? ⟨g, i * 4 + j, none⟩ = (chgCells c)[j]?)
theorem Row.chAt {w : World} {v : Value} {cs : List PC} (h : Row w 162 4 v cs.length (chgs cs)) (hl : cs.length ≤ 100000) : ChAt w v cs := by
  rcases h.2 with ⟨rfl, h0⟩ | ⟨g, cap, cur, rfl, hg, hh, hn, hc, hs, ht⟩
  · have : cs = [] := List.length_eq_zero_iff.1 h0
    subst this
    exact ⟨none, 0, rfl, Nat.le_refl _, Nat.zero_le _, by simp, fun h => absurd rfl h⟩
  · refine ⟨_, cap, rfl, hn, hc, hl, fun _ => ⟨g, rfl, (Array.getElem?_eq_some_iff.1 hh).1, fun i c hi j hj => ?_⟩⟩
    have hil : i < cs.length := (List.getElem?_eq_some_iff.1 hi).1
    rw [h.cellAt (i * 4 + j) (by omega)]
    exact chgs_at cs i c hi j hj
theorem ChAt.front {w : World} {a : Option Addr} {n cap : Nat} {cs : List PC} (h : ChAt w (.slice a n cap) cs) (k : Nat) (hk : k ≤ cs.length) : ChAt w (.slice a k cap) (cs.take k) := by
  obtain ⟨a', cap', e, h1, h2, h3, h4⟩ := h
  cases e
  have hl : (cs.take k).length = k := List.length_take_of_le hk
  refine ⟨a, cap, by rw [hl], by omega, h2, by omega, fun hne => ?_⟩
  obtain ⟨g, hg, hgl, hc⟩ := h4 (fun e => hne (by rw [e]; simp))
  refine ⟨g, hg, hgl, fun i c hi j hj => hc i c ?_ j hj⟩
  have hik : i < k := by have := (List.getElem?_eq_some_iff.1 hi).1; omega
  rw [List.getElem?_take_of_lt hik] at hi
  exact hi
theorem ChAt.one (w : World) (c : PC) : ChAt (w.alloc (.cells (chgCells c).toArray 162)) (.slice (some ⟨w.heap.size, 0, none⟩) 1 1) [c] := by
  refine ⟨_, 1, rfl, by simp, by decide, by simp, fun _ => ⟨_, rfl, by simp, fun i d hi j hj => ?_⟩⟩
  have hi0 : i = 0 := by have := (List.getElem?_eq_some_iff.1 hi).1; simpa using this
  subst hi0
  simp at hi
  subst hi
  rw [World.cell?_alloc_at _ _ _ _ rfl]
  simp
theorem MapAt.noCell {w : World} {b : Nat} {l : Dir} (h : MapAt w b l) (j : Nat) : w.cell? ⟨b, j, none⟩ = none := by
  obtain ⟨es, clock, hb, _⟩ := h
  simp [World.cell?, hb]

theorem wp_look (w : World) {ops : Array Oper} {rest : List Oper} {o : Oper} {a : Act} {Q : Exit → Act → World → Prop} (hg : o.guard = none) (m x : Operand) (hop : o.op = Op.lookup 75 m x false) (b : Nat) (l : Dir) (n : Nm) (f : Nat) (hm : a.eval m = .map (some b)) (hx : a.eval x = encStr n)
    (h : MapAt w b l) (hn : n.length ≤ 20000000) (hf : dfind l n = some f) (hK : wpList Tryz.prog ops Q rest (a.put o.dst (.pointer (some ⟨f, 0, none⟩))) w) : wpList Tryz.prog ops Q (o :: rest) a w := by
  refine wpList_plain hg fun K' hK' => ?_
  have hrun := h.look n hn
  rw [hf, show ptrV (some f) = .pointer (some ⟨f, 0, none⟩) from rfl] at hrun
  unfold Oper.wp
  simp [execOp, hop, hm, hx, hrun, Result.andThen]
  exact hK' _ _ hK

/-- No change, whatever the map. -/
theorem do_none (mv : Value) (w : World) (v : Value) (h : ChAt w v []) : Calls Tryz.prog 66 #[mv, v] w fun e w' => e = .returned (.tuple #[]) ∧ w' = w := by
  obtain ⟨a, cap, rfl, _⟩ := h
  go_enter Tryz.func66, Tryz.ntmps66
  go_wp2
  refine wp_loop_rounds 1 ?_
  rw [rounds_succ]
  go_wp2
  go_end0
  exact ⟨rfl, rfl⟩

set_option maxHeartbeats 2000000 in
theorem do_any (w : World) (mb : Nat) (l : Dir) (v : Value) (cs : List PC) (hm : MapAt w mb l) (h : ChAt w v cs) (hok : okcs l cs) (hn : ∀ c ∈ cs, c.nm.length ≤ 20000000 ∧ c.to.length ≤ 20000000) (hl : l.length + cs.length ≤ 100000) :
    Calls Tryz.prog 66 #[.map (some mb), v] w fun e w' => e = .returned (.tuple #[]) ∧ MapAt w' mb (cs.foldl pdo l) ∧ Kp (· = mb) w w' := by
  obtain ⟨a, cap, rfl, h1, h2, h3, h4⟩ := h
  have HM := hid hm
  have HC := hid h4
  have HOK := hid hok
  have HN := hid hn
  have hmb := hm.lt
  clear hm h4 hok hn
  go_enter Tryz.func66, Tryz.ntmps66
  go_wp2
  go_loopw [9] (fun x wr => ∃ i : Nat, x = .int .i64 i ∧ i ≤ cs.length ∧ Hid (MapAt wr mb ((cs.take i).foldl pdo l)) ∧ Hid (((cs.take i).foldl pdo l).length ≤ l.length + i) ∧ Hid (Kp (· = mb) w wr)) (fun x _ => cs.length - (intOf x).toNat)
  case atStart => exact ⟨0, rfl, by omega, by simpa using HM, by simp [Hid], Kp.refl _ _⟩
  case round =>
    obtain ⟨i, rfl, hi, HI, HL, HK⟩ := hrel
    by_cases hlt : i < cs.length
    · obtain ⟨g, rfl, hg, hcell⟩ := HC.out (by intro e; subst e; simp at hlt)
      obtain ⟨c, hc⟩ : ∃ c, cs[i]? = some c := ⟨_, List.getElem?_eq_getElem hlt⟩
      have hgm : g ≠ mb := by
        intro e
        subst e
        have h0 := hcell i c hc 0 (by omega)
        rw [HM.out.noCell] at h0
        simp [chgCells] at h0
      have hcc : ∀ j, j < 4 → wr.cell? ⟨g, i * 4 + j, none⟩ = (chgCells c)[j]? := fun j hj => (HK.out.cell (p := ⟨g, i * 4 + j, none⟩) hg hgm).trans (hcell i c hc j hj)
      have HT : Hid (cs.take (i + 1) = cs.take i ++ [c]) := by rw [Hid, List.take_add_one, hc]; rfl
      have hok : okc ((cs.take i).foldl pdo l) c := by
        have h5 := HOK.out
        rw [← List.take_append_drop i cs, okcs_append] at h5
        have h6 := h5.2
        have h7 : cs.drop i = c :: cs.drop (i + 1) := by rw [List.drop_eq_getElem_cons hlt]; congr 1; rw [List.getElem?_eq_getElem hlt] at hc; simpa using hc
        rw [h7] at h6
        exact h6.1
      have HCN := hid (HN.out c (List.mem_of_getElem? hc))
      have HTF : Hid ((cs.take (i + 1)).foldl pdo l = pdo ((cs.take i).foldl pdo l) c) := by rw [Hid, HT.out, List.foldl_append]; rfl
      have HLN : Hid ((pdo ((cs.take i).foldl pdo l) c).length ≤ l.length + (i + 1)) := by
        have h8 := length_pdo ((cs.take i).foldl pdo l) c
        have h9 := HL.out
        rw [Hid]
        omega
      have hdl : Hid (((cs.take i).foldl pdo l).length ≤ 20000000) := by have := HL.out; rw [Hid]; omega
      generalize (cs.take i).foldl pdo l = d at *
      have e0 : wr.cell? ⟨g, i * 4, none⟩ = some (.int .i64 (c.kind : Int)) := hcc 0 (by omega)
      have e1 : wr.cell? ⟨g, i * 4 + 1, none⟩ = some (.string (sOf c.nm)) := hcc 1 (by omega)
      have e2 : wr.cell? ⟨g, i * 4 + 2, none⟩ = some (.string (sOf c.to)) := hcc 2 (by omega)
      have e3 : wr.cell? ⟨g, i * 4 + 3, none⟩ = some (ptrV (pcV c)) := hcc 3 (by omega)
      have HX : Hid (ptrV (pcV c) = ptrV (pcV c)) := rfl
      obtain ⟨hk2, hk3⟩ := hok
      have HEN : Hid (encStr c.nm = .string (sOf c.nm) ∧ encStr c.to = .string (sOf c.to)) := ⟨rfl, rfl⟩
      clear hcc hcell hc HT
      have hkk : c.kind = 0 ∨ c.kind = 1 ∨ c.kind = 2 := by omega
      rcases hkk with hk | hk | hk
      · have HP : Hid (pdo d c = dput d c.nm c.file) := by rw [Hid, pdo, if_pos hk]
        rw [show pcV c = some c.file by simp [pcV, hk]] at e3
        rw [show ptrV (some c.file) = .pointer (some ⟨c.file, 0, none⟩) from rfl] at e3
        rw [hk] at e0
        clear hk hk2 hk3 HX
        generalize sOf c.nm = sn at *
        generalize sOf c.to = st at *
        go_wp2_with (first | (at_mapUpdate; refine wp_store _ rfl _ _ _ rfl mb c.file d c.nm rfl ?hx rfl ?hm HCN.out.1 hdl.out ?_; (case hx => exact HEN.out.1.symm); (case hm => exact HI.out.kp (L := No) ((Kp.refl _ _).alloc _) (fun h => h)); intro w2 hm2 hk2 hs2; have HM2 := hid hm2; have HK2 := hid hk2; clear hm2 hk2 hs2) | go_in)
        go_roundw
        case rel => exact ⟨i + 1, by go_num, by omega, by rw [HTF.out, HP.out]; exact HM2, by rw [HTF.out]; exact HLN, ((HK.out.alloc _).trans HK2.out (fun x hx => .inl hx))⟩
        case measure => simp [intOf]; omega
      · have HP : Hid (pdo d c = ddel d c.nm) := by rw [Hid, pdo, if_neg (by omega), if_pos hk]
        rw [hk] at e0
        have HI2 : Hid (∀ o, MapAt (wr.alloc o) mb d) := fun o => HI.out.kp (L := No) ((Kp.refl _ _).alloc _) (fun h => h)
        clear hk hk2 hk3 HX
        rw [show ptrV (pcV c) = .pointer ((pcV c).map fun x => ⟨x, 0, none⟩) from rfl] at e3
        generalize ((pcV c).map fun x => (⟨x, 0, none⟩ : Addr)) = pv at e3
        generalize sOf c.nm = sn at *
        generalize sOf c.to = st at *
        go_wp2_with (first | (at_delete; refine wp_drop _ rfl _ _ rfl mb d c.nm rfl ?hx ?hm HCN.out.1 ?_; (case hx => exact HEN.out.1.symm); (case hm => exact HI2.out _); intro w2 hm2 hk2 hs2; have HM2 := hid hm2; have HK2 := hid hk2; clear hm2 hk2 hs2) | go_in)
        go_roundw
        case rel => exact ⟨i + 1, by go_num, by omega, by rw [HTF.out, HP.out]; exact HM2, by rw [HTF.out]; exact HLN, ((HK.out.alloc _).trans HK2.out (fun x hx => .inl hx))⟩
        case measure => simp [intOf]; omega
      · obtain ⟨f, hf⟩ := Option.isSome_iff_exists.1 (hk3 hk)
        have HP : Hid (pdo d c = dput (ddel d c.nm) c.to f) := by rw [Hid, pdo, if_neg (by omega), if_neg (by omega), hf]; rfl
        rw [hk] at e0
        have HI2 : Hid (∀ o, MapAt (wr.alloc o) mb d) := fun o => HI.out.kp (L := No) ((Kp.refl _ _).alloc _) (fun h => h)
        have HF := hid hf
        have hdl2 : Hid ((ddel d c.nm).length ≤ 20000000) := Nat.le_trans (length_ddel _ _) hdl.out
        have hwz : wr.heap.size ≠ mb := by have := HI.out.lt; omega
        have tok1 : True := trivial
        clear hk hk2 hk3 HX hf
        rw [show ptrV (pcV c) = .pointer ((pcV c).map fun x => ⟨x, 0, none⟩) from rfl] at e3
        generalize ((pcV c).map fun x => (⟨x, 0, none⟩ : Addr)) = pv at e3
        generalize sOf c.nm = sn at *
        generalize sOf c.to = st at *
        go_wp2_with (first | (at_lookup; refine wp_look _ rfl _ _ rfl mb d c.nm f rfl ?hx ?hm HCN.out.1 HF.out ?_; (case hx => exact HEN.out.1.symm); (case hm => exact HI2.out _)) | (at_delete; refine wp_drop _ rfl _ _ rfl mb d c.nm rfl ?hx ?hm HCN.out.1 ?_; (case hx => exact HEN.out.1.symm); (case hm => exact HI2.out _); intro w2 hm2 hk2 hs2; have HM2 := hid hm2; have HK2 := hid hk2; have f1 : w2.cell? ⟨wr.heap.size, 1, none⟩ = some (.string sn) := (hk2.cell (p := ⟨wr.heap.size, 1, none⟩) (by simp) hwz).trans (World.cell?_alloc_at _ _ _ _ rfl); have f2 : w2.cell? ⟨wr.heap.size, 2, none⟩ = some (.string st) := (hk2.cell (p := ⟨wr.heap.size, 2, none⟩) (by simp) hwz).trans (World.cell?_alloc_at _ _ _ _ rfl); clear hm2 hk2 hs2) | (at_mapUpdate; refine wp_store _ rfl _ _ _ rfl mb f (ddel d c.nm) c.to rfl ?hx rfl ?hm HCN.out.2 hdl2.out ?_; (case hx => exact HEN.out.2.symm); (case hm => exact HM2.out); intro w3 hm3 hk3 hs3; have HM3 := hid hm3; have HK3 := hid hk3; clear hm3 hk3 hs3) | go_in)
        go_roundw
        case rel => exact ⟨i + 1, by go_num, by omega, by rw [HTF.out, HP.out]; exact HM3, by rw [HTF.out]; exact HLN, ((HK.out.alloc _).trans HK2.out (fun x hx => .inl hx)).trans HK3.out (fun x hx => .inl hx)⟩
        case measure => simp [intOf]; omega
    · go_wp2
      go_end0
      have ht : cs.take i = cs := List.take_of_length_le (by omega)
      rw [ht] at HI
      exact ⟨rfl, HI.out, HK.out⟩

end Go.Proofs.YtaaioaocjfpajaaGreatDoor.Sim
end

section
/-
  A step: whether it goes down here, or what is done.
-/
namespace Go.Proofs.YtaaioaocjfpajaaGreatDoor.Sim
open Go.RowKit Go.Maps

theorem Kp.set1 (w : World) (s j : Nat) (x : Value) : Kp (· = s) w (w.setCell ⟨s, j, none⟩ x) := (Kp.refl (· = s) w).setCell (p := ⟨s, j, none⟩) (.inl rfl) x
theorem PInv.tick {N : Nat} {p : PS} (h : PInv N p) (hb : N + 1 ≤ 1000) : PInv (N + 1) (tick p) :=
  { (h.mono (M := N + 1) (by omega) hb) with
    steps := by have := h.steps; show p.steps + 1 ≤ N + 1; omega
    left := by have := h.left; show (if p.armed then p.left - 1 else p.left) ≤ _; split <;> omega }
theorem PInv.fall {N : Nat} {p : PS} (h : PInv N p) : PInv N (fall p) := { h with }

/-- Other scalars in the struct. -/
theorem Rp.cells {P : Nat → Prop} {I J : PS → Prop} {w W : World} {s : Nat} {p q : PS} {vs vf vc : Value} {u : Nat → Value} (h : Rp P I w s p vs vf vc u) (k : Kp (· = s) w W) (hb : Blk W s 83 (fsCells q vs vf vc))
    (e1 : q.made = p.made) (e2 : q.seen = p.seen) (e3 : q.safe = p.safe) (e4 : q.chg = p.chg) (e5 : q.files = p.files) (hi : J q) : Rp P J W s q vs vf vc u where
  lt x hx := Nat.lt_of_lt_of_le (h.lt x hx) k.size
  ps := h.ps
  blk := hb
  seen := by
    rw [e2]
    rcases h.seen with ⟨h1, h2⟩ | ⟨b, h1, h2⟩
    · exact .inl ⟨h1, h2⟩
    · exact .inr ⟨b, h1, h2.kp k (h2.blk h.blk)⟩
  safe := by
    rw [e3]
    rcases h.safe with ⟨h1, h2⟩ | ⟨b, h1, h2⟩
    · exact .inl ⟨h1, h2⟩
    · exact .inr ⟨b, h1, h2.kp k (h2.blk h.blk)⟩
  unmade := by rw [e1]; exact h.unmade
  mades := by rw [e1]; exact h.mades
  chg := by rw [e4]; exact h.chg.kp k (fun x hx e => (h.chg.ne h.blk (by decide)) (by rw [hx, e]))
  pc := h.pc
  file b f hf := by
    rw [e5] at hf
    obtain ⟨h1, h2, h3⟩ := h.file b f hf
    exact ⟨h1, h2.kp k (fun e => (h2.blk.ne h.blk (by decide)) e) (fun x hx e => (h2.own.row.ne h.blk (by decide)) (by rw [hx, e])), h3⟩
  sep := by rw [e5]; exact h.sep
  inv := hi

theorem add_any (a : Addr) (n d : Int) (w : World) (hc : w.cell? a = some (.int .i64 n)) (hz : w.frozen? a = false) :
    Calls Tryz.prog 104 #[.pointer (some a), .int .i64 d] w fun e w' => e = .returned (.int .i64 (wrap64 (n + d))) ∧ w' = w.setCell a (.int .i64 (wrap64 (n + d))) := by
  have hadd := run_call_add (P := Tryz.prog) Tryz.func138 (by kernel_rfl) (by kernel_rfl) (by kernel_rfl) .i64 (by kernel_rfl) (y := d) (s := wrap64 (n + d)) hc hz (by simp [go_sem, wrap64, IntKind.wrap_i64])
  go_enter Tryz.func104, Tryz.ntmps104
  go_wp2
  go_ret
  exact ⟨rfl, rfl⟩
theorem wrap_small (n : Nat) (h : n ≤ 20000000) : wrap64 ((n : Int) + 1) = ((n + 1 : Nat) : Int) := by unfold wrap64; omega

set_option maxHeartbeats 1000000 in
theorem step_dead {P : Nat → Prop} {N : Nat} (w : World) (s : Nat) (p : PS) (h : Sys P N w s p) (hd : dead p = true) (fv : Value) :
    Calls Tryz.prog 77 #[.pointer (some ⟨s, 0, none⟩), fv] w fun e w' => e = .returned (.int .i64 12) ∧ Sys P N w' s (fall p) ∧ Kp (· = s) w w' := by
  obtain ⟨vs, vf, vc, u, h⟩ := h
  have h' : p.armed = true ∧ p.left = 0 := by simpa [dead] using hd
  have q4 : w.cell? ⟨s, 4, none⟩ = some (.bool p.down) := h.c 4
  have q5 : w.cell? ⟨s, 5, none⟩ = some (.bool p.armed) := h.c 5
  have q6 : w.cell? ⟨s, 6, none⟩ = some (.int .i64 (p.left : Int)) := h.c 6
  have f4 := h.blk.frozen 4
  rw [h'.1] at q5
  rw [h'.2] at q6
  have H := hid h
  clear h h' hd
  go_enter Tryz.func77, Tryz.ntmps77
  go_wp2
  go_ret
  have k : Kp (· = s) w (w.setCell ⟨s, 4, none⟩ (.bool true)) := Kp.set1 _ _ _ _
  exact ⟨rfl, ⟨vs, vf, vc, u, H.out.cells k (H.out.blk.setCell 4 (.bool true)) rfl rfl rfl rfl rfl H.out.inv.fall⟩, k⟩

set_option maxHeartbeats 2000000 in
theorem step_live {P : Nat → Prop} {N : Nat} (w : World) (s : Nat) (p : PS) (h : Sys P N w s p) (hd : dead p = false) (hN : N + 1 ≤ 1000) (f : FuncId) (caps : Array Value)
    (ent : ∀ args w, (callFunc f args).run Tryz.prog w = .ok (.enter f args) w) (T : World → Prop)
    (hc : ∀ W, Kp (· = s) w W → Sys P (N + 1) W s (tick p) → Calls Tryz.prog f caps W fun e w' => e = .returned (.tuple #[]) ∧ T w') :
    Calls Tryz.prog 77 #[.pointer (some ⟨s, 0, none⟩), .func (.func f) #[] caps] w fun e w' => e = .returned (.int .i64 0) ∧ T w' := by
  obtain ⟨vs, vf, vc, u, h⟩ := h
  have hst := Nat.le_trans h.inv.steps h.inv.big
  have hle := h.inv.left
  have q5 : w.cell? ⟨s, 5, none⟩ = some (.bool p.armed) := h.c 5
  have q6 : w.cell? ⟨s, 6, none⟩ = some (.int .i64 (p.left : Int)) := h.c 6
  have q7 : w.cell? ⟨s, 7, none⟩ = some (.int .i64 (p.steps : Int)) := h.c 7
  have f6 := h.blk.frozen 6
  have f7 := h.blk.frozen 7
  have H := hid h
  have HT := hid (h.inv.tick hN)
  have HC := hid hc
  clear h hc
  cases ha : p.armed with
  | true =>
    have hl : p.left ≠ 0 := by intro e; simp [dead, ha, e] at hd
    rw [ha] at q5
    have hne : ((p.left : Int) == 0) = false := by simp; omega
    have hl1 : (1 : Int) ≤ (p.left : Int) := by omega
    have k1 : Hid (Kp (· = s) w (w.setCell ⟨s, 6, none⟩ (.int .i64 ((p.left : Int) - 1)))) := Kp.set1 _ _ _ _
    have q7' : (w.setCell ⟨s, 6, none⟩ (.int .i64 ((p.left : Int) - 1))).cell? ⟨s, 7, none⟩ = some (.int .i64 (p.steps : Int)) := (cell_other (by decide)).trans q7
    have f7' : (w.setCell ⟨s, 6, none⟩ (.int .i64 ((p.left : Int) - 1))).frozen? ⟨s, 7, none⟩ = false := by simpa using f7
    have HA := add_any ⟨s, 7, none⟩ p.steps 1 _ q7' f7'
    rw [wrap_small _ (by omega)] at HA
    have HA := hid HA
    have k2 : Hid (Kp (· = s) w ((w.setCell ⟨s, 6, none⟩ (.int .i64 ((p.left : Int) - 1))).setCell ⟨s, 7, none⟩ (.int .i64 ((p.steps + 1 : Nat) : Int)))) := k1.out.trans (Kp.set1 _ _ _ _) (fun x hx => .inl hx)
    have hS : Hid (Sys P (N + 1) ((w.setCell ⟨s, 6, none⟩ (.int .i64 ((p.left : Int) - 1))).setCell ⟨s, 7, none⟩ (.int .i64 ((p.steps + 1 : Nat) : Int))) s (tick p)) := by
      refine ⟨vs, vf, vc, u, H.out.cells k2.out ?_ rfl rfl rfl rfl rfl HT.out⟩
      have := (H.out.blk.setCell 6 (.int .i64 ((p.left : Int) - 1))).setCell 7 (.int .i64 ((p.steps + 1 : Nat) : Int))
      have hcast : ((p.left - 1 : Nat) : Int) = (p.left : Int) - 1 := by omega
      simpa [fsCells, tick, ha, hcast] using this
    generalize (w.setCell ⟨s, 6, none⟩ (.int .i64 ((p.left : Int) - 1))).setCell ⟨s, 7, none⟩ (.int .i64 ((p.steps + 1 : Nat) : Int)) = W at *
    clear ha hd q7' f7' k1
    go_enter Tryz.func77, Tryz.ntmps77
    go_wp2_with (first | (go_at_call 104; refine (HA.out).mono ?_; rintro e w1 ⟨rfl, h1⟩; subst w1) | (go_at_fn f; refine (HC.out W k2.out hS.out).mono ?_; rintro e w2 ⟨rfl, ht⟩; have HT2 := hid ht; clear ht))
    go_ret
    exact ⟨rfl, HT2.out⟩
  | false =>
    rw [ha] at q5
    have HA := add_any ⟨s, 7, none⟩ p.steps 1 w q7 f7
    rw [wrap_small _ (by omega)] at HA
    have HA := hid HA
    have k1 : Hid (Kp (· = s) w (w.setCell ⟨s, 7, none⟩ (.int .i64 ((p.steps + 1 : Nat) : Int)))) := Kp.set1 _ _ _ _
    have hS : Hid (Sys P (N + 1) (w.setCell ⟨s, 7, none⟩ (.int .i64 ((p.steps + 1 : Nat) : Int))) s (tick p)) := by
      refine ⟨vs, vf, vc, u, H.out.cells k1.out ?_ rfl rfl rfl rfl rfl HT.out⟩
      have := H.out.blk.setCell 7 (.int .i64 ((p.steps + 1 : Nat) : Int))
      simpa [fsCells, tick, ha] using this
    generalize w.setCell ⟨s, 7, none⟩ (.int .i64 ((p.steps + 1 : Nat) : Int)) = W at *
    clear ha hd
    go_enter Tryz.func77, Tryz.ntmps77
    go_wp2_with (first | (go_at_call 104; refine (HA.out).mono ?_; rintro e w1 ⟨rfl, h1⟩; subst w1) | (go_at_fn f; refine (HC.out W k1.out hS.out).mono ?_; rintro e w2 ⟨rfl, ht⟩; have HT2 := hid ht; clear ht))
    go_ret
    exact ⟨rfl, HT2.out⟩

end Go.Proofs.YtaaioaocjfpajaaGreatDoor.Sim
end

section
/-
  A change: what change's closure does.
-/
namespace Go.Proofs.YtaaioaocjfpajaaGreatDoor.Sim
open Go.RowKit Go.Maps

theorem step_app {ops : Array Oper} {o : Oper} {a : Act} {K : Act → World → Prop} {Q : Exit → Act → World → Prop} {E : Prop} (w : World) (hgd : o.guard = none) (s x : Operand) (t e : TypeId) (z : Value) (sz by' : Nat)
    (ho : o.op = .call { callee := .builtin .append, args := #[s, x], argTypes := #[t, t] }) (ht : Tryz.prog.underlying t = some (.slice e)) (hin : (Tryz.prog.info? e).map (fun i => (i.zero, i.size, i.bytes)) = some (some z, sz, by'))
    (hz1 : z.cells.size = sz) (hsz : 0 < sz) (v vx : Value) (n m : Nat) (xs ys : List Value) (hs : a.eval s = v) (hx : a.eval x = vx)
    (hown : Row w e sz v n xs) (hy : Src w vx m sz ys) (hlen : n + m ≤ 20000000) (hby : by' ≤ 1000)
    (h : ∀ a' cap' w', Row w' e sz (.slice a' (n + m) cap') (n + m) (xs ++ ys) → w.grownBy w' v.ownBlock → ((Value.slice a' (n + m) cap').ownBlock = v.ownBlock ∨ (Value.slice a' (n + m) cap').ownBlock = some w.heap.size) → K (a.put o.dst (.slice a' (n + m) cap')) w') :
    if Region.wanted o (yielded ops a.tmps) = true then Oper.wp Tryz.prog o a w K Q else E := by
  have hw : Region.wanted o (yielded ops a.tmps) = true := by simp [Region.wanted, hgd]
  rw [if_pos hw]
  obtain ⟨i0, hi, hz0, hz1', hz2⟩ := info_parts hin
  have key : ∃ v' w', (Builtin.append_ #[t, t] o.type #[v, vx]).run Tryz.prog w = .ok v' w' ∧ Row w' e sz v' (n + m) (xs ++ ys) ∧ w.grownBy w' v.ownBlock ∧ (v'.ownBlock = v.ownBlock ∨ v'.ownBlock = some w.heap.size) := by
    rcases hy with ⟨rfl, rfl, rfl⟩ | ⟨ad, c, rfl, hl, hc, h1⟩
    · have hrun := run_append_owned_none (P := Tryz.prog) (w := w) 0 t o.type e i0 sz ht hi v n xs hown
      exact ⟨v, w, hrun, by rw [List.append_nil]; exact hown, ⟨rfl, rfl, rfl, Nat.le_refl _, fun _ _ _ => rfl⟩, .inl rfl⟩
    · have hb : (n + m) * by' ≤ 140737488355328 := by
        have : (n + m) * by' ≤ 20000000 * 1000 := Nat.mul_le_mul hlen hby
        omega
      obtain ⟨v', w', hr, h2, h3, _, h5⟩ := run_append_own_at (P := Tryz.prog) w 0 t o.type e i0 z sz by' ht hi hz0 hz1' hz2 hz1 hsz v n xs hown ad m c ys hl hc h1 (by unfold maxLen; omega) hb (Nat.zero_le _)
      exact ⟨v', w', hr, h2, h3, h5⟩
  obtain ⟨v', w', hr, h1, h2, h3⟩ := key
  obtain ⟨a', cap', rfl, _⟩ := h1.shape
  unfold Oper.wp execOp
  simp only [ho, resolve, invoke, builtin, Sem.run_bind, Sem.run_pure, Result.andThen_ok, List.map_toArray, List.map_cons, List.map_nil, hs, hx, hr]
  exact h a' cap' w' h1 h2 h3

theorem cell_far {w : World} {b b' i j : Nat} {x : Value} (h : b' ≠ b) : (w.setCell ⟨b, i, none⟩ x).cell? ⟨b', j, none⟩ = w.cell? ⟨b', j, none⟩ := World.cell?_setCell_other _ _ _ _ (fun e => h (congrArg Addr.block e).symm)
theorem Tryz.infoChg : (Tryz.prog.info? 162).map (fun i => (i.zero, i.size, i.bytes)) = some (some (.agg #[.int .i64 0, .string ⟨#[]⟩, .string ⟨#[]⟩, .pointer none]), 4, 48) := by kernel_rfl
theorem eql_map (w : World) (p : Option Nat) : (binOp .eql 75 (.map p) (.map none)).run Tryz.prog w = .ok (.bool p.isNone) w := run_eql_map_nil_sl w 75 9 106 p Tryz.underlying75

/-- What a change leaves, told at its end. -/
theorem chg1_end (W w1 w2 : World) (ma : Nat) (c : PC) (l : Dir) (vc : Value) (cs : List PC) (o : Obj) (a2 : Option Addr) (cap2 : Nat) (hm : MapAt W ma l) (hr : Row W 162 4 vc cs.length (chgs cs)) (hm1 : MapAt w1 ma (pdo l c)) (hk1 : Kp (· = ma) W w1)
    (hr2 : Row w2 162 4 (.slice a2 (cs.length + 1) cap2) (cs.length + 1) (chgs cs ++ chgCells c)) (hg2 : (w1.alloc o).drew.grownBy w2 vc.ownBlock) (hb2 : (Value.slice a2 (cs.length + 1) cap2).ownBlock = vc.ownBlock ∨ (Value.slice a2 (cs.length + 1) cap2).ownBlock = some (w1.alloc o).drew.heap.size) :
    MapAt w2 ma (pdo l c) ∧ Row w2 162 4 (.slice a2 (cs.length + 1) cap2) (cs.length + 1) (chgs (cs ++ [c])) ∧ Kp (fun k => k = ma ∨ vc.ownBlock = some k) W w2 ∧ ∀ k, (Value.slice a2 (cs.length + 1) cap2).ownBlock = some k → vc.ownBlock = some k ∨ W.heap.size ≤ k := by
  have hmv : vc.ownBlock ≠ some ma := hm.row hr
  have k2 : Kp (fun k => vc.ownBlock = some k) w1 w2 := (((Kp.refl _ w1).alloc o).drew).grown hg2 (fun x hx => .inl hx)
  refine ⟨hm1.kp k2 (fun e => hmv e), by rw [chgs_append, chgs_one]; exact hr2, (hk1.mono (fun x hx => .inl (.inl hx))).trans k2 (fun x hx => .inl (.inr hx)), fun k hk => ?_⟩
  rcases hb2 with h | h
  · rw [h] at hk
    exact .inl hk
  · rw [h] at hk
    have h3 : w1.heap.size + 1 = k := by simpa using hk
    have := hk1.size
    exact .inr (by omega)

/-- Where the changes begin: the two maps are there, or are made. -/
def Begun (W : World) (s : Nat) (r vc d ar lf st : Value) (vs : Value) (l : Dir) (wx : World) (ma : Nat) : Prop :=
  (wx = W ∧ vs = .map (some ma) ∧ MapAt W ma l) ∨
  (vs = .map none ∧ l = [] ∧ ∃ mf, Kp (· = s) W wx ∧ Blk wx s 83 [r, .map (some ma), .map (some mf), vc, d, ar, lf, st] ∧ MapAt wx ma [] ∧ MapAt wx mf [] ∧ ma ≠ mf ∧ W.heap.size ≤ ma ∧ W.heap.size ≤ mf)

theorem Begun.facts {W : World} {s : Nat} {r vf vc d ar lf st vs : Value} {l : Dir} {wx : World} {ma : Nat} (h : Begun W s r vc d ar lf st vs l wx ma) (hs : Blk W s 83 [r, vs, vf, vc, d, ar, lf, st]) :
    ∃ vf', Blk wx s 83 [r, .map (some ma), vf', vc, d, ar, lf, st] ∧ MapAt wx ma l ∧ Kp (· = s) W wx := by
  rcases h with ⟨rfl, rfl, hm⟩ | ⟨_, rfl, mf, hk, hb, h1, _⟩
  · exact ⟨vf, hs, hm, Kp.refl _ _⟩
  · exact ⟨_, hb, h1, hk⟩
theorem begun_mk (W : World) (s : Nat) (r vc vs vf : Value) {d ar lf st : Value} (A B : Nat) (hs : Blk W s 83 [r, vs, vf, vc, d, ar, lf, st]) :
    Kp (· = s) W (((((W.setCell ⟨s, 1, none⟩ (.map (some A))).setCell ⟨s, 2, none⟩ (.map (some B))).alloc (.map #[] 0)).alloc (.map #[] 0)).drew) ∧ Blk (((((W.setCell ⟨s, 1, none⟩ (.map (some A))).setCell ⟨s, 2, none⟩ (.map (some B))).alloc (.map #[] 0)).alloc (.map #[] 0)).drew) s 83 [r, .map (some A), .map (some B), vc, d, ar, lf, st] := by
  have k1 : Kp (· = s) W ((W.setCell ⟨s, 1, none⟩ (.map (some A))).setCell ⟨s, 2, none⟩ (.map (some B))) := (Kp.set1 _ _ _ _).trans (Kp.set1 _ _ _ _) (fun x hx => .inl hx)
  have b1 := (hs.setCell 1 (.map (some A))).setCell 2 (.map (some B))
  have k2 : Kp No ((W.setCell ⟨s, 1, none⟩ (.map (some A))).setCell ⟨s, 2, none⟩ (.map (some B))) (((((W.setCell ⟨s, 1, none⟩ (.map (some A))).setCell ⟨s, 2, none⟩ (.map (some B))).alloc (.map #[] 0)).alloc (.map #[] 0)).drew) := (((Kp.refl _ _).alloc _).alloc _).drew
  exact ⟨k1.andNone k2, b1.kp k2 (fun h => h)⟩
theorem begun_maps (W : World) (s A B : Nat) : MapAt (((((W.setCell ⟨s, 1, none⟩ (.map (some A))).setCell ⟨s, 2, none⟩ (.map (some B))).alloc (.map #[] 0)).alloc (.map #[] 0)).drew) W.heap.size [] ∧ MapAt (((((W.setCell ⟨s, 1, none⟩ (.map (some A))).setCell ⟨s, 2, none⟩ (.map (some B))).alloc (.map #[] 0)).alloc (.map #[] 0)).drew) (W.heap.size + 1) [] := by
  generalize hV : (W.setCell ⟨s, 1, none⟩ (.map (some A))).setCell ⟨s, 2, none⟩ (.map (some B)) = V
  have hz : V.heap.size = W.heap.size := by rw [← hV]; simp
  have h1 := MapAt.new V
  have h2 := MapAt.new (V.alloc (.map #[] 0))
  rw [hz] at h1
  have hz2 : (V.alloc (.map #[] 0)).heap.size = W.heap.size + 1 := by simp [hz]
  rw [hz2] at h2
  exact ⟨(h1.kp (L := No) (((Kp.refl _ _).alloc _).drew) (fun h => h)), h2.kp (L := No) ((Kp.refl _ _).drew) (fun h => h)⟩

set_option maxHeartbeats 4000000 in
theorem chg1_any (W : World) (s x y : Nat) (c : PC) (l : Dir) (r vs vf vc d ar lf st : Value) (cs : List PC) (hx : Blk W x 25 [.pointer (some ⟨s, 0, none⟩)]) (hy : Blk W y 162 (chgCells c)) (hs : Blk W s 83 [r, vs, vf, vc, d, ar, lf, st])
    (hm : (∃ ma, vs = .map (some ma) ∧ MapAt W ma l) ∨ (vs = .map none ∧ vf = .map none ∧ l = [])) (hr : Row W 162 4 vc cs.length (chgs cs))
    (hok : okc l c) (hn : c.nm.length ≤ 20000000 ∧ c.to.length ≤ 20000000) (hl : l.length ≤ 10000) (hcs : cs.length ≤ 10000) (hvy : vc.ownBlock ≠ some y) :
    Calls Tryz.prog 103 #[.pointer (some ⟨x, 0, none⟩), .pointer (some ⟨y, 0, none⟩)] W fun e w' => e = .returned (.tuple #[]) ∧ ∃ wx ma vc' W1, Begun W s r vc d ar lf st vs l wx ma ∧ MapAt W1 ma (pdo l c) ∧ Row W1 162 4 vc' (cs.length + 1) (chgs (cs ++ [c])) ∧ Kp (fun k => k = ma ∨ vc.ownBlock = some k) wx W1 ∧
      w' = W1.setCell ⟨s, 3, none⟩ vc' ∧ ∀ k, vc'.ownBlock = some k → vc.ownBlock = some k ∨ wx.heap.size ≤ k := by
  have hq := eql_map
  have b0 : W.cell? ⟨x, 0, none⟩ = some (.pointer (some ⟨s, 0, none⟩)) := hx.cell 0
  have c1 : W.cell? ⟨s, 1, none⟩ = some vs := hs.cell 1
  have hxl := hx.lt
  have hsl := hs.lt
  have hsx : s ≠ x := hs.ne hx (by decide)
  have HX := hid hx
  have HY := hid hy
  have HS := hid hs
  have HM := hid hm
  have HR := hid hr
  obtain ⟨a, cap, hv, h5, h6, h7, h8⟩ := hr.shape
  subst hv
  obtain ⟨mo, hmo⟩ : ∃ mo, vs = .map mo := by
    rcases hm with ⟨ma, h, _⟩ | ⟨h, _⟩
    · exact ⟨_, h⟩
    · exact ⟨_, h⟩
  subst hmo
  clear hx hy hs hm hr h7 h8
  go_enter Tryz.func103, Tryz.ntmps103
  go_upto_if 6 with fail
  go_cut [] from 7 to 14 (fun wx => ∃ ma, Hid (Begun W s r (.slice a cs.length cap) d ar lf st (.map mo) l wx ma))
  case first =>
    rcases HM.out with ⟨ma, hvs, hma⟩ | ⟨hvs, hvf, hl0⟩
    · cases hvs
      have HMA := hid hma
      clear hma HM
      go_wp2_with fail
      go_meet
      case rel => exact ⟨ma, .inl ⟨rfl, rfl, HMA.out⟩⟩
    · cases hvs
      subst hvf hl0
      clear HM
      have hmm := @run_makeMap Tryz.prog
      have c2 : W.cell? ⟨s, 2, none⟩ = some (.map none) := HS.out.cell 2
      have f1 := HS.out.frozen 1
      have f2 := HS.out.frozen 2
      have hxs : x ≠ s := Ne.symm hsx
      have hxs1 : ∀ (V : World) (i : Nat) (v : Value), (V.setCell ⟨s, i, none⟩ v).cell? ⟨x, 0, none⟩ = V.cell? ⟨x, 0, none⟩ := fun V i v => cell_far hxs
      have H1 : Hid (∀ A B, Kp (· = s) W (((((W.setCell ⟨s, 1, none⟩ (.map (some A))).setCell ⟨s, 2, none⟩ (.map (some B))).alloc (.map #[] 0)).alloc (.map #[] 0)).drew) ∧ Blk (((((W.setCell ⟨s, 1, none⟩ (.map (some A))).setCell ⟨s, 2, none⟩ (.map (some B))).alloc (.map #[] 0)).alloc (.map #[] 0)).drew) s 83 [r, .map (some A), .map (some B), .slice a cs.length cap, d, ar, lf, st]) := fun A B => begun_mk W s _ _ _ _ A B HS.out
      have H2 : Hid (∀ A B, MapAt (((((W.setCell ⟨s, 1, none⟩ (.map (some A))).setCell ⟨s, 2, none⟩ (.map (some B))).alloc (.map #[] 0)).alloc (.map #[] 0)).drew) W.heap.size [] ∧ MapAt (((((W.setCell ⟨s, 1, none⟩ (.map (some A))).setCell ⟨s, 2, none⟩ (.map (some B))).alloc (.map #[] 0)).alloc (.map #[] 0)).drew) (W.heap.size + 1) []) := fun A B => begun_maps W s A B
      go_wp2_with fail
      go_region
      all_goals
        go_wp2_with fail
        go_meet
        case rel =>
          first
            | exact ⟨W.heap.size, .inr ⟨rfl, rfl, W.heap.size + 1, (H1.out _ _).1, (H1.out _ _).2, (H2.out _ _).1, (H2.out _ _).2, by omega, by omega, by omega⟩⟩
            | exact ⟨W.heap.size + 1, .inr ⟨rfl, rfl, W.heap.size, (H1.out _ _).1, (H1.out _ _).2, (H2.out _ _).2, (H2.out _ _).1, by omega, by omega, by omega⟩⟩
  case rest =>
    obtain ⟨ma, HB⟩ := hcut
    obtain ⟨vf', hs', hm, hk⟩ := HB.out.facts HS.out
    have hx := HX.out.kp hk (Ne.symm hsx)
    have hy := HY.out.kp hk (fun e => HS.out.ne HY.out (by decide) e.symm)
    have hr := HR.out.kp hk (fun k hk' e => HR.out.ne HS.out (by decide) (by rw [hk', e]))
    replace hsl := hs'.lt
    replace c1 : wc.cell? ⟨s, 1, none⟩ = some (.map (some ma)) := hs'.cell 1
    have c3 : wc.cell? ⟨s, 3, none⟩ = some (.slice a cs.length cap) := hs'.cell 3
    have f3 := hs'.frozen 3
    have hsm : s ≠ ma := Ne.symm (hm.blk hs')
    have hsv : ∀ k, (Value.slice a cs.length cap).ownBlock = some k → k ≠ s ∧ k ≠ x ∧ k ≠ y := fun k hk' => ⟨fun e => hr.ne hs' (by decide) (by rw [hk', e]), fun e => hr.ne hx (by decide) (by rw [hk', e]), fun e => hvy (by rw [hk', e])⟩
    clear hs' hk HX HY HS HM HR
    replace b0 : wc.cell? ⟨x, 0, none⟩ = some (.pointer (some ⟨s, 0, none⟩)) := hx.cell 0
    replace hxl := hx.lt
    have hyl := hy.lt
    have hml := hm.lt
    have d0 : wc.cell? ⟨y, 0, none⟩ = some (.int .i64 (c.kind : Int)) := hy.cell 0
    have d1 : wc.cell? ⟨y, 1, none⟩ = some (.string (sOf c.nm)) := hy.cell 1
    have d2 : wc.cell? ⟨y, 2, none⟩ = some (.string (sOf c.to)) := hy.cell 2
    have d3 : wc.cell? ⟨y, 3, none⟩ = some (ptrV (pcV c)) := hy.cell 3
    have HO : Hid (chgCells c = [.int .i64 (c.kind : Int), .string (sOf c.nm), .string (sOf c.to), ptrV (pcV c)]) := rfl
    obtain ⟨pv, hpv⟩ : ∃ pv, ptrV (pcV c) = .pointer pv := ⟨_, rfl⟩
    rw [hpv] at d3 HO
    have hmx : Hid (x ≠ ma ∧ y ≠ ma) := by
      refine ⟨fun e => ?_, fun e => ?_⟩
      · rw [e, hm.noCell] at b0; cases b0
      · rw [e, hm.noCell] at d0; cases d0
    -- the changes are done
    have HD : Hid (∀ V, Kp No (wc.alloc (.cells #[.int .i64 (c.kind : Int), .string (sOf c.nm), .string (sOf c.to), .pointer pv] 162)) V → Calls Tryz.prog 66 #[.map (some ma), .slice (some ⟨wc.heap.size, 0, none⟩) 1 1] V fun e w' => e = .returned (.tuple #[]) ∧ MapAt w' ma (pdo l c) ∧ Kp (· = ma) wc w') := by
      intro V k
      have k0 : Kp No wc V := ((Kp.refl _ _).alloc _).andNone k
      have ho : ChAt V (.slice (some ⟨wc.heap.size, 0, none⟩) 1 1) [c] := by
        obtain ⟨a, cap, h1, h2, h3, h4, h5⟩ := ChAt.one wc c
        refine ⟨a, cap, h1, h2, h3, h4, fun hne => ?_⟩
        obtain ⟨g, hg, hgl, hcl⟩ := h5 hne
        rw [HO.out] at hgl hcl
        exact ⟨g, hg, Nat.lt_of_lt_of_le hgl k.size, fun i d hi j hj => (k.cell (p := ⟨g, i * 4 + j, none⟩) hgl (fun h => h)).trans (hcl i d hi j hj)⟩
      refine (do_any V ma l _ [c] (hm.kp k0 (fun h => h)) ho ⟨hok, trivial⟩ (by simpa using hn) (by simp; omega)).mono ?_
      rintro e w' ⟨rfl, h1, h2⟩
      exact ⟨rfl, h1, (k0.mono (fun _ h => h.elim)).trans h2 (fun x hx => .inl hx)⟩
    have HR := hid hr
    have HM := hid hm
    have HSV := hid hsv
    clear hx hy hr hm hok hn hsv hpv
    generalize sOf c.nm = sn at *
    generalize sOf c.to = st at *
    have hmx1 := hmx.out.1
    have hmx2 := hmx.out.2
    have r0 : ∀ V, Kp (· = ma) wc V → V.cell? ⟨x, 0, none⟩ = some (.pointer (some ⟨s, 0, none⟩)) := fun V k => (k.cell (p := ⟨x, 0, none⟩) hxl hmx1).trans b0
    have r1 : ∀ V, Kp (· = ma) wc V → V.cell? ⟨s, 1, none⟩ = some (.map (some ma)) := fun V k => (k.cell (p := ⟨s, 1, none⟩) hsl hsm).trans c1
    have r3 : ∀ V, Kp (· = ma) wc V → V.cell? ⟨s, 3, none⟩ = some (.slice a cs.length cap) := fun V k => (k.cell (p := ⟨s, 3, none⟩) hsl hsm).trans c3
    have g3 : ∀ V, Kp (· = ma) wc V → V.frozen? ⟨s, 3, none⟩ = false := fun V k => (k.frozen (p := ⟨s, 3, none⟩) hsl hsm).trans f3
    have t0 : ∀ V, Kp (· = ma) wc V → V.cell? ⟨y, 0, none⟩ = some (.int .i64 (c.kind : Int)) := fun V k => (k.cell (p := ⟨y, 0, none⟩) hyl hmx2).trans d0
    have t1 : ∀ V, Kp (· = ma) wc V → V.cell? ⟨y, 1, none⟩ = some (.string sn) := fun V k => (k.cell (p := ⟨y, 1, none⟩) hyl hmx2).trans d1
    have t2 : ∀ V, Kp (· = ma) wc V → V.cell? ⟨y, 2, none⟩ = some (.string st) := fun V k => (k.cell (p := ⟨y, 2, none⟩) hyl hmx2).trans d2
    have t3 : ∀ V, Kp (· = ma) wc V → V.cell? ⟨y, 3, none⟩ = some (.pointer pv) := fun V k => (k.cell (p := ⟨y, 3, none⟩) hyl hmx2).trans d3
    go_wp2_with fail
    go_region_held3 (fun V => Kp (· = ma) wc V) (first | (with_reducible exact Kp.refl _ _) | (with_reducible exact (Kp.refl _ _).drew) | (with_reducible exact ((Kp.refl _ _).alloc _).drew) | (with_reducible exact (Kp.refl _ _).drew.alloc _) | (with_reducible exact HK1.out)) (first | (go_at_call 66; refine (HD.out _ ?_).mono ?_; (with_reducible exact (Kp.refl _ _).drew); rintro e w1 ⟨rfl, hm1, hk1⟩; have HM1 := hid hm1; have HK1 := hid hk1; clear hm1 hk1))
    have k1 := HK1.out
    have u0 := r0 _ k1
    have u3 := r3 _ k1
    have z3 := g3 _ k1
    have v0 := t0 _ k1
    have v1 := t1 _ k1
    have v2 := t2 _ k1
    have v3 := t3 _ k1
    have hsl1 : s < w1.heap.size := Nat.lt_of_lt_of_le hsl k1.size
    have hxl1 : x < w1.heap.size := Nat.lt_of_lt_of_le hxl k1.size
    have hyl1 : y < w1.heap.size := Nat.lt_of_lt_of_le hyl k1.size
    have HROW : Hid (∀ o, Row (w1.alloc o) 162 4 (.slice a cs.length cap) cs.length (chgs cs)) := fun o => (HR.out.kp k1 (fun k hk e => HM.out.row HR.out (by rw [← e]; exact hk))).kept ((Kp.refl _ _).alloc _)
    have HSRC : Hid (Src (w1.alloc (.cells #[.int .i64 (c.kind : Int), .string sn, .string st, .pointer pv] 162)) (.slice (some ⟨w1.heap.size, 0, none⟩) 1 1) 1 4 (chgCells c)) := by
      have h := Src.one w1 (chgCells c) 4 162 rfl (chgCells_one c)
      rw [HO.out] at h ⊢
      exact h
    have HSZ := hid k1.size
    clear r0 r1 r3 g3 t0 t1 t2 t3 k1 HD
    go_wp2_with fail
    clear hq c1 c3 f3 b0 d0 d1 d2 d3 hmx hmx1 hmx2 hsl hxl hyl hml hsx

    go_region_law (refine step_app _ (by rfl) (.tmp 26) (.tmp 28) 76 162 _ 4 48 (by rfl) Tryz.underlying76 Tryz.infoChg rfl (by decide) (.slice a cs.length cap) (.slice (some ⟨w1.heap.size, 0, none⟩) 1 1) cs.length 1 (chgs cs) (chgCells c) (by simp [Act.eval]) (by simp [Act.eval]) (HROW.out _) HSRC.out (by omega) (by decide) ?_; intro a2 cap2 w2 hr2 hg2 hb2; have HR2 := hid hr2; have HG2 := hid hg2; have HB2 := hid hb2; have y3 : w2.cell? ⟨s, 3, none⟩ = some (.slice a cs.length cap) := hg2.cell ((World.cell?_alloc_past _ _ _ hsl1).trans u3) (fun e => (HSV.out s e.symm).1 rfl); have yz : w2.frozen? ⟨s, 3, none⟩ = false := ((Kp.ofGrown hg2).frozen (p := ⟨s, 3, none⟩) (by simp; omega) (fun e => (HSV.out s e).1 rfl)).trans ((World.frozen?_alloc_past _ _ _ hsl1).trans z3); have yx : w2.cell? ⟨x, 0, none⟩ = some (.pointer (some ⟨s, 0, none⟩)) := hg2.cell ((World.cell?_alloc_past _ _ _ hxl1).trans u0) (fun e => (HSV.out x e.symm).2.1 rfl); clear hr2 hg2 hb2)
    all_goals
      go_end0
      have hE := chg1_end wc w1 w2 ma c l _ cs _ a2 cap2 HM.out HR.out HM1.out HK1.out HR2.out HG2.out HB2.out
      exact ⟨rfl, wc, ma, _, w2, HB.out, hE.1, hE.2.1, hE.2.2.1, rfl, hE.2.2.2⟩

end Go.Proofs.YtaaioaocjfpajaaGreatDoor.Sim
end

section
/-
  A change of the system: the state behind it; change, Create, Remove, Rename.
-/
namespace Go.Proofs.YtaaioaocjfpajaaGreatDoor.Sim
open Go.RowKit Go.Maps

/-- P, and what is new. -/
def Ext (P : Nat → Prop) (w w' : World) : Nat → Prop := fun x => P x ∨ (w.heap.size ≤ x ∧ x < w'.heap.size)

/-- What a call leaves: the system of the state q, at s; what is not its own is as it was. -/
def Done (P : Nat → Prop) (N : Nat) (w w' : World) (s : Nat) (q : PS) : Prop := ∃ P', Sys P' N w' s q ∧ Kp P w w' ∧ ∀ x, P' x → P x ∨ w.heap.size ≤ x
theorem Done.of {P : Nat → Prop} {N : Nat} {w w' : World} {s : Nat} {q : PS} (h : Sys P N w' s q) (k : Kp P w w') : Done P N w w' s q := ⟨P, h, k, fun _ h => .inl h⟩
theorem Done.after {P : Nat → Prop} {N : Nat} {u w w' : World} {s : Nat} {q : PS} (h : Done P N w w' s q) (k : Kp No u w) : Done P N u w' s q := by
  obtain ⟨P', h1, h2, h3⟩ := h
  refine ⟨P', h1, (k.mono (fun _ h => h.elim)).trans h2 (fun x hx => .inl hx), fun x hx => ?_⟩
  rcases h3 x hx with h | h
  · exact .inl h
  · exact .inr (Nat.le_trans k.size h)
theorem Done.kept {P : Nat → Prop} {N : Nat} {u w w' : World} {s : Nat} {q : PS} (h : Done P N u w s q) (k : Kp No w w') : Done P N u w' s q := by
  obtain ⟨P', h1, h2, h3⟩ := h
  exact ⟨P', h1.kept k, h2.andNone k, h3⟩

theorem inv_chgd {M : Nat} {q : PS} {c : PC} (h : PInv M q) (hok : okc q.seen c) (hn : c.nm.length ≤ 40 ∧ c.to.length ≤ 40) (h1 : q.safe.length + q.chg.length + 1 ≤ M)
    (h0 : c.kind = 0 → (q.files c.file).isSome = true ∧ c.file ∉ q.safe.map (·.2) ++ (q.chg.filter (fun c => c.kind == 0)).map (·.file)) : PInv M (chgd c q) :=
  { h with
    seen_eq := by show pdo q.seen c = (q.chg ++ [c]).foldl pdo q.safe; rw [List.foldl_append, ← h.seen_eq]; rfl
    okc := by show okcs q.safe (q.chg ++ [c]); rw [okcs_append, ← h.seen_eq]; exact ⟨h.okc, hok, trivial⟩
    hasC := fun d hd hk => by
      rcases List.mem_append.1 hd with hd | hd
      · exact h.hasC d hd hk
      · simp at hd; subst hd; exact (h0 hk).1
    nodup := by
      show (q.safe.map (·.2) ++ ((q.chg ++ [c]).filter (fun c => c.kind == 0)).map (·.file)).Nodup
      rw [List.filter_append, List.map_append, ← List.append_assoc]
      by_cases hk : c.kind = 0
      · rw [List.nodup_append]
        refine ⟨h.nodup, by simp [hk], fun a ha b hb => ?_⟩
        simp [hk] at hb
        intro e
        subst e hb
        exact (h0 hk).2 ha
      · simp [hk]
        exact h.nodup
    nmC := fun d hd => by
      rcases List.mem_append.1 hd with hd | hd
      · exact h.nmC d hd
      · simp at hd; subst hd; exact hn
    nmade := fun e => by cases e
    lsum := by show q.safe.length + (q.chg ++ [c]).length ≤ M; simp; omega }

theorem rp_chgd {P : Nat → Prop} {N M : Nat} {W wx W1 w' : World} {s ma : Nat} {q : PS} {vs vf vc vc' : Value} {u : Nat → Value} {c : PC} (h : Rp P (PInv N) W s q vs vf vc u)
    (hB : Begun W s (.int .i64 (q.room : Int)) vc (.bool q.down) (.bool q.armed) (.int .i64 (q.left : Int)) (.int .i64 (q.steps : Int)) vs q.seen wx ma) (hm : MapAt W1 ma (pdo q.seen c)) (hr : Row W1 162 4 vc' (q.chg.length + 1) (chgs (q.chg ++ [c])))
    (hk : Kp (fun k => k = ma ∨ vc.ownBlock = some k) wx W1) (hw : w' = W1.setCell ⟨s, 3, none⟩ vc') (hv : ∀ k, vc'.ownBlock = some k → vc.ownBlock = some k ∨ wx.heap.size ≤ k) (hi : PInv M (chgd c q)) :
    Sys (Ext P W w') M w' s (chgd c q) ∧ Kp P W w' := by
  obtain ⟨vf0, hs0, hm0, hk0⟩ := hB.facts (vf := vf) h.blk
  have hma : (P ma ∨ W.heap.size ≤ ma) ∧ ∀ b t cs, Blk W b t cs → b ≠ ma := by
    rcases hB with ⟨rfl, rfl, hm1⟩ | ⟨_, _, mf, _, _, _, _, _, h1, _⟩
    · exact ⟨.inl (h.mapS.1 ma rfl), fun b t cs hb => Ne.symm (hm1.blk hb)⟩
    · exact ⟨.inr h1, fun b t cs hb => by have := hb.lt; omega⟩
  have hmr : ∀ {e : TypeId} {sz n : Nat} {v : Value} {xs : List Value}, Row W e sz v n xs → ∀ x, v.ownBlock = some x → x ≠ ma := by
    intro e sz n v xs hrow x hx
    rcases hB with ⟨rfl, rfl, hm1⟩ | ⟨_, _, mf, _, _, _, _, _, h1, _⟩
    · intro e; exact hm1.row hrow (by rw [hx, e])
    · have := hrow.lt x hx; omega
  -- all that changes
  have K1 : Kp (fun k => k = s ∨ k = ma ∨ vc.ownBlock = some k) W W1 := (hk0.mono (fun x hx => .inl (.inl hx))).trans hk (fun x hx => .inl (.inr hx))
  have K : Kp (fun k => k = s ∨ k = ma ∨ vc.ownBlock = some k) W w' := by
    rw [hw]
    exact K1.setCell (p := ⟨s, 3, none⟩) (.inl (.inl rfl)) _
  have hsm : s ≠ ma := hma.2 s _ _ h.blk
  have hsv : vc.ownBlock ≠ some s := h.chg.ne h.blk (by decide)
  have KP : Kp P W w' := K.mono (fun x hx => by
    rcases hx with rfl | rfl | hx
    · exact .inl h.ps
    · exact hma.1
    · exact .inl (h.pc x hx))
  have kset : Kp (· = s) W1 w' := by rw [hw]; exact Kp.set1 _ _ _ _
  have hs1 : Blk W1 s 83 _ := hs0.kp hk (fun e => by
    rcases e with e | e
    · exact hsm e
    · exact hsv e)
  have hsb : Blk w' s 83 (fsCells (chgd c q) (.map (some ma)) vf0 vc') := by rw [hw]; exact hs1.setCell 3 vc'
  have hmw : MapAt w' ma (pdo q.seen c) := hm.kp kset (hm.blk hs1)
  -- the safe directory
  have hsafe : ∃ mf, vf0 = .map (some mf) ∧ mf ≠ ma ∧ MapAt w' mf q.safe ∧ (P mf ∨ W.heap.size ≤ mf) := by
    rcases hB with ⟨hwx, hvs, hm1⟩ | ⟨hvs, hl, mf, h1, h2, h3, h4, h5, h6, h7⟩
    · subst hwx hvs
      have hmade : q.made = true := by
        cases hmd : q.made with
        | true => rfl
        | false => have := (h.unmade hmd).1; cases this
      obtain ⟨a, b, ha, hb, hab, pa, pb⟩ := h.mades hmade
      cases ha
      have hvf : vf0 = vf := by
        have e1 := hs0.cell 2
        have e2 := h.blk.cell 2
        rw [e2] at e1
        simpa [fsCells] using e1.symm
      subst hvf hb
      refine ⟨b, rfl, Ne.symm hab, ?_, .inl pb⟩
      rcases h.safe with ⟨e, _⟩ | ⟨b', e, hmb⟩
      · cases e
      · cases e
        exact hmb.kp K (fun e => by
          rcases e with e | e | e
          · exact hmb.blk h.blk e
          · exact hab e.symm
          · exact hmb.row h.chg e)
    · have hvf0 : vf0 = .map (some mf) := by
        have e1 := hs0.cell 2
        have e2 := h2.cell 2
        rw [e2] at e1
        simpa using e1.symm
      subst hvf0
      have hmd : q.made = false := by
        cases hmd : q.made with
        | false => rfl
        | true => obtain ⟨a, b, ha, _⟩ := h.mades hmd; rw [hvs] at ha; cases ha
      rw [(h.inv.nmade hmd).2]
      refine ⟨mf, rfl, Ne.symm h5, ?_, .inr h7⟩
      have h8 := h4.kp hk (fun e => by
        rcases e with e | e
        · exact h5 e.symm
        · have := h.chg.lt mf e; omega)
      exact h8.kp kset (fun e => by have := h.blk.lt; omega)
  obtain ⟨mf, hvf0, hne, hmf, hpf⟩ := hsafe
  subst hvf0
  have hrw : Row w' 162 4 vc' (q.chg.length + 1) (chgs (q.chg ++ [c])) := hr.kp kset (fun x hx e => hr.ne hs1 (by decide) (by rw [hx, e]))
  have hin : ∀ x, P x ∨ W.heap.size ≤ x → x < w'.heap.size → Ext P W w' x := fun x hx hl => by
    rcases hx with h | h
    · exact .inl h
    · exact .inr ⟨h, hl⟩
  refine ⟨⟨.map (some ma), .map (some mf), vc', u, ?_⟩, KP⟩
  exact {
    lt := fun x hx => by
      rcases hx with hx | hx
      · exact Nat.lt_of_lt_of_le (h.lt x hx) K.size
      · exact hx.2
    ps := .inl h.ps
    blk := hsb
    seen := .inr ⟨ma, rfl, hmw⟩
    safe := .inr ⟨mf, rfl, hmf⟩
    unmade := fun e => by cases e
    mades := fun _ => ⟨ma, mf, rfl, rfl, Ne.symm hne, hin ma hma.1 hmw.lt, hin mf hpf hmf.lt⟩
    chg := by
      show Row w' 162 4 vc' (q.chg ++ [c]).length _
      rw [List.length_append]
      exact hrw
    pc := fun x hx => hin x (by
      rcases hv x hx with h1 | h1
      · exact .inl (h.pc x h1)
      · exact .inr (Nat.le_trans hk0.size h1)) (hrw.lt x hx)
    file := fun b f hf => by
      obtain ⟨h1, h2, h3⟩ := h.file b f hf
      refine ⟨.inl h1, h2.kp K (fun e => ?_) (fun x hx e => ?_), fun x hx => .inl (h3 x hx)⟩
      · rcases e with e | e | e
        · exact h2.blk.ne h.blk (by decide) e
        · exact hma.2 b _ _ h2.blk e
        · exact h.chg.ne h2.blk (by decide) e
      · rcases e with e | e | e
        · exact h2.own.row.ne h.blk (by decide) (by rw [hx, e])
        · exact hmr h2.own.row x hx e
        · exact h2.own.row.ne' h.chg (by decide) x hx e
    sep := h.sep
    inv := hi }

theorem hmf (fn : Fn) (first cap : Array Value) (w : World) : (Instr.makeFunc fn first cap).run Tryz.prog w = .ok (.func fn first cap) w := rfl

set_option maxHeartbeats 2000000 in
/-- change: a step, and then the change. -/
theorem change_any {P P2 : Nat → Prop} {N : Nat} (w : World) (s : Nat) (p q : PS) (c : PC) (h : Sys P N w s p) (hN : N + 1 ≤ 1000) (hpre : ∀ W, Kp (· = s) w W → Sys P (N + 1) W s (tick p) → Sys P2 (N + 1) W s q) (hlt2 : ∀ x, P2 x → x < w.heap.size)
    (hok : okc q.seen c) (hn : c.nm.length ≤ 20000000 ∧ c.to.length ≤ 20000000) (hi : PInv (N + 1) (chgd c q)) :
    Calls Tryz.prog 76 #[.pointer (some ⟨s, 0, none⟩), .agg (chgCells c).toArray] w fun e w' =>
      (dead p = true ∧ e = .returned (.int .i64 12) ∧ Sys P N w' s (fall p) ∧ Kp (· = s) w w') ∨
      (dead p = false ∧ e = .returned (.int .i64 0) ∧ ∃ P', Sys P' (N + 1) w' s (chgd c q) ∧ Kp P2 w w' ∧ ∀ x, P' x → P2 x ∨ w.heap.size ≤ x) := by
  have hm := hmf
  have HO : Hid (chgCells c = [.int .i64 (c.kind : Int), .string (sOf c.nm), .string (sOf c.to), ptrV (pcV c)]) := rfl
  obtain ⟨pv, hpv⟩ : ∃ pv, ptrV (pcV c) = .pointer pv := ⟨_, rfl⟩
  rw [hpv] at HO
  have hsl := h.lt s (by obtain ⟨_, _, _, _, h⟩ := h; exact h.ps)
  have HH := hid h
  rw [HO.out]
  -- the two boxes
  have kw : Hid (Kp No w ((w.alloc (.cells #[.pointer (some ⟨s, 0, none⟩)] 25)).alloc (.cells #[.int .i64 (c.kind : Int), .string (sOf c.nm), .string (sOf c.to), .pointer pv] 162))) := ((Kp.refl _ _).alloc _).alloc _
  have hb1 : Hid (Blk ((w.alloc (.cells #[.pointer (some ⟨s, 0, none⟩)] 25)).alloc (.cells #[.int .i64 (c.kind : Int), .string (sOf c.nm), .string (sOf c.to), .pointer pv] 162)) w.heap.size 25 [.pointer (some ⟨s, 0, none⟩)]) := (Blk.new w 25 [.pointer (some ⟨s, 0, none⟩)]).kp (L := No) ((Kp.refl _ _).alloc _) (fun h => h)
  have hb2 : Hid (Blk ((w.alloc (.cells #[.pointer (some ⟨s, 0, none⟩)] 25)).alloc (.cells #[.int .i64 (c.kind : Int), .string (sOf c.nm), .string (sOf c.to), .pointer pv] 162)) (w.heap.size + 1) 162 (chgCells c)) := by
    have := Blk.new (w.alloc (.cells #[.pointer (some ⟨s, 0, none⟩)] 25)) 162 (chgCells c)
    unfold Hid
    rw [HO.out] at this ⊢
    simpa using this
  have hsz : Hid (((w.alloc (.cells #[.pointer (some ⟨s, 0, none⟩)] 25)).alloc (.cells #[.int .i64 (c.kind : Int), .string (sOf c.nm), .string (sOf c.to), .pointer pv] 162)).heap.size = w.heap.size + 2) := by simp [Hid]
  have q0 : ((w.alloc (.cells #[.pointer (some ⟨s, 0, none⟩)] 25)).alloc (.cells #[.int .i64 (c.kind : Int), .string (sOf c.nm), .string (sOf c.to), .pointer pv] 162)).cell? ⟨w.heap.size, 0, none⟩ = some (.pointer (some ⟨s, 0, none⟩)) := hb1.out.cell 0
  cases hd : dead p with
  | true =>
    have HC := hid (step_dead _ s p (h.kept kw.out) hd (.func (.func 103) #[] #[.pointer (some ⟨w.heap.size, 0, none⟩), .pointer (some ⟨w.heap.size + 1, 0, none⟩)]))
    generalize sOf c.nm = sn at *
    generalize sOf c.to = st at *
    clear hb1 hb2 hsz h hpv
    go_enter Tryz.func76, Tryz.ntmps76
    go_wp2_with (go_at_call 77; refine (HC.out).mono ?_; rintro e w1 ⟨rfl, h1, h2⟩; have H1 := hid h1; have H2 := hid h2; clear h1 h2)
    go_ret
    exact .inl ⟨by first | rfl | trivial, rfl, H1.out, (kw.out.mono (fun _ h => h.elim)).trans H2.out (fun x hx => .inl hx)⟩
  | false =>
    have HC : Hid (Calls Tryz.prog 77 #[.pointer (some ⟨s, 0, none⟩), .func (.func 103) #[] #[.pointer (some ⟨w.heap.size, 0, none⟩), .pointer (some ⟨w.heap.size + 1, 0, none⟩)]] ((w.alloc (.cells #[.pointer (some ⟨s, 0, none⟩)] 25)).alloc (.cells #[.int .i64 (c.kind : Int), .string (sOf c.nm), .string (sOf c.to), .pointer pv] 162)) fun e w' => e = .returned (.int .i64 0) ∧
        ∃ P', Sys P' (N + 1) w' s (chgd c q) ∧ Kp P2 w w' ∧ ∀ x, P' x → P2 x ∨ w.heap.size ≤ x) := by
      refine step_live _ s p (h.kept kw.out) hd hN 103 _ (enters_of Tryz.func103 (by kernel_rfl) rfl) _ ?_
      intro W hkW hsW
      have kW : Kp (· = s) w W := (kw.out.mono (fun _ h => h.elim)).trans hkW (fun x hx => .inl hx)
      obtain ⟨vs, vf, vc, u, hR⟩ := hpre W kW hsW
      have hxW := hb1.out.kp hkW (fun e => by omega)
      have hyW := hb2.out.kp hkW (fun e => by omega)
      have hI := hR.inv
      have hb := hI.big
      have hse : (∃ ma, vs = .map (some ma) ∧ MapAt W ma q.seen) ∨ (vs = .map none ∧ vf = .map none ∧ q.seen = []) := by
        rcases hR.seen with ⟨e1, e2⟩ | ⟨b, e1, e2⟩
        · refine .inr ⟨e1, ?_, e2⟩
          cases hmd : q.made with
          | false => exact (hR.unmade hmd).2
          | true => obtain ⟨a, b, ha, _⟩ := hR.mades hmd; rw [e1] at ha; cases ha
        · exact .inl ⟨b, e1, e2⟩
      refine (chg1_any W s w.heap.size (w.heap.size + 1) c q.seen _ vs vf vc _ _ _ _ q.chg hxW hyW hR.blk hse hR.chg hok hn (by have := hI.lseen; omega) (by have := hI.lchg; omega) (fun e => by have := hlt2 _ (hR.pc _ e); omega)).mono ?_
      rintro e w' ⟨rfl, wx, ma, vc', W1, hB, hm1, hr1, hk1, hw1, hv1⟩
      obtain ⟨hS, hK⟩ := rp_chgd hR hB hm1 hr1 hk1 hw1 hv1 hi
      refine ⟨rfl, _, hS, (kW.mono (fun x hx => .inl (by subst hx; exact hR.ps))).trans hK (fun x hx => .inl hx), fun x hx => ?_⟩
      rcases hx with hx | hx
      · exact .inl hx
      · exact .inr (Nat.le_trans kW.size hx.1)
    generalize sOf c.nm = sn at *
    generalize sOf c.to = st at *
    clear hb1 hb2 hsz h hpv
    go_enter Tryz.func76, Tryz.ntmps76
    go_wp2_with (go_at_call 77; refine (HC.out).mono ?_; rintro e w1 ⟨rfl, h1⟩; have H1 := hid h1; clear h1)
    go_ret
    exact .inr ⟨by first | rfl | trivial, rfl, H1.out⟩

end Go.Proofs.YtaaioaocjfpajaaGreatDoor.Sim
end

section
/-
  Create, Remove, Rename.
-/
namespace Go.Proofs.YtaaioaocjfpajaaGreatDoor.Sim
open Go.RowKit Go.Maps

theorem inv_setF {M : Nat} {q : PS} {b : Nat} {f : Fl} (h : PInv M q) (hl : f.b.length ≤ 12000 * M) : PInv M (setF b f q) :=
  { h with
    has := fun e he => by show (if e.2 = b then some f else q.files e.2).isSome = true; split; rfl; exact h.has e he
    hasC := fun c hc hk => by show (if c.file = b then some f else q.files c.file).isSome = true; split; rfl; exact h.hasC c hc hk
    lfile := fun x g hg => by
      have hg' : (if x = b then some f else q.files x) = some g := hg
      split at hg'
      · cases hg'; exact hl
      · exact h.lfile x g hg' }
/-- A file more. -/
theorem sys_add {P : Nat → Prop} {M : Nat} {W : World} {s b : Nat} {q : PS} (h : Sys P M W s q) (hb : Blk W b 110 [.slice none 0 0, .int .i64 0]) (hn : ¬ P b) : Sys (fun x => P x ∨ x = b) M W s (setF b ⟨[], 0⟩ q) := by
  obtain ⟨vs, vf, vc, u, h⟩ := h
  refine ⟨vs, vf, vc, fun x => if x = b then .slice none 0 0 else u x, ?_⟩
  have hold : ∀ x g, q.files x = some g → x ≠ b := fun x g hg e => hn (e ▸ (h.file x g hg).1)
  exact {
    lt := fun x hx => by
      rcases hx with hx | rfl
      · exact h.lt x hx
      · exact hb.lt
    ps := .inl h.ps
    blk := h.blk
    seen := h.seen
    safe := h.safe
    unmade := h.unmade
    mades := fun e => by obtain ⟨a, c, h1, h2, h3, h4, h5⟩ := h.mades e; exact ⟨a, c, h1, h2, h3, .inl h4, .inl h5⟩
    chg := h.chg
    pc := fun x hx => .inl (h.pc x hx)
    file := fun x g hg => by
      have hg' : (if x = b then some ⟨[], 0⟩ else q.files x) = some g := hg
      split at hg'
      · rename_i e
        subst e
        cases hg'
        exact ⟨.inr rfl, by simp only [if_true]; exact ⟨hb, OwnB.nil _, by simp, Nat.le_refl _⟩, by simp [Value.ownBlock]⟩
      · rename_i e
        obtain ⟨h1, h2, h3⟩ := h.file x g hg'
        rw [if_neg e]
        exact ⟨.inl h1, h2, fun y hy => .inl (h3 y hy)⟩
    sep := fun x y f g hf hg hne z hz => by
      have hf' : (if x = b then some ⟨[], 0⟩ else q.files x) = some f := hf
      have hg' : (if y = b then some ⟨[], 0⟩ else q.files y) = some g := hg
      by_cases ex : x = b
      · rw [if_pos ex] at hz
        simp [Value.ownBlock] at hz
      · rw [if_neg ex] at hz hf'
        by_cases ey : y = b
        · rw [if_pos ey]
          simp [Value.ownBlock]
        · rw [if_neg ey] at hg' ⊢
          exact h.sep x y f g hf' hg' hne z hz
    inv := inv_setF h.inv (by simp) }

theorem Sys.c {P : Nat → Prop} {N : Nat} {w : World} {s : Nat} {p : PS} (h : Sys P N w s p) : P s ∧ s < w.heap.size ∧ w.cell? ⟨s, 4, none⟩ = some (.bool p.down) ∧ ∃ vs, w.cell? ⟨s, 1, none⟩ = some vs ∧ MapV w vs p.seen := by
  obtain ⟨vs, vf, vc, u, h⟩ := h
  exact ⟨h.ps, h.lt s h.ps, h.c 4, vs, h.c 1, h.seen⟩

theorem wrongs_one {p : PS} {n : Nm} (h : wrongs p [n] = 0) : p.down = false ∧ nameB n = true := by
  unfold wrongs at h
  split at h
  · cases h
  · rename_i h1
    split at h
    · rename_i h2
      exact ⟨by simpa using h1, by simpa using h2⟩
    · cases h
theorem nameB_len {n : Nm} (h : nameB n = true) : n.length ≤ 40 := by
  unfold nameB at h
  simp only [Bool.and_eq_true, decide_eq_true_eq] at h
  exact h.1.2

/-- What change_any gives, as data. -/
theorem Done.ofChange {P P2 : Nat → Prop} {N : Nat} {w0 w w' : World} {s : Nat} {p q : PS} {c : PC} {e : Ending} (k0 : Kp No w0 w) (hP2 : ∀ x, P2 x → P x ∨ w0.heap.size ≤ x) (hN : N + 1 ≤ 1000) (hps : P s) (g : PS → PS) (hq : q = g (tick p))
    (h : (dead p = true ∧ e = .returned (.int .i64 12) ∧ Sys P N w' s (fall p) ∧ Kp (· = s) w w') ∨
      (dead p = false ∧ e = .returned (.int .i64 0) ∧ ∃ P', Sys P' (N + 1) w' s (chgd c q) ∧ Kp P2 w w' ∧ ∀ x, P' x → P2 x ∨ w.heap.size ≤ x)) :
    e = .returned (.int .i64 ((stp p (fun r => chgd c (g r))).1 : Nat)) ∧ Done P (N + 1) w0 w' s (stp p (fun r => chgd c (g r))).2 := by
  rcases h with ⟨hd, rfl, hS, hk⟩ | ⟨hd, rfl, P', hS, hk, hP'⟩
  · have e1 : stp p (fun r => chgd c (g r)) = (12, fall p) := by simp [stp, hd]
    rw [e1]
    exact ⟨rfl, P, hS.more (by omega) hN, (k0.mono (fun _ h => h.elim)).trans hk (fun x hx => .inl (by subst hx; exact hps)), fun _ h => .inl h⟩
  · have e1 : stp p (fun r => chgd c (g r)) = (0, chgd c q) := by simp [stp, hd, hq]
    rw [e1]
    refine ⟨rfl, P', hS, ?_, fun x hx => ?_⟩
    · refine ((k0.mono (fun _ h => h.elim)).trans hk hP2)
    · rcases hP' x hx with h | h
      · exact hP2 x h
      · exact .inr (Nat.le_trans k0.size h)

set_option maxHeartbeats 2000000 in
theorem create_any {P : Nat → Prop} {N : Nat} (w : World) (s : Nat) (p : PS) (t : ByteArray) (ht : t.size ≤ 20000000) (h : Sys P N w s p) (hN : N + 1 ≤ 1000) :
    Calls Tryz.prog 80 #[.pointer (some ⟨s, 0, none⟩), .string t] w fun e w' => ∃ b, p.files b = none ∧ e = .returned (.int .i64 ((pCreate (nm t) b p).1 : Nat)) ∧ Done P (N + 1) w w' s (pCreate (nm t) b p).2 := by
  obtain ⟨hps, hsl, q4, vs, q1, hV⟩ := h.c
  have hI := h.inv
  have HF : Hid (∀ b, w.heap.size ≤ b → p.files b = none) := fun b hb => by
    cases hf : p.files b with
    | none => rfl
    | some f =>
      obtain ⟨_, _, _, _, hR⟩ := h
      have := hR.lt b (hR.file b f hf).1
      omega
  have HC : Hid (Calls Tryz.prog 38 #[.pointer (some ⟨s, 0, none⟩), .slice (some ⟨w.heap.size, 0, none⟩) 1 1] (w.alloc (.cells #[.string t] 9)) fun e w' => e = .returned (.int .i64 (wrongs p [nm t] : Nat)) ∧ Kp No w w') := by
    refine (wrong_any s _ [nm t] p.down _ ?_ (NsAt.one w t ht)).mono ?_
    · exact (((Kp.refl No w).alloc _).cell (p := ⟨s, 4, none⟩) hsl (fun h => h.elim)).trans q4
    · rintro e w' ⟨rfl, hk⟩
      exact ⟨rfl, ((Kp.refl No w).alloc _).andNone hk⟩
  have hW : Hid (∀ W, Kp No w W → W.cell? ⟨s, 1, none⟩ = some vs ∧ (Instr.lookup 75 vs (.string t) false).run Tryz.prog W = .ok (ptrV (dfind p.seen (nm t))) W) := fun W k =>
    ⟨(k.cell (p := ⟨s, 1, none⟩) hsl (fun h => h.elim)).trans q1, (hV.kp k (fun _ _ h => h.elim)).lookS t ht⟩
  have H := hid h
  have HI := hid hI
  clear h q4 q1 hV hI
  by_cases hw : wrongs p [nm t] = 0
  · rw [hw] at HC
    obtain ⟨hdn, hnb⟩ := wrongs_one hw
    have hnl := nameB_len hnb
    cases hd : dfind p.seen (nm t) with
    | some b =>
      have e1 : ∀ b, pCreate (nm t) b p = (6, p) := fun b => by simp [pCreate, hw, hd]
      have HE := hid e1
      rw [hd] at hW
      clear e1 hd hw hdn hnb
      go_enter Tryz.func80, Tryz.ntmps80
      go_wp2_with (go_at_call 38; refine (HC.out).mono ?_; rintro e w1 ⟨rfl, hk⟩; have HK := hid hk; obtain ⟨r1, r2⟩ := hW.out _ hk; have e0 : ptrV (some b) = .pointer (some ⟨b, 0, none⟩) := rfl; rw [e0] at r2; clear hk e0)
      go_ret
      refine ⟨w.heap.size, HF.out _ (Nat.le_refl _), ?_, ?_⟩
      · rw [HE.out]; rfl
      · rw [HE.out]
        exact (Done.of (H.out.more (by omega) hN) (Kp.refl _ _)).kept HK.out
    | none =>
      have e1 : ∀ b, pCreate (nm t) b p = stp p (fun q => chgd ⟨0, nm t, [], b⟩ (setF b ⟨[], 0⟩ q)) := fun b => by simp [pCreate, hw, hd]
      have HE := hid e1
      have HD := hid hd
      rw [hd] at hW
      have HCH : Hid (∀ w1, Kp No w w1 → Calls Tryz.prog 76 #[.pointer (some ⟨s, 0, none⟩), .agg #[.int .i64 0, .string t, .string ⟨#[]⟩, .pointer (some ⟨w1.heap.size, 0, none⟩)]] (w1.alloc (.cells #[.slice none 0 0, .int .i64 0] 110)) fun e w' =>
          e = .returned (.int .i64 ((stp p (fun q => chgd ⟨0, nm t, [], w1.heap.size⟩ (setF w1.heap.size ⟨[], 0⟩ q))).1 : Nat)) ∧ Done P (N + 1) w w' s (stp p (fun q => chgd ⟨0, nm t, [], w1.heap.size⟩ (setF w1.heap.size ⟨[], 0⟩ q))).2) := by
        intro w1 hk
        have hk2 : Kp No w (w1.alloc (.cells #[.slice none 0 0, .int .i64 0] 110)) := hk.alloc _
        have hcc : (chgCells ⟨0, nm t, [], w1.heap.size⟩).toArray = #[.int .i64 0, .string t, .string ⟨#[]⟩, .pointer (some ⟨w1.heap.size, 0, none⟩)] := by
          simp only [chgCells, sOf_nm]
          rfl
        have hnew : w.heap.size ≤ w1.heap.size := hk.size
        have hnP : ¬ P w1.heap.size := fun hp => by have := H.out.lt _ hp; omega
        have hfz := HF.out _ hnew
        have hc := change_any (P := P) (P2 := fun x => P x ∨ x = w1.heap.size) (w1.alloc (.cells #[.slice none 0 0, .int .i64 0] 110)) s p (setF w1.heap.size ⟨[], 0⟩ (tick p)) ⟨0, nm t, [], w1.heap.size⟩ (H.out.kept hk2) hN
          (fun W kW hsW => sys_add hsW ((Blk.new w1 110 [.slice none 0 0, .int .i64 0]).kp kW (fun e => by omega)) hnP) (fun x hx => by
            rcases hx with hx | rfl
            · have := H.out.lt x hx; simp; omega
            · simp) ⟨Nat.zero_le _, fun e => by cases e⟩ ⟨by rw [nm_len]; exact ht, by simp⟩ ?_
        · rw [hcc] at hc
          refine hc.mono ?_
          intro e w' h'
          exact Done.ofChange (g := setF w1.heap.size ⟨[], 0⟩) hk2 (fun x hx => by
            rcases hx with hx | rfl
            · exact .inl hx
            · exact .inr hnew) hN hps rfl h'
        · have hT := inv_setF (b := w1.heap.size) (f := ⟨[], 0⟩) (HI.out.tick hN) (by simp)
          refine inv_chgd hT ⟨Nat.zero_le _, fun e => by cases e⟩ ⟨hnl, by simp⟩ (by have := HI.out.lsum; show p.safe.length + p.chg.length + 1 ≤ N + 1; omega) (fun _ => ⟨by simp [setF], fun hm => ?_⟩)
          rcases List.mem_append.1 hm with hm | hm
          · obtain ⟨x, hx, hx2⟩ := List.mem_map.1 hm
            have := HI.out.has x hx
            rw [hx2, hfz] at this
            cases this
          · obtain ⟨x, hx, hx2⟩ := List.mem_map.1 hm
            obtain ⟨hx3, hx4⟩ := List.mem_filter.1 hx
            have := HI.out.hasC x hx3 (by simpa using hx4)
            have hx2' : x.file = w1.heap.size := hx2
            rw [hx2', hfz] at this
            cases this
      clear e1 hd hw hdn hnb
      go_enter Tryz.func80, Tryz.ntmps80
      go_wp2_with (first | (go_at_call 38; refine (HC.out).mono ?_; rintro e w1 ⟨rfl, hk⟩; have HK := hid hk; obtain ⟨r1, r2⟩ := hW.out _ hk; have e0 : ptrV none = .pointer none := rfl; rw [e0] at r2; clear hk e0) | (go_at_call 76; refine (HCH.out w1 HK.out).mono ?_; rintro e w2 ⟨rfl, h2⟩; have H2 := hid h2; clear h2))
      go_ret
      refine ⟨w1.heap.size, HF.out _ HK.out.size, ?_, ?_⟩
      · rw [HE.out]; rfl
      · rw [HE.out]; exact H2.out
  · have e1 : ∀ b, pCreate (nm t) b p = (wrongs p [nm t], p) := fun b => by simp [pCreate, hw]
    have HE := hid e1
    generalize wrongs p [nm t] = x at *
    have hne : ((x : Int) != 0) = true := by simp; omega
    clear e1 hw
    go_enter Tryz.func80, Tryz.ntmps80
    go_wp2_with (go_at_call 38; refine (HC.out).mono ?_; rintro e w1 ⟨rfl, hk⟩; have HK := hid hk; clear hk)
    go_ret
    refine ⟨w.heap.size, HF.out _ (Nat.le_refl _), ?_, ?_⟩
    · rw [HE.out]; rfl
    · rw [HE.out]
      exact (Done.of (H.out.more (by omega) hN) (Kp.refl _ _)).kept HK.out

/-- A change of a name that is there. -/
theorem HCH_of {P : Nat → Prop} {N : Nat} (w : World) (s : Nat) (p : PS) (c : PC) (t t' : ByteArray) (h : Sys P N w s p) (hN : N + 1 ≤ 1000) (hk0 : c.kind = 1 ∨ c.kind = 2) (hf : (dfind p.seen c.nm).isSome = true) (hn : c.nm.length ≤ 40 ∧ c.to.length ≤ 40) (e1 : sOf c.nm = t) (e2 : sOf c.to = t') (w1 : World) (hk : Kp No w w1) :
    Calls Tryz.prog 76 #[.pointer (some ⟨s, 0, none⟩), .agg #[.int .i64 (c.kind : Int), .string t, .string t', .pointer none]] w1 fun e w' =>
      e = .returned (.int .i64 ((stp p (chgd c)).1 : Nat)) ∧ Done P (N + 1) w w' s (stp p (chgd c)).2 := by
  have hI := h.inv
  have hcc : (chgCells c).toArray = #[.int .i64 (c.kind : Int), .string t, .string t', .pointer none] := by
    have : pcV c = none := by unfold pcV; rw [if_neg (by omega)]
    simp only [chgCells, e1, e2, this]
    rfl
  have hok : okc p.seen c := ⟨by omega, fun _ => hf⟩
  have hc := change_any (P := P) (P2 := P) w1 s p (tick p) c (h.kept hk) hN (fun W _ hsW => hsW) (fun x hx => Nat.lt_of_lt_of_le (h.lt x hx) hk.size) hok ⟨by omega, by omega⟩
    (inv_chgd (hI.tick hN) hok hn (by have := hI.lsum; show p.safe.length + p.chg.length + 1 ≤ N + 1; omega) (fun e => by omega))
  rw [hcc] at hc
  refine hc.mono ?_
  intro e w' h'
  exact Done.ofChange (g := fun r => r) hk (fun x hx => .inl hx) hN h.c.1 rfl h'

set_option maxHeartbeats 2000000 in
theorem remove_any {P : Nat → Prop} {N : Nat} (w : World) (s : Nat) (p : PS) (t : ByteArray) (ht : t.size ≤ 20000000) (h : Sys P N w s p) (hN : N + 1 ≤ 1000) :
    Calls Tryz.prog 49 #[.pointer (some ⟨s, 0, none⟩), .string t] w fun e w' => e = .returned (.int .i64 ((pRemove (nm t) p).1 : Nat)) ∧ Done P (N + 1) w w' s (pRemove (nm t) p).2 := by
  have HC := hid (find_any w s p t ht h)
  have hI := h.inv
  have H := hid h
  by_cases h0 : finds p (nm t) = 0
  · obtain ⟨b, hb⟩ := found_zero hI h0
    obtain ⟨_, hd, _⟩ := pBytes_of hb
    have e1 : pRemove (nm t) p = stp p (chgd ⟨1, nm t, [], 0⟩) := by simp [pRemove, h0]
    have hnl : (nm t).length ≤ 40 := (hI.hasSeen _ (mem_of_dfind hd)).2
    have HCH := hid (HCH_of w s p ⟨1, nm t, [], 0⟩ t ⟨#[]⟩ h hN (.inl rfl) (by rw [hd]; rfl) ⟨hnl, by simp⟩ (sOf_nm t) rfl)
    rw [e1]
    rw [h0, hb] at HC
    have e0 : ptrV (some b) = .pointer (some ⟨b, 0, none⟩) := rfl
    rw [e0] at HC
    generalize stp p (chgd ⟨1, nm t, [], 0⟩) = R at *
    clear e1 e0 hd hb h0 hI h
    go_enter Tryz.func49, Tryz.ntmps49
    go_wp2_with (first | (go_at_call 32; refine (HC.out).mono ?_; rintro e w1 ⟨rfl, h1⟩; have H1 := hid h1; clear h1) | (go_at_call 76; refine (HCH.out w1 H1.out).mono ?_; rintro e w2 ⟨rfl, h2⟩; have H2 := hid h2; clear h2))
    go_ret
    exact ⟨rfl, H2.out⟩
  · have e1 : pRemove (nm t) p = (finds p (nm t), p) := by simp [pRemove, h0]
    have hn : foundP p (nm t) = none := by simp [foundP, h0]
    rw [e1]
    rw [hn] at HC
    have e0 : ptrV none = .pointer none := rfl
    rw [e0] at HC
    generalize finds p (nm t) = x at *
    have hne : ((x : Int) != 0) = true := by simp; omega
    clear e1 e0 hn h0 hI h
    go_enter Tryz.func49, Tryz.ntmps49
    go_wp2_with (go_at_call 32; refine (HC.out).mono ?_; rintro e w1 ⟨rfl, h1⟩; have H1 := hid h1; clear h1)
    go_ret
    exact ⟨rfl, (Done.of (H.out.more (by omega) hN) (Kp.refl _ _)).kept H1.out⟩

theorem wrongs_two {p : PS} {n m : Nm} (h : wrongs p [n, m] = 0) : p.down = false ∧ nameB n = true ∧ nameB m = true := by
  unfold wrongs at h
  split at h
  · cases h
  · rename_i h1
    split at h
    · rename_i h2
      exact ⟨by simpa using h1, by simpa using h2⟩
    · cases h

set_option maxHeartbeats 2000000 in
theorem rename_any {P : Nat → Prop} {N : Nat} (w : World) (s : Nat) (p : PS) (t t' : ByteArray) (ht : t.size ≤ 20000000) (ht' : t'.size ≤ 20000000) (h : Sys P N w s p) (hN : N + 1 ≤ 1000) :
    Calls Tryz.prog 110 #[.pointer (some ⟨s, 0, none⟩), .string t, .string t'] w fun e w' => e = .returned (.int .i64 ((pRename (nm t) (nm t') p).1 : Nat)) ∧ Done P (N + 1) w w' s (pRename (nm t) (nm t') p).2 := by
  obtain ⟨hps, hsl, q4, vs, q1, hV⟩ := h.c
  have HC : Hid (Calls Tryz.prog 38 #[.pointer (some ⟨s, 0, none⟩), .slice (some ⟨w.heap.size, 0, none⟩) 2 2] (w.alloc (.cells #[.string t, .string t'] 9)) fun e w' => e = .returned (.int .i64 (wrongs p [nm t, nm t'] : Nat)) ∧ Kp No w w') := by
    refine (wrong_any s _ [nm t, nm t'] p.down _ ?_ (NsAt.two w t t' ht ht')).mono ?_
    · exact (((Kp.refl No w).alloc _).cell (p := ⟨s, 4, none⟩) hsl (fun h => h.elim)).trans q4
    · rintro e w' ⟨rfl, hk⟩
      exact ⟨rfl, ((Kp.refl No w).alloc _).andNone hk⟩
  have hW : Hid (∀ W, Kp No w W → W.cell? ⟨s, 1, none⟩ = some vs ∧ (Instr.lookup 75 vs (.string t) false).run Tryz.prog W = .ok (ptrV (dfind p.seen (nm t))) W) := fun W k =>
    ⟨(k.cell (p := ⟨s, 1, none⟩) hsl (fun h => h.elim)).trans q1, (hV.kp k (fun _ _ h => h.elim)).lookS t ht⟩
  have H := hid h
  clear q4 q1 hV
  by_cases hw : wrongs p [nm t, nm t'] = 0
  · rw [hw] at HC
    obtain ⟨hdn, hn1, hn2⟩ := wrongs_two hw
    cases hd : dfind p.seen (nm t) with
    | none =>
      have e1 : pRename (nm t) (nm t') p = (5, p) := by simp [pRename, hw, hd]
      rw [e1]
      rw [hd] at hW
      clear e1 hd hw hdn h hn1 hn2
      go_enter Tryz.func110, Tryz.ntmps110
      go_wp2_with (go_at_call 38; refine (HC.out).mono ?_; rintro e w1 ⟨rfl, hk⟩; have HK := hid hk; obtain ⟨r1, r2⟩ := hW.out _ hk; have e0 : ptrV none = .pointer none := rfl; rw [e0] at r2; clear hk e0)
      go_ret
      exact ⟨rfl, (Done.of (H.out.more (by omega) hN) (Kp.refl _ _)).kept HK.out⟩
    | some b =>
      have e1 : pRename (nm t) (nm t') p = stp p (chgd ⟨2, nm t, nm t', 0⟩) := by simp [pRename, hw, hd]
      have HCH := hid (HCH_of w s p ⟨2, nm t, nm t', 0⟩ t t' h hN (.inr rfl) (by rw [hd]; rfl) ⟨nameB_len hn1, nameB_len hn2⟩ (sOf_nm t) (sOf_nm t'))
      rw [e1]
      rw [hd] at hW
      generalize stp p (chgd ⟨2, nm t, nm t', 0⟩) = R at *
      clear e1 hd hw hdn h hn1 hn2
      go_enter Tryz.func110, Tryz.ntmps110
      go_wp2_with (first | (go_at_call 38; refine (HC.out).mono ?_; rintro e w1 ⟨rfl, hk⟩; have HK := hid hk; obtain ⟨r1, r2⟩ := hW.out _ hk; have e0 : ptrV (some b) = .pointer (some ⟨b, 0, none⟩) := rfl; rw [e0] at r2; clear hk e0) | (go_at_call 76; refine (HCH.out w1 HK.out).mono ?_; rintro e w2 ⟨rfl, h2⟩; have H2 := hid h2; clear h2))
      go_ret
      exact ⟨rfl, H2.out⟩
  · have e1 : pRename (nm t) (nm t') p = (wrongs p [nm t, nm t'], p) := by simp [pRename, hw]
    rw [e1]
    generalize wrongs p [nm t, nm t'] = x at *
    have hne : ((x : Int) != 0) = true := by simp; omega
    clear e1 hw h
    go_enter Tryz.func110, Tryz.ntmps110
    go_wp2_with (go_at_call 38; refine (HC.out).mono ?_; rintro e w1 ⟨rfl, hk⟩; have HK := hid hk; clear hk)
    go_ret
    exact ⟨rfl, (Done.of (H.out.more (by omega) hN) (Kp.refl _ _)).kept HK.out⟩

end Go.Proofs.YtaaioaocjfpajaaGreatDoor.Sim
end
