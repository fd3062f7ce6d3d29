/-
  Copies of files, of changes, of a directory.
-/
import Derived.Test.YtmiipifhbliamaaGreatSimUp2
namespace Go.Proofs.YtmiipifhbliamaaGreat.Sim
open Go.RowKit Go.Maps

set_option maxHeartbeats 2000000 in
/-- (file).copy. -/
theorem fcopy_any (w : World) (b : Nat) (v : Value) (f : Fl) (h : FileAt w b v f) (hl : f.b.length ≤ 1000000) :
    Calls Tryz.prog 58 #[.pointer (some ⟨b, 0, none⟩)] w fun e w' => ∃ nb v', e = .returned (.pointer (some ⟨nb, 0, none⟩)) ∧ FileAt w' nb v' f ∧ w.heap.size ≤ nb ∧ (∀ x, v'.ownBlock = some x → w.heap.size ≤ x) ∧ Kp No w w' := by
  have hbl := h.blk.lt
  have HF := hid h
  obtain ⟨a, cap, rfl, _⟩ := h.own.shape
  have c0 : w.cell? ⟨b, 0, none⟩ = some (.slice a f.b.length cap) := h.blk.cell 0
  have c1 : w.cell? ⟨b, 1, none⟩ = some (.int .i64 (f.safe : Int)) := h.blk.cell 1
  have r0 : ∀ V, Kp No w V → V.cell? ⟨b, 0, none⟩ = some (.slice a f.b.length cap) := fun V k => (k.cell (p := ⟨b, 0, none⟩) hbl (fun h => h)).trans c0
  have r1 : ∀ V, Kp No w V → V.cell? ⟨b, 1, none⟩ = some (.int .i64 (f.safe : Int)) := fun V k => (k.cell (p := ⟨b, 1, none⟩) hbl (fun h => h)).trans c1
  have HC := hid (clone_any (P := fun _ => True) (.slice a f.b.length cap) f.b w.drew ((h.own.kept (Kp.refl _ _).drew).byP (fun _ _ => trivial) hl h.byt) hl)
  clear h
  go_enter Tryz.func58, Tryz.ntmps58
  go_wp2_with fail
  go_region_held3 (fun V => Kp No w V) (first | (with_reducible exact Kp.refl _ _) | (with_reducible exact (Kp.refl _ _).drew) | (with_reducible exact HK1.out) | (with_reducible exact HK1.out.alloc _)) (first | (go_at_call 49; refine (HC.out).mono ?_; rintro e w1 ⟨ad, c2, rfl, ho, hn, hk⟩; have HO := hid ho; have HN := hid hn; have HK1 : Hid (Kp No w w1) := (Kp.refl _ _).drew.andNone hk; clear ho hn hk))
  go_wp2
  go_ret
  refine ⟨w1.heap.size, .slice ad f.b.length c2, rfl, ?_, HK1.out.size, HN.out, HK1.out.alloc _⟩
  exact ⟨Blk.new w1 86 [.slice ad f.b.length c2, .int .i64 (f.safe : Int)], HO.out.kept ((Kp.refl _ _).alloc _), HF.out.byt, HF.out.le⟩

/-! ### Names and files under other blocks -/
def ren (g : Nat → Nat) (d : Dir) : Dir := d.map fun e => (e.1, g e.2)
theorem mem_ren {g : Nat → Nat} {d : Dir} {e : Nm × Nat} : e ∈ ren g d ↔ ∃ x ∈ d, e = (x.1, g x.2) := by
  unfold ren
  rw [List.mem_map]
  constructor
  · rintro ⟨x, hx, rfl⟩; exact ⟨x, hx, rfl⟩
  · rintro ⟨x, hx, rfl⟩; exact ⟨x, hx, rfl⟩
theorem Ris.ren {d : Dir} (h : Ris d) (g : Nat → Nat) : Ris (ren g d) := by
  unfold Ris YtmiipifhbliamaaGreat.Sim.ren
  rw [List.pairwise_map]
  exact h
theorem ris_ext : ∀ {l m : Dir}, Ris l → Ris m → (∀ e, e ∈ l ↔ e ∈ m) → l = m
  | [], [], _, _, _ => rfl
  | [], b :: s, _, _, h => by have := (h b).2 (by simp); simp at this
  | a :: r, [], _, _, h => by have := (h a).1 (by simp); simp at this
  | a :: r, b :: s, h1, h2, h => by
    obtain ⟨a1, a2⟩ := List.pairwise_cons.1 h1
    obtain ⟨b1, b2⟩ := List.pairwise_cons.1 h2
    have hab : a = b := by
      rcases List.mem_cons.1 ((h a).1 (by simp)) with e | ha
      · exact e
      · rcases List.mem_cons.1 ((h b).2 (by simp)) with e | hb
        · exact e.symm
        · have := WideShapes.bytes_trans _ _ _ (a1 b hb) (b1 a ha)
          rw [WideAt.bytes_irrefl] at this
          cases this
    subst hab
    rw [ris_ext a2 b2 (fun p => ⟨fun hp => by
      rcases List.mem_cons.1 ((h p).1 (by simp [hp])) with e | hp'
      · have := a1 p hp
        rw [e, WideAt.bytes_irrefl] at this
        cases this
      · exact hp', fun hp => by
      rcases List.mem_cons.1 ((h p).2 (by simp [hp])) with e | hp'
      · have := b1 p hp
        rw [e, WideAt.bytes_irrefl] at this
        cases this
      · exact hp'⟩)]

def upd {α : Type} (g : Nat → α) (b : Nat) (x : α) : Nat → α := fun y => if y = b then x else g y
theorem upd_same {α : Type} (g : Nat → α) (b : Nat) (x : α) : upd g b x b = x := by simp [upd]
theorem upd_other {α : Type} (g : Nat → α) {b y : Nat} (x : α) (h : y ≠ b) : upd g b x y = g y := by simp [upd, h]

/-- Of the files S there are copies, in blocks from B on: g says where, u their bytes. -/
structure Cps (B : Nat) (w : World) (F : Nat → Option Fl) (S : Nat → Prop) (g : Nat → Nat) (u : Nat → Value) : Prop where
  file : ∀ b, S b → ∃ f, F b = some f ∧ FileAt w (g b) (u b) f ∧ B ≤ g b ∧ ∀ x, (u b).ownBlock = some x → B ≤ x
  apart : ∀ b c, S b → S c → b ≠ c → g b ≠ g c ∧ ∀ x, (u b).ownBlock = some x → (u c).ownBlock ≠ some x
theorem Cps.kp {B : Nat} {w w' : World} {F : Nat → Option Fl} {S L : Nat → Prop} {g : Nat → Nat} {u : Nat → Value} (h : Cps B w F S g u) (k : Kp L w w') (hL : ∀ b v f, FileAt w b v f → ¬ L b ∧ ∀ x, v.ownBlock = some x → ¬ L x) : Cps B w' F S g u := by
  refine ⟨fun b hb => ?_, h.apart⟩
  obtain ⟨f, h1, h2, h3, h4⟩ := h.file b hb
  obtain ⟨l1, l2⟩ := hL _ _ _ h2
  exact ⟨f, h1, h2.kp k l1 l2, h3, h4⟩
theorem Cps.kept {B : Nat} {w w' : World} {F : Nat → Option Fl} {S : Nat → Prop} {g : Nat → Nat} {u : Nat → Value} (h : Cps B w F S g u) (k : Kp No w w') : Cps B w' F S g u := h.kp k (fun _ _ _ _ => ⟨fun h => h, fun _ _ h => h⟩)
theorem Cps.set {B : Nat} {w : World} {F : Nat → Option Fl} {S T : Nat → Prop} {g : Nat → Nat} {u : Nat → Value} (h : Cps B w F S g u) (hT : ∀ b, T b → S b) : Cps B w F T g u :=
  ⟨fun b hb => h.file b (hT b hb), fun b c hb hc => h.apart b c (hT b hb) (hT c hc)⟩
theorem Cps.add {B : Nat} {w w' : World} {F : Nat → Option Fl} {S : Nat → Prop} {g : Nat → Nat} {u : Nat → Value} (h : Cps B w F S g u) (hB : B ≤ w.heap.size) {b0 nb : Nat} {v : Value} {f0 : Fl} (hn : ¬ S b0) (hF : F b0 = some f0) (hA : FileAt w' nb v f0) (h1 : w.heap.size ≤ nb) (h2 : ∀ x, v.ownBlock = some x → w.heap.size ≤ x) (k : Kp No w w') :
    Cps B w' F (fun b => S b ∨ b = b0) (upd g b0 nb) (upd u b0 v) := by
  have hk := h.kept k
  have hne : ∀ b, S b → b ≠ b0 := fun b hb e => hn (e ▸ hb)
  have hold : ∀ b, S b → g b < w.heap.size ∧ ∀ x, (u b).ownBlock = some x → x < w.heap.size := fun b hb => by
    obtain ⟨f, _, h3, _⟩ := h.file b hb
    exact ⟨h3.blk.lt, h3.own.row.lt⟩
  refine ⟨fun b hb => ?_, fun b c hb hc hbc => ?_⟩
  · rcases hb with hb | rfl
    · rw [upd_other _ _ (hne b hb), upd_other _ _ (hne b hb)]
      exact hk.file b hb
    · rw [upd_same, upd_same]
      exact ⟨f0, hF, hA, by omega, fun x hx => by have := h2 x hx; omega⟩
  · rcases hb with hb | rfl
    · rcases hc with hc | rfl
      · rw [upd_other _ _ (hne b hb), upd_other _ _ (hne c hc), upd_other _ _ (hne b hb), upd_other _ _ (hne c hc)]
        exact h.apart b c hb hc hbc
      · rw [upd_other _ _ hbc, upd_same, upd_other _ _ hbc, upd_same]
        obtain ⟨o1, o2⟩ := hold b hb
        exact ⟨by omega, fun x hx e => by have := o2 x hx; have := h2 x e; omega⟩
    · rcases hc with hc | rfl
      · rw [upd_same, upd_other _ _ (Ne.symm hbc), upd_same, upd_other _ _ (Ne.symm hbc)]
        obtain ⟨o1, o2⟩ := hold c hc
        exact ⟨by omega, fun x hx e => by have := o2 x e; have := h2 x hx; omega⟩
      · exact absurd rfl hbc

/-- The names that have come. -/
def come (l : Dir) (left : Lit → Bool) : Dir := l.filter (fun e => !left (.string e.1))
theorem mem_come {l : Dir} {left : Lit → Bool} {e : Nm × Nat} : e ∈ come l left ↔ e ∈ l ∧ left (.string e.1) = false := by
  unfold come
  rw [List.mem_filter]
  simp
theorem come_step {l : Dir} {left : Lit → Bool} {g : Nat → Nat} {n : Nm} {f nb : Nat} (hr : Ris l) (hv : (vals l).Nodup) (hm : (n, f) ∈ l) :
    dput (ren g (come l left)) n nb = ren (upd g f nb) (come l (fun z => left z && !z.sameKey (.string n))) := by
  have hin : ∀ e ∈ l, e.1 = n → e = (n, f) := fun e he e1 => by
    have h1 := dfind_of_mem hr.nodup (n := n) (b := e.2) (by rw [← e1]; exact he)
    have h2 := dfind_of_mem hr.nodup hm
    rw [h1] at h2
    cases h2
    rw [← e1]
  have hval : ∀ e ∈ l, e.1 ≠ n → e.2 ≠ f := fun e he hne e2 => by
    apply hne
    have hp := List.pairwise_map.1 hv
    rcases List.mem_iff_append.1 hm with ⟨a, b, rfl⟩
    rw [List.pairwise_append, List.pairwise_cons] at hp
    rcases List.mem_append.1 he with h | h
    · exact absurd e2 (hp.2.2 e h (n, f) (by simp))
    · rcases List.mem_cons.1 h with h | h
      · rw [h]
      · exact absurd e2.symm (hp.2.1.1 e h)
  refine ris_ext (Ris.put (Ris.ren (hr.filter _) g) n nb) (Ris.ren (hr.filter _) _) (fun e => ?_)
  rw [mem_dput, mem_ren, mem_ren]
  constructor
  · rintro (rfl | ⟨⟨x, hx, rfl⟩, hne⟩)
    · refine ⟨(n, f), mem_come.2 ⟨hm, by simp [sameKey_str]⟩, by rw [upd_same]⟩
    · obtain ⟨hx1, hx2⟩ := mem_come.1 hx
      exact ⟨x, mem_come.2 ⟨hx1, by simp [hx2]⟩, by rw [upd_other _ _ (hval x hx1 hne)]⟩
  · rintro ⟨x, hx, rfl⟩
    obtain ⟨hx1, hx2⟩ := mem_come.1 hx
    by_cases hxn : x.1 = n
    · have := hin x hx1 hxn
      subst this
      left
      rw [upd_same]
    · right
      refine ⟨⟨x, mem_come.2 ⟨hx1, ?_⟩, by rw [upd_other _ _ (hval x hx1 hxn)]⟩, hxn⟩
      have hs : (Lit.string x.1).sameKey (.string n) = false := by rw [sameKey_str]; simpa using hxn
      simpa [hs] using hx2

theorem Kp.grownNo {w w' : World} (k : Kp No w w') : w.grownBy w' none := ⟨k.os, k.tape, k.output, k.size, fun i hi _ => k.block i hi (fun h => h)⟩
theorem Kp.grownOne {b : Nat} {w w' : World} (k : Kp (· = b) w w') : w.grownBy w' (some b) := ⟨k.os, k.tape, k.output, k.size, fun i hi h => k.block i hi (fun e => h (by rw [e]))⟩
theorem makeMap_hint (n : Int) (w : World) : (Instr.makeMap 55 (some (.int .i64 n))).run Tryz.prog w = .ok (.map (some w.heap.size)) (w.alloc (.map #[] 0)) := by
  simp [Instr.makeMap, run_underlying Tryz.underlying55, go_sem, asInt, Result.andThen]

/-- An iterator is a block of its own. -/
theorem iter_ne {w : World} {b r n : Nat} {D : DD} {left : Lit → Bool} {cnt : Nat} (h : w.ranges Tryz.prog 9 ptrR b r n D left cnt) : (∀ k t cs, Blk w k t cs → k ≠ r) ∧ (∀ e sz m v xs, Row w e sz v m xs → ∀ x, v.ownBlock = some x → x ≠ r) ∧ ∀ k l, MapAt w k l → k ≠ r := by
  obtain ⟨es, clock, since, seen, c0, hb, F, hs, hD, hr, _⟩ := h
  refine ⟨fun k t cs hk e => ?_, fun e sz m v xs hrow x hx e' => ?_, fun k l hm e => ?_⟩
  · subst e; unfold Blk at hk; rw [hr] at hk; cases hk
  · rcases hrow.2 with ⟨rfl, _⟩ | ⟨g, cap, cur, rfl, _, hgg, _⟩
    · simp [Value.ownBlock] at hx
    · simp [Value.ownBlock] at hx
      subst hx e'
      rw [hr] at hgg
      cases hgg
  · subst e
    obtain ⟨es', clock', h1, _⟩ := hm
    rw [hr] at h1
    cases h1

/-- What is copied is there. -/
def There (w : World) (F : Nat → Option Fl) (b : Nat) : Prop := ∃ v f, F b = some f ∧ FileAt w b v f ∧ f.b.length ≤ 1000000
theorem There.kept {w w' : World} {F : Nat → Option Fl} {b : Nat} (h : There w F b) (k : Kp No w w') : There w' F b := by
  obtain ⟨v, f, h1, h2, h3⟩ := h
  exact ⟨v, f, h1, h2.kp k (fun h => h) (fun _ _ h => h), h3⟩

set_option maxHeartbeats 2000000 in
/-- (directory).copy. -/
theorem dcopy_any (w : World) (v : Value) (l : Dir) (F : Nat → Option Fl) (h : MapV w v l) (hF : ∀ e ∈ l, There w F e.2) (hv : (vals l).Nodup) (hl : l.length ≤ 1000) (hn : ∀ e ∈ l, e.1.length ≤ 40) :
    Calls Tryz.prog 19 #[v] w fun e w' => ∃ mb g u, e = .returned (.map (some mb)) ∧ w.heap.size ≤ mb ∧ MapAt w' mb (ren g l) ∧ Cps w.heap.size w' F (fun b => b ∈ vals l) g u ∧ Kp No w w' := by
  have hmm := makeMap_hint
  rcases h with ⟨rfl, rfl⟩ | ⟨b, rfl, hM⟩
  · have hln : ∀ ty w, (Builtin.len_ #[55] ty #[.map none]).run Tryz.prog w = .ok (.int .i64 0) w := fun ty w => Maps.len_nil (w := w) Tryz.underlying55 ty
    have hrn := run_range_nilMap (P := Tryz.prog) (w.alloc (.map #[] 0)) 55 9 67 Tryz.underlying55
    have hnx : ∀ ty, (Instr.next (.pointer (some ⟨(w.alloc (.map #[] 0)).heap.size, 0, none⟩)) false ty).run Tryz.prog ((w.alloc (.map #[] 0)).alloc (.mapIter none 0 #[] 0)) = _ := fun ty => run_next_nilMap (w.alloc (.map #[] 0)) ty 0 0 #[]
    have e1 : (w.alloc (.map #[] 0)).heap.size = w.heap.size + 1 := by simp
    rw [e1] at hrn hnx
    go_enter Tryz.func19, Tryz.ntmps19
    go_wp2
    refine wp_loop_rounds 1 ?_
    rw [rounds_succ]
    go_wp2
    go_ret
    refine ⟨w.heap.size, fun x => x, fun _ => .slice none 0 0, rfl, Nat.le_refl _, ?_, ⟨fun b hb => by simp [vals] at hb, fun b c hb => by simp [vals] at hb⟩, ((Kp.refl _ _).alloc _).alloc _⟩
    exact (MapAt.new w).kp (L := No) ((Kp.refl _ _).alloc _) (fun h => h)
  · have HM := hid hM
    have HMA : Hid (MapAt (w.alloc (.map #[] 0)) b l) := hM.kp (L := No) ((Kp.refl _ _).alloc _) (fun h => h)
    have HF := hid hF
    have HV := hid hv
    have HN := hid hn
    have HR := hid hM.ris
    have hbl := hM.lt
    clear hM hF hv hn
    go_enter Tryz.func19, Tryz.ntmps19
    go_wp2_with (first | (at_len; refine wpList_len_own _ rfl _ 55 rfl 9 67 Tryz.underlying55 ptrR b l.length (dirD l) rfl HM.out ?_) | (at_range; refine wpList_range_own _ rfl _ 55 rfl 9 67 Tryz.keyed Tryz.underlying55 ptrR b l.length (dirD l) rfl HMA.out ?_; intro w0 hrg0 hg0 hs0) | go_in)
    go_frame
    have hrg : Hid (w0.ranges Tryz.prog 9 ptrR b (w.heap.size + 1) l.length (dirD l) (Maps.has (dirD l)) (Maps.size (dirD l))) := by have := hrg0; unfold Hid; simpa using this
    have hk0 : Hid (Kp No w w0) := ((Kp.refl _ _).alloc _).grown hg0 (by simp)
    have hmb : Hid (MapAt w0 w.heap.size []) := (MapAt.new w).kp (L := No) ((Kp.refl _ _).grown hg0 (by simp)) (fun h => h)
    have e1 : (w.alloc (.map #[] 0)).heap.size = w.heap.size + 1 := by simp
    rw [e1]
    clear hrg0 hg0 hs0 e1
    go_loopw [4] (fun _ wr => ∃ left cnt g u, Hid (wr.ranges Tryz.prog 9 ptrR b (w.heap.size + 1) l.length (dirD l) left cnt) ∧ Hid (MapAt wr w.heap.size (ren g (come l left))) ∧ Hid (Cps w.heap.size wr F (fun x => ∃ e ∈ come l left, e.2 = x) g u) ∧ Hid (Kp No w wr)) (fun _ wr => wr.rangeLeft b (w.heap.size + 1))
    case atStart =>
      have hc0 : come l (Maps.has (dirD l)) = [] := by
        rw [List.eq_nil_iff_forall_not_mem]
        intro e he
        obtain ⟨h1, h2⟩ := mem_come.1 he
        rw [dirD_has] at h2
        have := dfind_of_mem HR.out.nodup (n := e.1) (b := e.2) h1
        rw [this] at h2
        cases h2
      refine ⟨_, _, fun x => x, fun _ => .slice none 0 0, hrg, ?_, ⟨fun b hb => ?_, fun b c hb => ?_⟩, hk0⟩
      · rw [hc0]; exact hmb
      · rw [hc0] at hb; obtain ⟨e, he, _⟩ := hb; simp at he
      · rw [hc0] at hb; obtain ⟨e, he, _⟩ := hb; simp at he
    case round =>
      obtain ⟨left, cnt, g, u, HRG, HMB, HCP, HK⟩ := hrel
      have HRGL := hid HRG.out.left_eq
      go_wp2_with (first | (at_next; refine wpList_next_ranges _ rfl _ rfl 9 Tryz.keyed ptrR encStr ptrV (fun key kl hk => by obtain ⟨x, hx, _⟩ := Maps.keyOf_str Tryz.underlying9 hk; exact ⟨x, hx⟩) (fun v y hv => by obtain ⟨c, rfl, _⟩ := ptrR_inv hv; exact ⟨c, rfl⟩) b (w.heap.size + 1) l.length (dirD l) left cnt rfl HRG.out ?_ ?_) | go_in)
      · intro _ hl0
        have hc : come l left = l := by
          unfold come
          rw [List.filter_eq_self]
          intro e _
          rw [hl0]
          rfl
        rw [hc] at HMB HCP
        clear hl0 hc
        go_wp2
        go_ret
        refine ⟨w.heap.size, g, u, rfl, Nat.le_refl _, HMB.out, HCP.out.set (fun x hx => ?_), HK.out⟩
        obtain ⟨e, he, rfl⟩ := List.mem_map.1 hx
        exact ⟨e, he, rfl⟩
      · intro x c kl yd yp w2 cnt2 hkey hlk hv hat hrg2 hlt hg2 hs2 hen
        obtain ⟨x', ex, rfl, _⟩ := Maps.keyOf_str Tryz.underlying9 hkey
        obtain rfl : x = x' := encStr_inj ex
        obtain ⟨c', hc1, hc2⟩ := ptrR_inv hv
        have hdx : ∃ f, dfind l x = some f := by
          have := has_true_of_atKey hat
          rw [dirD_has] at this
          exact Option.isSome_iff_exists.1 this
        obtain ⟨fb, hfb⟩ := hdx
        have hcf : c = some fb := by
          have h1 := hat .nil
          rw [dirD_at, hfb] at h1
          have hcc : c = c' := by
            unfold ptrV at hc1
            cases c <;> cases c' <;> simp at hc1 <;> simp [hc1]
          subst hcc
          cases c with
          | none => simp at hc2; rw [← h1] at hc2; simp [fileD] at hc2
          | some y =>
            simp at hc2
            rw [← h1] at hc2
            rw [fileD_inj hc2.1]
        subst hcf
        have hmem := mem_of_dfind hfb
        have HK2 : Hid (Kp No w w2) := HK.out.grown hg2 (fun y hy => .inr (by simp at hy; omega))
        have hkr : Kp (fun k => k = w.heap.size + 1) wr w2 := (Kp.refl _ _).grown hg2 (fun y hy => .inl (by simpa using hy.symm))
        obtain ⟨it1, it2, it3⟩ := iter_ne HRG.out
        have HMB2 : Hid (MapAt w2 w.heap.size (ren g (come l left))) := HMB.out.kp hkr (it3 _ _ HMB.out)
        have HCP2 : Hid (Cps w.heap.size w2 F (fun x => ∃ e ∈ come l left, e.2 = x) g u) := HCP.out.kp hkr (fun b v f hA => ⟨it1 _ _ _ hA.blk, fun x hx => it2 _ _ _ _ _ hA.own.row x hx⟩)
        obtain ⟨vf, f, hFf, hAf, hfl⟩ := (HF.out _ hmem).kept HK2.out
        have HFC := hid (fcopy_any w2 fb vf f hAf hfl)
        have hnS : Hid (¬ ∃ e ∈ come l left, e.2 = fb) := by
          rintro ⟨e, he, he2⟩
          obtain ⟨h1, h2⟩ := mem_come.1 he
          by_cases e1 : e.1 = x
          · rw [e1, hlk] at h2; cases h2
          · have hp := List.pairwise_map.1 HV.out
            rcases List.mem_iff_append.1 hmem with ⟨a1, b1, hab⟩
            rw [hab] at h1 hp
            rw [List.pairwise_append, List.pairwise_cons] at hp
            rcases List.mem_append.1 h1 with h3 | h3
            · exact hp.2.2 e h3 (x, fb) (by simp) he2
            · rcases List.mem_cons.1 h3 with h3 | h3
              · exact e1 (by rw [h3])
              · exact hp.2.1.1 e h3 he2.symm
        have HST := hid (come_step (left := left) (g := g) (nb := 0) HR.out HV.out hmem)
        have HSTA : Hid (∀ nb, dput (ren g (come l left)) x nb = ren (upd g fb nb) (come l (fun z => left z && !z.sameKey (.string x)))) := fun nb => come_step HR.out HV.out hmem
        have HCM : Hid (∀ y, (∃ e ∈ come l (fun z => left z && !z.sameKey (.string x)), e.2 = y) → (∃ e ∈ come l left, e.2 = y) ∨ y = fb) := by
          rintro y ⟨e, he, rfl⟩
          obtain ⟨h1, h2⟩ := mem_come.1 he
          by_cases e1 : e.1 = x
          · right
            have h3 := dfind_of_mem HR.out.nodup (n := x) (b := e.2) (by rw [← e1]; exact h1)
            rw [hfb] at h3
            cases h3
            rfl
          · left
            have hs : (Lit.string e.1).sameKey (.string x) = false := by rw [sameKey_str]; simpa using e1
            exact ⟨e, mem_come.2 ⟨h1, by simpa [hs] using h2⟩, rfl⟩
        have HFF := hid hFf
        have HXL : Hid (x.length ≤ 1000000) := by have := HN.out _ hmem; simp only at this; show x.length ≤ 1000000; omega
        have HLL : Hid ((ren g (come l left)).length ≤ 1000000) := by
          have h1 : (ren g (come l left)).length ≤ l.length := by simp [ren, come]; exact List.length_filter_le _ _
          show _ ≤ _
          omega
        have HR2 := hid hrg2
        have e0 : ptrV (some fb) = .pointer (some ⟨fb, 0, none⟩) := rfl
        rw [e0] at hen ⊢
        have HSX : Hid (encStr x = .string (sOf x)) := rfl
        have hen2 : (Instr.entry (.pointer (some ⟨w.heap.size + 1, 0, none⟩))).run Tryz.prog w2 = .ok (.tuple #[.string (sOf x), .pointer (some ⟨fb, 0, none⟩)]) w2 := hen
        have eg : encStr x = .string (sOf x) := rfl
        rw [eg]
        have hsz2 : Hid (w.heap.size ≤ w2.heap.size) := HK2.out.size
        have HSW : Hid (nm (sOf x) = x) := nm_sOf x
        generalize sOf x = sx at *
        clear hs2 hen hv hat hkey hlk hc1 hc2 hrg2 hg2 hfb hmem hkr it1 it2 it3 hAf hFf e0 eg ex HST HMB HCP HRG
        go_wp2_with (first | (go_at_call 58; refine (HFC.out).mono ?_; rintro e w3 ⟨nb, v', rfl, h1, h2, h3, h4⟩; have H1 := hid h1; have H2 := hid h2; have H3 := hid h3; have H4 := hid h4; have HM3 : Hid (MapAt w3 w.heap.size (ren g (come l left))) := HMB2.out.kp h4 (fun h => h); clear h1 h2 h3 h4) | (at_mapUpdate; refine wp_store _ rfl _ _ _ rfl w.heap.size nb (ren g (come l left)) x rfl ?hx rfl HM3.out HXL.out HLL.out ?_; (case hx => exact HSX.out.symm); intro w4 hm4 hk4 hs4; have HM4 := hid hm4; have HK4 := hid hk4; clear hm4 hk4 hs4; go_frame) | go_in)
        go_roundw
        case rel =>
          refine ⟨(fun z => left z && !z.sameKey (.string x)), cnt2, upd g fb nb, upd u fb v', ?_, ?_, ?_, ?_⟩
          · exact (HR2.out.kept H4.out.grownNo (by simp) (by simp)).kept HK4.out.grownOne (by simp; omega) (by simp)
          · rw [← HSTA.out]; exact HM4
          · have hA := HCP2.out.add hsz2.out hnS.out HFF.out H1.out H2.out H3.out H4.out
            exact (hA.kp HK4.out (fun b v f hA => ⟨fun e => HM3.out.blk hA.blk e.symm, fun y hy e => HM3.out.row hA.own.row (by rw [hy, e])⟩)).set HCM.out
          · exact (HK2.out.andNone H4.out).trans HK4.out (fun y hy => .inr (by rw [hy]; exact Nat.le_refl _))
        case measure =>
          have hr4 := (HR2.out.kept H4.out.grownNo (by simp) (by simp)).kept HK4.out.grownOne (by simp; omega) (by simp)
          rw [hr4.left_eq, HRGL.out]
          exact hlt

end Go.Proofs.YtmiipifhbliamaaGreat.Sim
