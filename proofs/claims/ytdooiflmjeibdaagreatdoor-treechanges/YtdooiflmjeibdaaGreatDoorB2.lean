/- Of the proof: the texts TrItem, TrModel, TrAt, TrFind, TrFind2, TrFind3, TrOwn, one behind the other. -/
import Derived.Test.YtdooiflmjeibdaaGreatDoorAbb
import Derived.Test.YtdooiflmjeibdaaGreatDoorB1
import Derived.Deep.RegionHeld3
import Derived.Deep.MidRow
section
/-
  Items in memory, and rows of them; clone.
-/
namespace Go.Proofs.YtdooiflmjeibdaaGreatDoor.Tr
open Go.RowKit

set_option maxHeartbeats 1000000 in
/-- Within, of the document. -/
theorem rwithin_any (p q : ByteArray) (w : World) : Calls Tryz.prog 47 #[.string p, .string q] w fun e w' => e = .returned (.bool (withinB p.data.toList q.data.toList)) ∧ w' = w := by
  by_cases hqp : q = p
  · subst hqp
    have e : withinB q.data.toList q.data.toList = true := by simp [withinB]
    rw [e]
    go_enter Tryz.func47, Tryz.ntmps47
    go_wp2
    go_ret
    exact ⟨rfl, rfl⟩
  · have b1 : (q.toList == p.toList) = false := beq_eq_false_iff_ne.2 (fun h => hqp (tl_eq.2 (h.trans (by rw [ByteArray.toList_eq]))))
    have b1' : (q.data.toList == p.data.toList) = false := beq_eq_false_iff_ne.2 (fun h => hqp (ba_eq.2 h))
    by_cases hp : p = ⟨#[]⟩
    · subst hp
      have e : withinB (ByteArray.mk #[]).data.toList q.data.toList = true := by simp [withinB]
      rw [e]
      have b0 : q.toList.isEmpty = false := by rw [List.isEmpty_eq_false_iff]; exact fun h => hqp (tl_eq.2 h)
      clear b1 b1'
      go_enter Tryz.func47, Tryz.ntmps47
      go_wp2
      go_ret
      exact ⟨rfl, rfl⟩
    · have b0 : p.toList.isEmpty = false := by rw [List.isEmpty_eq_false_iff]; exact fun h => hp (tl_eq.2 h)
      have b0' : (p.data.toList == []) = false := by rw [beq_eq_false_iff_ne]; exact fun h => hp (ba_eq.2 h)
      have hw : withinB p.data.toList q.data.toList = (p.data.toList ++ [47]).isPrefixOf q.data.toList := by rw [withinB, b1', b0']; rfl
      rw [hw]
      by_cases hlen : p.size < q.size
      · have hlenI : (p.size : Int) < (q.size : Int) := by omega
        have hx := fun w => sidx q p.size hlen w
        by_cases hpre : (q.extract 0 p.size) = p
        · have b2 : ((q.extract 0 p.size).toList == p.toList) = true := by rw [hpre]; simp
          have hsplit : q.data.toList = p.data.toList ++ q.data.toList.drop p.size := by
            have h := congrArg (fun (x : ByteArray) => x.data.toList) hpre
            simp only [extract_sub, sub, List.drop_zero, Nat.sub_zero] at h
            rw [← h, List.take_append_drop]
          have hd := drop_byt q p.size hlen
          have HD : Hid ((p.data.toList ++ [47]).isPrefixOf q.data.toList = decide (byt q p.size = 47)) := by
            have h1 : (p.data.toList ++ [47]).isPrefixOf q.data.toList = (p.data.toList ++ [47]).isPrefixOf (p.data.toList ++ q.data.toList.drop p.size) := by rw [← hsplit]
            rw [Hid, h1, hd, Bool.eq_iff_iff, List.isPrefixOf_iff_prefix, List.prefix_append_right_inj, List.cons_prefix_cons, decide_eq_true_eq, byt, ← UInt8.toNat_inj]
            exact ⟨fun e => e.1.symm, fun e => ⟨e.symm, List.nil_prefix⟩⟩
          rw [HD.out]
          have hbl := byt_lt q p.size
          clear hd hsplit hpre hw b1' b0'
          generalize byt q p.size = n at *
          by_cases h47 : n = 47
          · subst h47
            go_enter Tryz.func47, Tryz.ntmps47
            go_wp2
            go_ret
            exact ⟨rfl, rfl⟩
          · have h47' : ((n : Int) == 47) = false := by simp; omega
            rw [decide_eq_false h47]
            go_enter Tryz.func47, Tryz.ntmps47
            go_wp2
            go_ret
            exact ⟨rfl, rfl⟩
        · have b2 : ((q.extract 0 p.size).toList == p.toList) = false := beq_eq_false_iff_ne.2 (fun h => hpre (tl_eq.2 (h.trans (by rw [ByteArray.toList_eq]))))
          have e : (p.data.toList ++ [47]).isPrefixOf q.data.toList = false := by
            rw [Bool.eq_false_iff]
            intro h
            rw [List.isPrefixOf_iff_prefix] at h
            obtain ⟨t, ht⟩ := h
            refine hpre (ba_eq.2 ?_)
            rw [extract_sub, sub, ← ht, ← len_data]
            simp
          rw [e]
          clear hx
          go_enter Tryz.func47, Tryz.ntmps47
          go_wp2
          go_ret
          exact ⟨rfl, rfl⟩
      · have hlenI : ¬ (p.size : Int) < (q.size : Int) := by omega
        have e : (p.data.toList ++ [47]).isPrefixOf q.data.toList = false := by
          rw [Bool.eq_false_iff]
          intro h
          rw [List.isPrefixOf_iff_prefix] at h
          have := h.length_le
          rw [List.length_append, len_data, len_data] at this
          simp at this
          omega
        rw [e]
        go_enter Tryz.func47, Tryz.ntmps47
        go_wp2
        go_ret
        exact ⟨rfl, rfl⟩

/-! ### Items -/
/-- An item: its path, whether it is a directory, its bytes. -/
abbrev It : Type := ByteArray × Bool × List Nat
def itC (x : It) (v : Value) : List Value := [.string x.1, .bool x.2.1, v]
/-- At that place stands the item x, its bytes in a block of which P. -/
def ItAt (P : Nat → Prop) (w : World) (g o : Nat) (x : It) : Prop :=
  ∃ v, w.cell? ⟨g, o, none⟩ = some (.string x.1) ∧ w.cell? ⟨g, o + 1, none⟩ = some (.bool x.2.1) ∧ w.cell? ⟨g, o + 2, none⟩ = some v ∧ ByP P w v x.2.2
/-- v is a slice of the items xs, in a block of which P, with bytes in blocks of which P. -/
def IRow (P : Nat → Prop) (w : World) (v : Value) (xs : List It) : Prop :=
  ∃ a cap, v = .slice a xs.length cap ∧ xs.length ≤ cap ∧ cap ≤ maxLen ∧ (a = none → xs = [] ∧ cap = 0) ∧ (xs ≠ [] → ∃ g o, a = some ⟨g, o, none⟩ ∧ P g ∧ g < w.heap.size ∧ ∀ i x, xs[i]? = some x → ItAt P w g (o + i * 3) x)
/-- Few, and short. -/
def Sml (xs : List It) : Prop := xs.length ≤ 1000 ∧ ∀ x ∈ xs, x.1.size ≤ 10000 ∧ x.2.2.length ≤ 10000

theorem ItAt.kp {P L : Nat → Prop} {w w' : World} {g o : Nat} {x : It} (h : ItAt P w g o x) (k : Kp L w w') (hm : ∀ x, L x → x < w.heap.size → ¬ P x) (hg : P g) (hl : g < w.heap.size) : ItAt P w' g o x := by
  obtain ⟨v, h1, h2, h3, h4⟩ := h
  have hn : ¬ L g := fun e => hm g e hl hg
  exact ⟨v, (k.cell (p := ⟨g, o, none⟩) hl hn).trans h1, (k.cell (p := ⟨g, o + 1, none⟩) hl hn).trans h2, (k.cell (p := ⟨g, o + 2, none⟩) hl hn).trans h3, h4.kp k hm⟩
theorem IRow.kp {P L : Nat → Prop} {w w' : World} {v : Value} {xs : List It} (h : IRow P w v xs) (k : Kp L w w') (hm : ∀ x, L x → x < w.heap.size → ¬ P x) : IRow P w' v xs := by
  obtain ⟨a, cap, e, h1, h2, h3, h4⟩ := h
  refine ⟨a, cap, e, h1, h2, h3, fun hne => ?_⟩
  obtain ⟨g, o, e, hg, hl, hx⟩ := h4 hne
  exact ⟨g, o, e, hg, Nat.lt_of_lt_of_le hl k.size, fun i x hi => (hx i x hi).kp k hm hg hl⟩
theorem IRow.kept {P : Nat → Prop} {w w' : World} {v : Value} {xs : List It} (h : IRow P w v xs) (k : Kp No w w') : IRow P w' v xs := h.kp k (fun _ hx => hx.elim)
theorem ItAt.mono {P Q : Nat → Prop} {w : World} {g o : Nat} {x : It} (h : ItAt P w g o x) (hm : ∀ x, x < w.heap.size → P x → Q x) : ItAt Q w g o x := by
  obtain ⟨v, h1, h2, h3, h4⟩ := h
  exact ⟨v, h1, h2, h3, h4.mono hm⟩
theorem IRow.mono {P Q : Nat → Prop} {w : World} {v : Value} {xs : List It} (h : IRow P w v xs) (hm : ∀ x, x < w.heap.size → P x → Q x) : IRow Q w v xs := by
  obtain ⟨a, cap, e, h1, h2, h3, h4⟩ := h
  refine ⟨a, cap, e, h1, h2, h3, fun hne => ?_⟩
  obtain ⟨g, o, e, hg, hl, hx⟩ := h4 hne
  exact ⟨g, o, e, hm g hl hg, hl, fun i x hi => (hx i x hi).mono hm⟩
theorem IRow.nil (P : Nat → Prop) (w : World) : IRow P w (.slice none 0 0) [] := ⟨none, 0, rfl, Nat.le_refl _, Nat.zero_le _, fun _ => ⟨rfl, rfl⟩, fun h => absurd rfl h⟩
def Any : Nat → Prop := fun _ => True
theorem IRow.any {P : Nat → Prop} {w : World} {v : Value} {xs : List It} (h : IRow P w v xs) : IRow Any w v xs := h.mono (fun _ _ _ => trivial)
theorem ByP.any {P : Nat → Prop} {w : World} {v : Value} {bs : List Nat} (h : ByP P w v bs) : ByP Any w v bs := h.mono (fun _ _ _ => trivial)

/-! ### clone -/
/-- The item's parts, at a block of its own. -/
theorem box_it (w : World) (x : It) (v : Value) (t : TypeId) : ∀ V, Kp No (w.alloc (.cells (itC x v).toArray t)) V → V.cell? ⟨w.heap.size, 0, none⟩ = some (.string x.1) ∧ V.cell? ⟨w.heap.size, 1, none⟩ = some (.bool x.2.1) ∧ V.cell? ⟨w.heap.size, 2, none⟩ = some v := fun V k => by
  have hl : w.heap.size < (w.alloc (.cells (itC x v).toArray t)).heap.size := by simp
  refine ⟨(k.cell (p := ⟨w.heap.size, 0, none⟩) hl (fun h => h)).trans ?_, (k.cell (p := ⟨w.heap.size, 1, none⟩) hl (fun h => h)).trans ?_, (k.cell (p := ⟨w.heap.size, 2, none⟩) hl (fun h => h)).trans ?_⟩ <;>
  · rw [World.cell?_alloc_at _ _ _ _ rfl]
    rfl

theorem Kp.set3 (w : World) (b : Nat) (x y z : Value) : Kp (· = b) w (((w.setCell ⟨b, 0, none⟩ x).setCell ⟨b, 1, none⟩ y).setCell ⟨b, 2, none⟩ z) :=
  (((Kp.refl (· = b) w).setCell (p := ⟨b, 0, none⟩) (.inl rfl) x).setCell (p := ⟨b, 1, none⟩) (.inl rfl) y).setCell (p := ⟨b, 2, none⟩) (.inl rfl) z

set_option maxHeartbeats 2000000 in
theorem clone_it (w : World) (x : It) (v : Value) (h : ByP Any w v x.2.2) (hl : x.2.2.length ≤ 20000000) :
    Calls Tryz.prog 32 #[.agg #[.string x.1, .bool x.2.1, v]] w fun e w' => ∃ v', e = .returned (.agg #[.string x.1, .bool x.2.1, v']) ∧ OwnB w' v' x.2.2 ∧ (∀ b, v'.ownBlock = some b → w.heap.size ≤ b) ∧ Kp No w w' := by
  obtain ⟨s, d, bs⟩ := x
  have HB := hid h
  clear h
  have hb : Hid (∀ V, Kp No ((w.alloc (.cells #[.string s, .bool d, v] 41)).alloc (.cells #[.string ⟨#[]⟩, .bool false, .slice none 0 0] 41)) V → V.cell? ⟨w.heap.size, 0, none⟩ = some (.string s) ∧ V.cell? ⟨w.heap.size, 1, none⟩ = some (.bool d) ∧ V.cell? ⟨w.heap.size, 2, none⟩ = some v) := fun V k => box_it w (s, d, bs) v _ V (((Kp.refl No _).alloc _).andNone k)
  have hk0 : Hid (Kp No w ((w.alloc (.cells #[.string s, .bool d, v] 41)).alloc (.cells #[.string ⟨#[]⟩, .bool false, .slice none 0 0] 41))) := ((Kp.refl _ _).alloc _).alloc _
  have hr0 : Hid (∀ V, Kp No ((w.alloc (.cells #[.string s, .bool d, v] 41)).alloc (.cells #[.string ⟨#[]⟩, .bool false, .slice none 0 0] 41)) V → Blk V (w.heap.size + 1) 41 [.string ⟨#[]⟩, .bool false, .slice none 0 0]) := fun V k => by
    have := Blk.new (w.alloc (.cells #[.string s, .bool d, v] 41)) 41 [.string ⟨#[]⟩, .bool false, .slice none 0 0]
    have h2 := this.kp k (fun h => h)
    simpa using h2
  go_enter Tryz.func32, Tryz.ntmps32
  go_wp2_with fail
  have hlt : Hid (w.heap.size + 1 < ((w.alloc (.cells #[.string s, .bool d, v] 41)).alloc (.cells #[.string ⟨#[]⟩, .bool false, .slice none 0 0] 41)).heap.size) := by unfold Hid; simp
  generalize ((w.alloc (.cells #[.string s, .bool d, v] 41)).alloc (.cells #[.string ⟨#[]⟩, .bool false, .slice none 0 0] 41)) = W0 at *
  have r0 : ∀ V, Kp (· = w.heap.size + 1) W0 V → V.cell? ⟨w.heap.size, 0, none⟩ = some (.string s) := fun V k => (k.cell (p := ⟨w.heap.size, 0, none⟩) (Nat.lt_of_succ_lt hlt.out) (show ¬ w.heap.size = w.heap.size + 1 by omega)).trans (hb.out W0 (Kp.refl _ _)).1
  have r1 : ∀ V, Kp (· = w.heap.size + 1) W0 V → V.cell? ⟨w.heap.size, 1, none⟩ = some (.bool d) := fun V k => (k.cell (p := ⟨w.heap.size, 1, none⟩) (Nat.lt_of_succ_lt hlt.out) (show ¬ w.heap.size = w.heap.size + 1 by omega)).trans (hb.out W0 (Kp.refl _ _)).2.1
  have r2 : ∀ V, Kp (· = w.heap.size + 1) W0 V → V.cell? ⟨w.heap.size, 2, none⟩ = some (v) := fun V k => (k.cell (p := ⟨w.heap.size, 2, none⟩) (Nat.lt_of_succ_lt hlt.out) (show ¬ w.heap.size = w.heap.size + 1 by omega)).trans (hb.out W0 (Kp.refl _ _)).2.2
  have q0 : ∀ V, Kp No W0 V → V.cell? ⟨w.heap.size + 1, 0, none⟩ = some (.string ⟨#[]⟩) := fun V k => (hr0.out V k).cell 0
  have q1 : ∀ V, Kp No W0 V → V.cell? ⟨w.heap.size + 1, 1, none⟩ = some (.bool false) := fun V k => (hr0.out V k).cell 1
  have q2 : ∀ V, Kp No W0 V → V.cell? ⟨w.heap.size + 1, 2, none⟩ = some (.slice none 0 0) := fun V k => (hr0.out V k).cell 2
  have f0 : ∀ V, Kp No W0 V → V.frozen? ⟨w.heap.size + 1, 0, none⟩ = false := fun V k => (hr0.out V k).frozen 0
  have f1 : ∀ V, Kp No W0 V → V.frozen? ⟨w.heap.size + 1, 1, none⟩ = false := fun V k => (hr0.out V k).frozen 1
  have f2 : ∀ V, Kp No W0 V → V.frozen? ⟨w.heap.size + 1, 2, none⟩ = false := fun V k => (hr0.out V k).frozen 2
  have HC := hid (clone_any (P := Any) v bs W0.drew ((HB.out.kept hk0.out).kept (Kp.refl _ _).drew) hl)
  go_region_held3 (fun V => Kp (· = w.heap.size + 1) W0 V) (first | (with_reducible exact Kp.refl _ _) | (with_reducible exact (Kp.refl _ _).drew) | (with_reducible exact HK1.out.ofNo) | (with_reducible exact HK1.out.ofNo.trans (Kp.set3 _ _ _ _ _) (fun _ h => .inl h))) (first | (go_at_call 53; refine (HC.out).mono ?_; rintro e w1 ⟨ad, cc, rfl, ho, hn, hk⟩; have HO := hid ho; have HN := hid hn; have HK1 : Hid (Kp No W0 w1) := (Kp.refl _ _).drew.andNone hk; have c0 := q0 _ HK1.out; have c1 := q1 _ HK1.out; have c2 := q2 _ HK1.out; have d0 := f0 _ HK1.out; have d1 := f1 _ HK1.out; have d2 := f2 _ HK1.out; clear ho hn hk))
  clear r0 r1 r2 q0 q1 q2 f0 f1 f2 HC c0 c1 c2 d0 d1 d2
  have HW2 := hid ((((hr0.out _ HK1.out).setCell 0 (.string s)).setCell 1 (.bool d)).setCell 2 (.slice ad bs.length cc))
  have HK2 := hid (Kp.set3 w1 (w.heap.size + 1) (.string s) (.bool d) (.slice ad bs.length cc))
  generalize (((w1.setCell { block := w.heap.size + 1, off := 0 } (.string s)).setCell { block := w.heap.size + 1, off := 1 } (.bool d)).setCell { block := w.heap.size + 1, off := 2 } (.slice ad bs.length cc)) = w2 at *
  have c0 : w2.cell? ⟨w.heap.size + 1, 0, none⟩ = some (.string s) := HW2.out.cell 0
  have c1 : w2.cell? ⟨w.heap.size + 1, 1, none⟩ = some (.bool d) := HW2.out.cell 1
  have c2 : w2.cell? ⟨w.heap.size + 1, 2, none⟩ = some (.slice ad bs.length cc) := HW2.out.cell 2
  go_wp2
  have hsz := hk0.out.size
  have hsz1 := HK1.out.size
  have hsz2 := hlt.out
  refine bodyPost_ret (v := .agg #[.string s, .bool d, .slice ad bs.length cc]) (by simp [results, Tryz.results32, go_sem, c0, c1, c2]) rfl ⟨_, rfl, ?_, ?_, ?_⟩
  · refine Row.kp HO.out.row HK2.out (fun b hb e => ?_)
    have := HN.out b hb
    have e2 : W0.drew.heap.size = W0.heap.size := rfl
    omega
  · intro b hb
    have := HN.out b hb
    have e : W0.drew.heap.size = W0.heap.size := rfl
    omega
  · exact hk0.out.trans (HK1.out.ofNo.trans HK2.out (fun _ h => .inl h)) (fun x h => .inr (by omega))

end Go.Proofs.YtdooiflmjeibdaaGreatDoor.Tr
end

section
/-
  Trees, purely.
-/
namespace Go.Proofs.YtdooiflmjeibdaaGreatDoor.Tr
open Go.RowKit

abbrev tx (s : ByteArray) : Tx := s.data.toList
/-- The item of a path. -/
def look (t : List It) (p : ByteArray) : Option It := t.find? (fun x => decide (x.1 = p))
/-- What keeps the directory of a path from holding it. -/
def homeF (t : List It) (p : ByteArray) : Int :=
  if (splitS p).1 = ⟨#[]⟩ then 0 else match look t (splitS p).1 with
    | none => 5
    | some x => if x.2.1 then 0 else 7
def Rises (t : List It) : Prop := t.Pairwise (fun a b => bytesBefore (tx a.1) (tx b.1) = true)
/-- Each one above the one ahead of it. -/
def risesB : List It → Bool
  | x :: y :: r => bytesBefore (tx x.1) (tx y.1) && risesB (y :: r)
  | _ => true
def wrongB (t : List It) (x : It) : Bool := !(pathB (tx x.1)) || !(decide (homeF t x.1 = 0)) || decide ((if x.2.1 then 0 else 2000) < x.2.2.length)
def rightB (t : List It) : Bool := decide (t.length ≤ 60) && risesB t && !(t.any (wrongB t))

theorem rises_adj : ∀ t : List It, risesB t = true ↔ ∀ i x y, t[i]? = some x → t[i + 1]? = some y → bytesBefore (tx x.1) (tx y.1) = true
  | [] => by simp [risesB]
  | [x] => by
    simp only [risesB, true_iff]
    intro i x y _ h
    simp at h
  | x :: y :: r => by
    rw [risesB, Bool.and_eq_true, rises_adj (y :: r)]
    constructor
    · rintro ⟨h1, h2⟩ i a b ha hb
      cases i with
      | zero =>
        simp at ha hb
        subst ha hb
        exact h1
      | succ i =>
        simp only [List.getElem?_cons_succ] at ha
        exact h2 i a b ha (by simpa using hb)
    · intro h
      exact ⟨h 0 x y rfl rfl, fun i a b ha hb => h (i + 1) a b (by simpa using ha) (by simpa using hb)⟩
theorem rises_pair : ∀ t : List It, risesB t = true → Rises t
  | [], _ => List.Pairwise.nil
  | [x], _ => List.pairwise_singleton _ _
  | x :: y :: r, h => by
    rw [risesB, Bool.and_eq_true] at h
    have h2 := rises_pair (y :: r) h.2
    refine List.pairwise_cons.2 ⟨fun z hz => ?_, h2⟩
    rcases List.mem_cons.1 hz with rfl | hz
    · exact h.1
    · exact bb_trans _ _ _ h.1 ((List.pairwise_cons.1 h2).1 z hz)
theorem pair_rises : ∀ t : List It, Rises t → risesB t = true
  | [], _ => rfl
  | [_], _ => rfl
  | x :: y :: r, h => by
    have h1 := List.pairwise_cons.1 h
    rw [risesB, h1.1 y (List.mem_cons_self ..), pair_rises (y :: r) h1.2]
    rfl
theorem Rises.lt {t : List It} (h : Rises t) {i j : Nat} {x y : It} (hij : i < j) (hx : t[i]? = some x) (hy : t[j]? = some y) : bytesBefore (tx x.1) (tx y.1) = true := by
  obtain ⟨hi, rfl⟩ := List.getElem?_eq_some_iff.1 hx
  obtain ⟨hj, rfl⟩ := List.getElem?_eq_some_iff.1 hy
  exact List.pairwise_iff_getElem.1 h i j hi hj hij
theorem Rises.same {t : List It} (h : Rises t) {x y : It} (hx : x ∈ t) (hy : y ∈ t) (e : x.1 = y.1) : x = y := by
  obtain ⟨i, hi⟩ := List.mem_iff_getElem?.1 hx
  obtain ⟨j, hj⟩ := List.mem_iff_getElem?.1 hy
  rcases Nat.lt_trichotomy i j with hlt | rfl | hlt
  · have := h.lt hlt hi hj
    rw [e, bb_irr] at this
    cases this
  · rw [hi] at hj
    exact Option.some.inj hj
  · have := h.lt hlt hj hi
    rw [e, bb_irr] at this
    cases this
theorem look_mem {t : List It} {p : ByteArray} {x : It} (h : look t p = some x) : x ∈ t ∧ x.1 = p := ⟨List.mem_of_find?_eq_some h, by simpa using List.find?_some h⟩
theorem look_none {t : List It} {p : ByteArray} (h : look t p = none) : ∀ x ∈ t, x.1 ≠ p := fun x hx => by simpa using List.find?_eq_none.1 h x hx
theorem look_none' {t : List It} {p : ByteArray} (h : ∀ x ∈ t, x.1 ≠ p) : look t p = none := List.find?_eq_none.2 (fun x hx => by simpa using h x hx)
theorem look_rises {t : List It} (h : Rises t) {x : It} (hx : x ∈ t) : look t x.1 = some x := by
  cases e : look t x.1 with
  | none => exact absurd rfl (look_none e x hx)
  | some y =>
    obtain ⟨h1, h2⟩ := look_mem e
    rw [h.same h1 hx h2]

/-- i and j halve t at p. -/
def Half (t : List It) (p : ByteArray) (i j : Nat) : Prop := (∀ u z, u < i → t[u]? = some z → bytesBefore (tx z.1) (tx p) = true) ∧ (∀ u z, j ≤ u → t[u]? = some z → bytesBefore (tx z.1) (tx p) = false)
theorem Half.begin (t : List It) (p : ByteArray) : Half t p 0 t.length := ⟨fun u z h => absurd h (Nat.not_lt_zero _), fun u z h hz => by
  have := (List.getElem?_eq_some_iff.1 hz).1
  omega⟩
theorem Half.yes {t : List It} {p : ByteArray} {i j h : Nat} (H : Half t p i j) (hr : Rises t) {y : It} (hy : t[h]? = some y) (e : bytesBefore (tx y.1) (tx p) = true) : Half t p (h + 1) j :=
  ⟨fun u z hu hz => by
    by_cases hh : u = h
    · subst hh
      rw [hy] at hz
      cases hz
      exact e
    · exact bb_trans _ _ _ (hr.lt (by omega) hz hy) e, H.2⟩
theorem Half.no {t : List It} {p : ByteArray} {i j h : Nat} (H : Half t p i j) (hr : Rises t) {y : It} (hy : t[h]? = some y) (e : bytesBefore (tx y.1) (tx p) = false) : Half t p i h :=
  ⟨H.1, fun u z hu hz => by
    by_cases hh : u = h
    · subst hh
      rw [hy] at hz
      cases hz
      exact e
    · cases hb : bytesBefore (tx z.1) (tx p) with
      | false => rfl
      | true =>
        rw [bb_trans _ _ _ (hr.lt (by omega) hy hz) hb] at e
        cases e⟩

/-- What at answers: where p stands, or would. -/
def AtP (t : List It) (p : ByteArray) (i : Nat) (b : Bool) : Prop := i ≤ t.length ∧ (b = true ↔ ∃ x, t[i]? = some x ∧ x.1 = p) ∧ (risesB t = true → Half t p i i)
theorem AtP.found {t : List It} {p : ByteArray} {i : Nat} (h : AtP t p i true) (hr : risesB t = true) : ∃ x, t[i]? = some x ∧ x.1 = p ∧ look t p = some x := by
  obtain ⟨x, hx, e⟩ := h.2.1.1 rfl
  refine ⟨x, hx, e, ?_⟩
  rw [← e]
  exact look_rises (rises_pair _ hr) (List.mem_of_getElem? hx)
theorem AtP.lost {t : List It} {p : ByteArray} {i : Nat} (h : AtP t p i false) (hr : risesB t = true) : look t p = none := by
  refine look_none' (fun z hz e => ?_)
  obtain ⟨u, hu⟩ := List.mem_iff_getElem?.1 hz
  obtain ⟨h1, h2⟩ := h.2.2 hr
  rcases Nat.lt_trichotomy u i with hlt | rfl | hlt
  · have := h1 u z hlt hu
    rw [e, bb_irr] at this
    cases this
  · have := h.2.1.2 ⟨z, hu, e⟩
    cases this
  · obtain ⟨y, hy⟩ : ∃ y, t[i]? = some y := ⟨_, List.getElem?_eq_getElem (by have := (List.getElem?_eq_some_iff.1 hu).1; omega)⟩
    have h3 := (rises_pair _ hr).lt hlt hy hu
    have h4 := h2 i y (Nat.le_refl _) hy
    rw [e] at h3
    rw [h3] at h4
    cases h4

/-- Those within a path. -/
def underL (t : List It) (p : ByteArray) : List It := t.filter (fun x => withinB (tx p) (tx x.1))
/-- All others. -/
def outL (t : List It) (p : ByteArray) : List It := t.filter (fun x => !withinB (tx p) (tx x.1))
/-- A tree with an item, as the document lays it. -/
def putR (x : It) : List It → Bool → List It
  | [], inn => if inn then [] else [x]
  | y :: r, inn => (if !inn && !bytesBefore (tx y.1) (tx x.1) then [x] else []) ++ (if y.1 = x.1 then [] else [y]) ++ putR x r (inn || !bytesBefore (tx y.1) (tx x.1))
def putL (t : List It) (x : It) : List It := putR x t false
def bytesN (t : List It) : Nat := (t.map (fun x => x.2.2.length)).sum

end Go.Proofs.YtdooiflmjeibdaaGreatDoor.Tr
end

section
/-
  rises; where an item stands (slices.BinarySearchFunc by strings.Compare); Bytes; Light.
-/
namespace Go.Proofs.YtdooiflmjeibdaaGreatDoor.Tr
open Go.RowKit

theorem IRow.get {P : Nat → Prop} {w : World} {v : Value} {xs : List It} (h : IRow P w v xs) {i : Nat} {x : It} (hx : xs[i]? = some x) : ∃ g o cap u, v = .slice (some ⟨g, o, none⟩) xs.length cap ∧ P g ∧ g < w.heap.size ∧
    w.cell? ⟨g, o + i * 3, none⟩ = some (.string x.1) ∧ w.cell? ⟨g, o + i * 3 + 1, none⟩ = some (.bool x.2.1) ∧ w.cell? ⟨g, o + i * 3 + 2, none⟩ = some u ∧ ByP P w u x.2.2 := by
  obtain ⟨a, cap, rfl, h1, h2, h3, h4⟩ := h
  obtain ⟨g, o, rfl, hg, hl, hc⟩ := h4 (by rintro rfl; simp at hx)
  obtain ⟨u, c0, c1, c2, hb⟩ := hc i x hx
  exact ⟨g, o, cap, u, rfl, hg, hl, c0, c1, c2, hb⟩
theorem IRow.form {P : Nat → Prop} {w : World} {v : Value} {xs : List It} (h : IRow P w v xs) : ∃ a cap, v = .slice a xs.length cap ∧ (xs ≠ [] → ∃ g o, a = some ⟨g, o, none⟩) := by
  obtain ⟨a, cap, rfl, h1, h2, h3, h4⟩ := h
  refine ⟨a, cap, rfl, fun hne => ?_⟩
  obtain ⟨g, o, e, _⟩ := h4 hne
  exact ⟨g, o, e⟩

theorem bl_bb : ∀ a b : Tx, Op.bytesLess a b = bytesBefore a b
  | [], [] => rfl
  | _ :: _, [] => rfl
  | [], _ :: _ => rfl
  | a :: x, b :: y => by rw [Op.bytesLess, bytesBefore, bl_bb x y]
theorem bless (a b : ByteArray) : Op.bytesLess a.toList b.toList = bytesBefore (tx a) (tx b) := by rw [bl_bb, ByteArray.toList_eq, ByteArray.toList_eq]

set_option maxHeartbeats 2000000 in
theorem rises_any (w : World) (v : Value) (t : List It) (h : IRow Any w v t) (hl : t.length ≤ 100000) : Calls Tryz.prog 23 #[v] w fun e w' => e = .returned (.bool (risesB t)) ∧ Kp No w w' := by
  have HI := hid h
  obtain ⟨a, cap, rfl, _⟩ := h.form
  clear h
  obtain ⟨n, hn⟩ : ∃ n, t.length = n := ⟨_, rfl⟩
  have HN := hid hn
  rw [hn] at hl HI ⊢
  clear hn
  go_enter Tryz.func23, Tryz.ntmps23
  go_wp2
  go_loopw [3] (fun x wr => ∃ i : Nat, x = .int .i64 i ∧ 1 ≤ i ∧ Hid (∀ j x y, j + 1 < i → t[j]? = some x → t[j + 1]? = some y → bytesBefore (tx x.1) (tx y.1) = true) ∧ Hid (Kp No w wr)) (fun x _ => n - (intOf x).toNat)
  case atStart => exact ⟨1, rfl, Nat.le_refl _, fun j x y h => by omega, Kp.refl _ _⟩
  case round =>
    obtain ⟨i, rfl, hi, HR, HK⟩ := hrel
    by_cases hlt : i < n
    · have hltI : (i : Int) < (n : Int) := by omega
      obtain ⟨k, rfl⟩ : ∃ k, i = k + 1 := ⟨i - 1, by omega⟩
      obtain ⟨x, hx⟩ : ∃ x, t[k]? = some x := ⟨_, List.getElem?_eq_getElem (by rw [HN.out]; omega)⟩
      obtain ⟨y, hy⟩ : ∃ y, t[k + 1]? = some y := ⟨_, List.getElem?_eq_getElem (by rw [HN.out]; omega)⟩
      have HX := hid hx
      have HY := hid hy
      have hrow := HI.out.kept HK.out
      rw [← HN.out] at hrow
      obtain ⟨g, o, c', u, e, _, _, x0, x1, x2, _⟩ := hrow.get hx
      obtain ⟨g', o', c'', u', e', _, _, y0, y1, y2, _⟩ := hrow.get hy
      cases e
      cases e'
      have e1 : ((k + 1 : Nat) : Int) - 1 = (k : Int) := by omega
      have hk0 : (0 : Int) ≤ (k : Int) := by omega
      have hk1 : (k : Int) < (n : Int) := by omega
      have hL := bless x.1 y.1
      clear hx hy hrow x1 x2 y1 y2
      cases hb : bytesBefore (tx x.1) (tx y.1) with
      | false =>
        rw [hb] at hL
        have HB := hid hb
        clear hb
        go_wp2_with fail
        go_quiet (fail)
        go_wp2
        go_ret
        refine ⟨?_, HK.out.drewN nq⟩
        have : risesB t = false := by
          cases e : risesB t with
          | false => rfl
          | true =>
            have := (rises_adj t).1 e k x y HX.out HY.out
            rw [HB.out] at this
            cases this
        rw [this]
        rfl
      | true =>
        rw [hb] at hL
        have HB := hid hb
        clear hb
        go_wp2_with fail
        go_quiet (fail)
        go_wp2
        go_roundw
        case rel => exact ⟨k + 1 + 1, by go_num, by omega, fun j a b hj ha hb => by
          by_cases e : j = k
          · subst e
            have h1 := HX.out
            have h2 := HY.out
            rw [ha] at h1
            rw [hb] at h2
            cases h1
            cases h2
            exact HB.out
          · exact HR.out j a b (by omega) ha hb, HK.out.drewN nq⟩
        case measure => simp [intOf] <;> omega
    · have hltI : ¬ (i : Int) < (n : Int) := by omega
      go_wp2
      go_ret
      refine ⟨?_, HK.out⟩
      have : risesB t = true := (rises_adj t).2 (fun j x y hx hy => HR.out j x y (by have := (List.getElem?_eq_some_iff.1 hy).1; have := HN.out; omega) hx hy)
      rw [this]
      rfl

set_option maxHeartbeats 1000000 in
theorem at1_any (w : World) (s p : ByteArray) (d : Bool) (v : Value) : Calls Tryz.prog 52 #[.agg #[.string s, .bool d, v], .string p] w fun e w' => e = .returned (.int .i64 (Lib.compareBytes (tx s) (tx p))) ∧ Kp No w w' := by
  go_enter Tryz.func52, Tryz.ntmps52
  go_wp2_with (go_at_call 39; refine (compare_any _ _ _).mono ?_; rintro e w1 ⟨rfl, hw⟩; subst hw)
  go_ret
  exact ⟨rfl, (Kp.refl _ _).alloc _⟩

def AtAns (t : List It) (p : ByteArray) (e : Ending) : Prop := ∃ (i : Nat) (b : Bool), e = .returned (.tuple #[.int .i64 (i : Int), .bool b]) ∧ AtP t p i b
theorem AtAns.mk {t : List It} {p : ByteArray} {e : Ending} (i : Nat) (b : Bool) (h : e = .returned (.tuple #[.int .i64 (i : Int), .bool b])) (ha : AtP t p i b) : AtAns t p e := ⟨i, b, h, ha⟩

set_option maxHeartbeats 4000000 in
theorem bsearch_any (w : World) (v : Value) (t : List It) (p : ByteArray) (h : IRow Any w v t) (hl : t.length ≤ 100000) :
    Calls Tryz.prog 51 #[v, .string p, .func (.func 52) #[] #[]] w fun e w' => AtAns t p e ∧ Kp No w w' := by
  have HI := hid h
  obtain ⟨a, cap, rfl, _⟩ := h.form
  clear h
  obtain ⟨n, hn⟩ : ∃ n, t.length = n := ⟨_, rfl⟩
  have HN := hid hn
  rw [hn] at hl HI ⊢
  have HH0 : Hid (risesB t = true → Half t p 0 n) := fun _ => by rw [← hn]; exact Half.begin _ _
  clear hn
  go_enter Tryz.func51, Tryz.ntmps51
  go_wp2_with fail
  go_loopw [9, 10] (fun v9 v10 wr => ∃ (i j : Nat), v9 = .int .i64 (i : Int) ∧ v10 = .int .i64 (j : Int) ∧ i ≤ j ∧ j ≤ n ∧ Hid ((risesB t = true → Half t p i j) ∧ Kp No w wr)) (fun v9 v10 _ => (intOf v10).toNat - (intOf v9).toNat)
  case atStart => exact ⟨0, n, rfl, rfl, Nat.zero_le _, Nat.le_refl _, HH0.out, Kp.refl _ _⟩
  case round =>
    obtain ⟨i, j, rfl, rfl, hij, hjn, HS⟩ := hrel
    by_cases hlt : i < j
    · have hltI : (i : Int) < (j : Int) := by omega
      obtain ⟨h, hh⟩ : ∃ h, (i + j) / 2 = h := ⟨_, rfl⟩
      have hhI : ((i : Int) + (j : Int)) / 2 = (h : Int) := by omega
      have hih : i ≤ h ∧ h < j := by omega
      obtain ⟨x, hx⟩ : ∃ x, t[h]? = some x := ⟨_, List.getElem?_eq_getElem (by rw [HN.out]; omega)⟩
      have HX := hid hx
      have hrow := HI.out.kept HS.out.2
      rw [← HN.out] at hrow
      obtain ⟨g, o, c', u, e, _, _, x0, x1, x2, _⟩ := hrow.get hx
      cases e
      have hhN : (h : Int) < (n : Int) := by omega
      have hh0 : (0 : Int) ≤ (h : Int) := by omega
      have hwh : IntKind.i64.wrap ((h : Int) + 1) = ((h + 1 : Nat) : Int) := by rw [IntKind.wrap_i64]; omega
      have hcn := hid (cmp_neg (tx x.1) (tx p))
      obtain ⟨z, hz⟩ : ∃ z, Lib.compareBytes (tx x.1) (tx p) = z := ⟨_, rfl⟩
      have hA := fun W => at1_any W x.1 p x.2.1 u
      rw [hz] at hcn
      simp only [hz] at hA
      clear hx hrow hz
      by_cases hneg : z < 0
      · go_wp2_with (go_at_call 52; refine (hA _).mono ?_; rintro e w1 ⟨rfl, hk⟩; have HK1 := hid hk; clear hk)
        go_roundw
        case rel => exact ⟨h + 1, j, by go_num, rfl, by omega, by omega, fun hr => (HS.out.1 hr).yes (rises_pair _ hr) HX.out (hcn.out.1 hneg), HS.out.2.andNone HK1.out⟩
        case measure => simp [intOf] <;> omega
      · go_wp2_with (go_at_call 52; refine (hA _).mono ?_; rintro e w1 ⟨rfl, hk⟩; have HK1 := hid hk; clear hk)
        go_roundw
        case rel => exact ⟨i, h, rfl, rfl, by omega, by omega, fun hr => (HS.out.1 hr).no (rises_pair _ hr) HX.out (by
          cases hb : bytesBefore (tx x.1) (tx p) with
          | false => rfl
          | true => exact absurd (hcn.out.2 hb) (by omega)), HS.out.2.andNone HK1.out⟩
        case measure => simp [intOf] <;> omega
    · obtain rfl : i = j := by omega
      have hltI : ¬ (i : Int) < (i : Int) := by omega
      by_cases hin : i < n
      · have hinI : (i : Int) < (n : Int) := by omega
        have hi0 : (0 : Int) ≤ (i : Int) := by omega
        obtain ⟨x, hx⟩ : ∃ x, t[i]? = some x := ⟨_, List.getElem?_eq_getElem (by rw [HN.out]; omega)⟩
        have HX := hid hx
        have hrow := HI.out.kept HS.out.2
        rw [← HN.out] at hrow
        obtain ⟨g, o, c', u, e, _, _, x0, x1, x2, _⟩ := hrow.get hx
        cases e
        have hcn := hid (cmp_zero (tx x.1) (tx p))
        obtain ⟨z, hz⟩ : ∃ z, Lib.compareBytes (tx x.1) (tx p) = z := ⟨_, rfl⟩
        have hA := fun W => at1_any W x.1 p x.2.1 u
        rw [hz] at hcn
        simp only [hz] at hA
        clear hx hrow hz
        by_cases h0 : z = 0
        · subst h0
          go_wp2_with (go_at_call 52; refine (hA _).mono ?_; rintro e w1 ⟨rfl, hk⟩; have HK1 := hid hk; clear hk)
          go_ret2
          exact ⟨AtAns.mk i true rfl (And.intro (by have := HN.out; omega) ⟨⟨fun _ => ⟨x, HX.out, ba_eq.2 (hcn.out.1 (by first | rfl | trivial))⟩, fun _ => rfl⟩, HS.out.1⟩), HS.out.2.andNone HK1.out⟩
        · have h0' : (z == 0) = false := by simpa using h0
          go_wp2_with (go_at_call 52; refine (hA _).mono ?_; rintro e w1 ⟨rfl, hk⟩; have HK1 := hid hk; clear hk)
          go_ret2
          refine ⟨AtAns.mk i false rfl (And.intro (by have := HN.out; omega) ⟨⟨fun h => (by cases h), fun ⟨y, hy, ey⟩ => ?_⟩, HS.out.1⟩), HS.out.2.andNone HK1.out⟩
          rw [HX.out] at hy
          cases hy
          exact absurd (hcn.out.2 (by rw [ey])) h0
      · have hinI : ¬ (i : Int) < (n : Int) := by omega
        go_wp2
        go_ret2
        exact ⟨AtAns.mk i false rfl (And.intro (by have := HN.out; omega) ⟨⟨fun h => (by cases h), fun ⟨x, hx, _⟩ => (by have := (List.getElem?_eq_some_iff.1 hx).1; have := HN.out; omega)⟩, HS.out.1⟩), HS.out.2⟩

set_option maxHeartbeats 1000000 in
theorem at_any (w : World) (v : Value) (t : List It) (p : ByteArray) (h : IRow Any w v t) (hl : t.length ≤ 100000) :
    Calls Tryz.prog 29 #[v, .string p] w fun e w' => AtAns t p e ∧ Kp No w w' := by
  have HB := hid (bsearch_any w v t p h hl)
  clear h
  go_enter Tryz.func29, Tryz.ntmps29
  go_wp2_with (go_at_call 51; refine HB.out.mono ?_; rintro e w1 ⟨⟨i, b, rfl, ha⟩, hk⟩; have HA := hid ha; have HK := hid hk; clear ha hk)
  go_ret2
  exact ⟨AtAns.mk i b rfl HA.out, HK.out⟩

end Go.Proofs.YtdooiflmjeibdaaGreatDoor.Tr
end

section
/-
  What keeps a directory from holding a path; which items are wrong; which trees are right; Find.
-/
namespace Go.Proofs.YtdooiflmjeibdaaGreatDoor.Tr
open Go.RowKit

theorem extract_le (s : ByteArray) (a b : Nat) : (s.extract a b).size ≤ s.size := by
  rw [ByteArray.size_extract]
  omega
theorem splitS_le (s : ByteArray) : (splitS s).1.size ≤ s.size := by
  unfold splitS
  split
  · exact extract_le _ _ _
  · exact Nat.zero_le _
theorem isEmpty_no {s : ByteArray} (h : s ≠ ⟨#[]⟩) : s.toList.isEmpty = false := by rw [List.isEmpty_eq_false_iff]; exact fun e => h (tl_eq.2 e)
/-- What stands in a row that is read. -/
def Cells (w : World) (g o : Nat) (t : List It) : Prop := ∀ V, Kp No w V → ∀ i x, t[i]? = some x → ∃ u, V.cell? ⟨g, o + i * 3, none⟩ = some (.string x.1) ∧ V.cell? ⟨g, o + i * 3 + 1, none⟩ = some (.bool x.2.1) ∧ V.cell? ⟨g, o + i * 3 + 2, none⟩ = some u ∧ ByP Any V u x.2.2
theorem IRow.cells {w : World} {v : Value} {t : List It} (h : IRow Any w v t) (hne : t ≠ []) : ∃ g o cap, v = .slice (some ⟨g, o, none⟩) t.length cap ∧ Cells w g o t := by
  obtain ⟨a, cap, rfl, h1, h2, h3, h4⟩ := h
  obtain ⟨g, o, rfl, hg, hl, hc⟩ := h4 hne
  refine ⟨g, o, cap, rfl, fun V k i x hx => ?_⟩
  obtain ⟨u, c0, c1, c2, hb⟩ := (hc i x hx).kp k (fun _ h => h.elim) hg hl
  exact ⟨u, c0, c1, c2, hb⟩

theorem at_no (w : World) (v : Value) (t : List It) (p : ByteArray) (h : IRow Any w v t) (hl : t.length ≤ 100000) (hr : risesB t = true) (hn : look t p = none) :
    Calls Tryz.prog 29 #[v, .string p] w fun e w' => ∃ i : Nat, e = .returned (.tuple #[.int .i64 (i : Int), .bool false]) ∧ (i ≤ t.length ∧ Half t p i i) ∧ Kp No w w' :=
  (at_any w v t p h hl).mono (fun e w' ⟨⟨i, b, he, ha⟩, hk⟩ => by
    cases b with
    | false => exact ⟨i, he, ⟨ha.1, ha.2.2 hr⟩, hk⟩
    | true =>
      obtain ⟨x, _, _, hx⟩ := ha.found hr
      rw [hn] at hx
      cases hx)
theorem at_yes (w : World) (v : Value) (t : List It) (p : ByteArray) (x : It) (h : IRow Any w v t) (hl : t.length ≤ 100000) (hr : risesB t = true) (hn : look t p = some x) :
    Calls Tryz.prog 29 #[v, .string p] w fun e w' => ∃ i : Nat, e = .returned (.tuple #[.int .i64 (i : Int), .bool true]) ∧ (i < t.length ∧ t[i]? = some x) ∧ Kp No w w' :=
  (at_any w v t p h hl).mono (fun e w' ⟨⟨i, b, he, ha⟩, hk⟩ => by
    cases b with
    | false =>
      rw [ha.lost hr] at hn
      cases hn
    | true =>
      obtain ⟨y, hy, _, hx⟩ := ha.found hr
      rw [hn] at hx
      cases hx
      exact ⟨i, he, ⟨(List.getElem?_eq_some_iff.1 hy).1, hy⟩, hk⟩)

set_option maxHeartbeats 2000000 in
theorem home_any (w : World) (v : Value) (t : List It) (p : ByteArray) (h : IRow Any w v t) (hl : t.length ≤ 100000) (hp : p.size ≤ 1000000) (hr : risesB t = true) :
    Calls Tryz.prog 49 #[v, .string p] w fun e w' => e = .returned (.int .i64 (homeF t p)) ∧ Kp No w w' := by
  have HI := hid h
  have HS := fun W => split_any p hp W
  have HF : Hid (homeF t p = if (splitS p).1 = ⟨#[]⟩ then 0 else match look t (splitS p).1 with | none => 5 | some x => if x.2.1 then 0 else 7) := rfl
  generalize (splitS p).1 = d at *
  generalize (splitS p).2 = e at *
  by_cases hd : d = ⟨#[]⟩
  · subst hd
    rw [HF.out, if_pos rfl]
    go_enter Tryz.func49, Tryz.ntmps49
    go_wp2_with (go_at_call 64; refine (HS _).mono ?_; rintro e w1 ⟨rfl, hk⟩; have HK := hid hk; clear hk)
    go_ret
    exact ⟨rfl, HK.out⟩
  · have b0 := isEmpty_no hd
    rw [HF.out, if_neg hd]
    cases e : look t d with
    | none =>
      have HA := hid (fun (V : World) (k : Kp No w V) => at_no V v t d (h.kept k) hl hr e)
      clear HF h e hd
      go_enter Tryz.func49, Tryz.ntmps49
      go_wp2_with (first | (go_at_call 64; refine (HS _).mono ?_; rintro e w1 ⟨rfl, hk⟩; have HK := hid hk; clear hk) | (go_at_call 29; refine (HA.out _ HK.out).mono ?_; rintro e w2 ⟨i, rfl, _, hk⟩; have HK2 := hid hk; clear hk))
      go_ret
      exact ⟨rfl, HK.out.andNone HK2.out⟩
    | some x =>
      have HA := hid (fun (V : World) (k : Kp No w V) => at_yes V v t d x (h.kept k) hl hr e)
      obtain ⟨g, o, cap, rfl, hc⟩ := h.cells (by rintro rfl; simp [look] at e)
      have HC := hid hc
      obtain ⟨n, hn⟩ : ∃ n, t.length = n := ⟨_, rfl⟩
      rw [hn] at hl HI HA ⊢
      clear HF h e hd hc hn
      cases hx : x.2.1
      all_goals
        simp only [hx, if_true, if_false, Bool.false_eq_true]
        go_enter Tryz.func49, Tryz.ntmps49
        go_wp2_with (first | (go_at_call 64; refine (HS _).mono ?_; rintro e w1 ⟨rfl, hk⟩; have HK := hid hk; clear hk) | (go_at_call 29; refine (HA.out _ HK.out).mono ?_; rintro e w2 ⟨i, rfl, ⟨hi, hxi⟩, hk⟩; have HK2 := hid (HK.out.andNone hk); obtain ⟨u, c0, c1, c2, _⟩ := HC.out _ HK2.out i x hxi; rw [hx] at c1; have hiI : (i : Int) < (n : Int) := by omega))
        go_ret
        exact ⟨rfl, HK2.out⟩

set_option maxHeartbeats 1000000 in
theorem has_no (w : World) (v : Value) (t : List It) (p : ByteArray) (h : IRow Any w v t) (hl : t.length ≤ 100000) (hr : risesB t = true) (e : look t p = none) :
    Calls Tryz.prog 27 #[v, .string p] w fun e w' => e = .returned (.bool false) ∧ Kp No w w' := by
  have HA := hid (at_no w v t p h hl hr e)
  clear e h hr
  go_enter Tryz.func27, Tryz.ntmps27
  go_wp2_with (go_at_call 29; refine HA.out.mono ?_; rintro e w2 ⟨i, rfl, _, hk⟩; have HK2 := hid hk; clear hk)
  go_ret
  exact ⟨rfl, HK2.out⟩
set_option maxHeartbeats 1000000 in
theorem has_yes (w : World) (v : Value) (t : List It) (p : ByteArray) (x : It) (h : IRow Any w v t) (hl : t.length ≤ 100000) (hr : risesB t = true) (e : look t p = some x) :
    Calls Tryz.prog 27 #[v, .string p] w fun e w' => e = .returned (.bool true) ∧ Kp No w w' := by
  have HA := hid (at_yes w v t p x h hl hr e)
  clear e h hr
  go_enter Tryz.func27, Tryz.ntmps27
  go_wp2_with (go_at_call 29; refine HA.out.mono ?_; rintro e w2 ⟨i, rfl, _, hk⟩; have HK2 := hid hk; clear hk)
  go_ret
  exact ⟨rfl, HK2.out⟩

/-- A short item. -/
def ShortI (x : It) : Prop := x.1.size ≤ 10000 ∧ x.2.2.length ≤ 10000

set_option maxHeartbeats 2000000 in
theorem wrong_any (w : World) (v u : Value) (t : List It) (x : It) (h : IRow Any w v t) (hl : t.length ≤ 100000) (hr : risesB t = true) (hu : ByP Any w u x.2.2) (hx : ShortI x) :
    Calls Tryz.prog 25 #[v, .agg #[.string x.1, .bool x.2.1, u]] w fun e w' => e = .returned (.bool (wrongB t x)) ∧ Kp No w w' := by
  obtain ⟨s, d, bs⟩ := x
  have HP := fun W => path_any s (by have := hx.1; simp only at this; omega) W
  have HH := hid (fun (V : World) (k : Kp No w V) => home_any V v t s (h.kept k) hl (by have := hx.1; simp only at this; omega) hr)
  have HW : Hid (wrongB t (s, d, bs) = (!(pathB (tx s)) || !(decide (homeF t s = 0)) || decide ((if d then 0 else 2000) < bs.length))) := rfl
  rw [HW.out]
  obtain ⟨a, cap, rfl, h2, h3, h4, h5, h6, h7⟩ := hu
  clear h h4 h5 h6 h7 HW
  have hbl : bs.length ≤ 10000 := hx.2
  generalize homeF t s = f at *
  obtain ⟨n, hn⟩ : ∃ n, bs.length = n := ⟨_, rfl⟩
  simp only at h2
  rw [hn] at h2 hbl ⊢
  clear hn hx
  cases hb : pathB (tx s) with
  | false =>
    simp only [hb] at HP
    cases d <;>
    · go_enter Tryz.func25, Tryz.ntmps25
      go_wp2_with (go_at_call 36; refine (HP _).mono ?_; rintro e w1 ⟨rfl, hk⟩; have HK := hid (((Kp.refl No _).alloc _).andNone hk); obtain ⟨c0, c1, c2⟩ := box_it w (s, _, bs) _ _ _ hk; have HJ := hid hk; clear hk)
      go_ret
      exact ⟨rfl, HK.out⟩
  | true =>
    simp only [hb] at HP
    by_cases hf : f = 0
    · subst hf
      have e0 : (!decide ((0 : Int) = 0)) = false := rfl
      obtain ⟨m, hm⟩ : ∃ m : Nat, (if d then 0 else 2000) = m := ⟨_, rfl⟩
      rw [hm, e0]
      by_cases hmn : m < n
      · have hmI : (m : Int) < (n : Int) := by omega
        rw [decide_eq_true hmn]
        cases d <;>
        · have hm2 := hm.symm
          simp at hm2
          subst hm2
          clear hm
          go_enter Tryz.func25, Tryz.ntmps25
          go_wp2_with (first | (go_at_call 36; refine (HP _).mono ?_; rintro e w1 ⟨rfl, hk⟩; have HK := hid (((Kp.refl No _).alloc _).andNone hk); obtain ⟨c0, c1, c2⟩ := box_it w (s, _, bs) _ _ _ hk; have HJ := hid hk; clear hk) | (go_at_call 49; refine (HH.out _ HK.out).mono ?_; rintro e w2 ⟨rfl, hk⟩; have HK2 := hid (HK.out.andNone hk); obtain ⟨d0, d1, d2⟩ := box_it w (s, _, bs) _ _ _ (HJ.out.andNone hk); clear hk))
          go_ret
          refine ⟨?_, HK2.out⟩
          first | rfl | exact congrArg (fun b => Ending.returned (.bool b)) (decide_eq_true (show (2000 : Int) < (n : Int) by omega)) | exact congrArg (fun b => Ending.returned (.bool b)) (decide_eq_true (show 0 < n by omega))
      · have hmI : ¬ (m : Int) < (n : Int) := by omega
        rw [decide_eq_false hmn]
        cases d <;>
        · have hm2 := hm.symm
          simp at hm2
          subst hm2
          clear hm
          go_enter Tryz.func25, Tryz.ntmps25
          go_wp2_with (first | (go_at_call 36; refine (HP _).mono ?_; rintro e w1 ⟨rfl, hk⟩; have HK := hid (((Kp.refl No _).alloc _).andNone hk); obtain ⟨c0, c1, c2⟩ := box_it w (s, _, bs) _ _ _ hk; have HJ := hid hk; clear hk) | (go_at_call 49; refine (HH.out _ HK.out).mono ?_; rintro e w2 ⟨rfl, hk⟩; have HK2 := hid (HK.out.andNone hk); obtain ⟨d0, d1, d2⟩ := box_it w (s, _, bs) _ _ _ (HJ.out.andNone hk); clear hk))
          go_ret
          refine ⟨?_, HK2.out⟩
          first | rfl | exact congrArg (fun b => Ending.returned (.bool b)) (decide_eq_false (show ¬ (2000 : Int) < (n : Int) by omega)) | exact congrArg (fun b => Ending.returned (.bool b)) (decide_eq_false (show ¬ 0 < n by omega))
    · have hf' : (f != 0) = true := by simpa using hf
      have e1 : decide (f = 0) = false := decide_eq_false hf
      rw [e1]
      cases d <;>
      · go_enter Tryz.func25, Tryz.ntmps25
        go_wp2_with (first | (go_at_call 36; refine (HP _).mono ?_; rintro e w1 ⟨rfl, hk⟩; have HK := hid (((Kp.refl No _).alloc _).andNone hk); obtain ⟨c0, c1, c2⟩ := box_it w (s, _, bs) _ _ _ hk; have HJ := hid hk; clear hk) | (go_at_call 49; refine (HH.out _ HK.out).mono ?_; rintro e w2 ⟨rfl, hk⟩; have HK2 := hid (HK.out.andNone hk); obtain ⟨d0, d1, d2⟩ := box_it w (s, _, bs) _ _ _ (HJ.out.andNone hk); clear hk))
        go_ret
        exact ⟨rfl, HK2.out⟩

end Go.Proofs.YtdooiflmjeibdaaGreatDoor.Tr
end

section
/-
  slices.IndexFunc and ContainsFunc over trees; Right; Find.
-/
namespace Go.Proofs.YtdooiflmjeibdaaGreatDoor.Tr
open Go.RowKit

/-- The place of the first one of which pr. -/
def IdxP (t : List It) (pr : It → Bool) (r : Int) : Prop := (r = -1 ∧ ∀ x ∈ t, pr x = false) ∨ ∃ (i : Nat) (x : It), r = (i : Int) ∧ t[i]? = some x ∧ pr x = true ∧ ∀ j y, j < i → t[j]? = some y → pr y = false
def IdxAns (t : List It) (pr : It → Bool) (e : Ending) : Prop := ∃ r : Int, e = .returned (.int .i64 r) ∧ IdxP t pr r
theorem IdxAns.mk {t : List It} {pr : It → Bool} {e : Ending} (r : Int) (h : e = .returned (.int .i64 r)) (ha : IdxP t pr r) : IdxAns t pr e := ⟨r, h, ha⟩
theorem idx_some {t : List It} {pr : It → Bool} {i : Nat} {x : It} (hx : t[i]? = some x) (h1 : pr x = true) (h : ∀ j y, j < i → t[j]? = some y → pr y = false) : IdxP t pr i := .inr ⟨i, x, rfl, hx, h1, h⟩
theorem idx_none {t : List It} {pr : It → Bool} {n : Nat} (hn : t.length ≤ n) (h : ∀ j y, j < n → t[j]? = some y → pr y = false) : IdxP t pr (-1) := .inl ⟨rfl, fun x hx => by
  obtain ⟨j, hj⟩ := List.mem_iff_getElem?.1 hx
  exact h j x (by have := (List.getElem?_eq_some_iff.1 hj).1; omega) hj⟩
theorem IdxP.any {t : List It} {pr : It → Bool} {r : Int} (h : IdxP t pr r) : decide (0 ≤ r) = t.any pr := by
  rcases h with ⟨rfl, h⟩ | ⟨i, x, rfl, hx, h1, _⟩
  · have : t.any pr = false := List.any_eq_false.2 (fun x hx => by rw [h x hx]; simp)
    rw [this]
    rfl
  · have : t.any pr = true := List.any_eq_true.2 ⟨x, List.mem_of_getElem? hx, h1⟩
    rw [this]
    exact decide_eq_true (by omega)
theorem IdxP.find {t : List It} {p : ByteArray} {r : Int} (h : IdxP t (fun x => decide (x.1 = p)) r) : (r = -1 ∧ look t p = none) ∨ ∃ (i : Nat) (x : It), r = (i : Int) ∧ t[i]? = some x ∧ look t p = some x := by
  rcases h with ⟨rfl, h⟩ | ⟨i, x, rfl, hx, h1, h2⟩
  · exact .inl ⟨rfl, List.find?_eq_none.2 (fun x hx => by have := h x hx; simpa using this)⟩
  · refine .inr ⟨i, x, rfl, hx, ?_⟩
    obtain ⟨hi, rfl⟩ := List.getElem?_eq_some_iff.1 hx
    rw [look, List.find?_eq_some_iff_append]
    refine ⟨h1, t.take i, t.drop (i + 1), ?_, fun y hy => ?_⟩
    · rw [← List.drop_eq_getElem_cons hi, List.take_append_drop]
    · obtain ⟨j, hj⟩ := List.mem_iff_getElem?.1 hy
      have hji : j < i := by
        have := (List.getElem?_eq_some_iff.1 hj).1
        rw [List.length_take] at this
        omega
      rw [List.getElem?_take_of_lt hji] at hj
      have := h2 j y hji hj
      simpa using this


set_option maxHeartbeats 4000000 in
theorem index_wrong (w : World) (v : Value) (t : List It)  (h : IRow Any w v t) (hl : t.length ≤ 100000)
    (hf : ∀ (V : World) (x : It) (u : Value), Kp No w V → x ∈ t → ByP Any V u x.2.2 → Calls Tryz.prog 25 #[v, .agg #[.string x.1, .bool x.2.1, u]] V fun e w' => e = .returned (.bool (wrongB t x)) ∧ Kp No V w') :
    Calls Tryz.prog 30 #[v, .func (.func 25) #[v] #[]] w fun e w' => IdxAns t (wrongB t) e ∧ Kp No w w' := by
  have HF := hid hf
  obtain ⟨pr, hpr⟩ : ∃ pr : It → Bool, (wrongB t) = pr := ⟨_, rfl⟩
  rw [hpr] at HF ⊢
  have HI := hid h
  obtain ⟨a, cap, rfl, hform⟩ := h.form
  obtain ⟨n, hn⟩ : ∃ n, t.length = n := ⟨_, rfl⟩
  have HN := hid hn
  rw [hn] at hl HI ⊢
  try rw [hn] at HF
  have hcl := hid (fun (hne : t ≠ []) => h.cells hne)
  rw [hn] at hcl
  clear hn h hf hpr hform
  go_enter Tryz.func30, Tryz.ntmps30
  go_wp2_with fail
  go_loopw [8] (fun x wr => ∃ i : Nat, x = .int .i64 i ∧ i ≤ n ∧ Hid ((∀ j y, j < i → t[j]? = some y → pr y = false) ∧ Kp No w wr)) (fun x _ => n - (intOf x).toNat)
  case atStart => exact ⟨0, rfl, Nat.zero_le _, fun j y h => absurd h (Nat.not_lt_zero _), Kp.refl _ _⟩
  case round =>
    obtain ⟨i, rfl, hi, HS⟩ := hrel
    by_cases hlt : i < n
    · have hltI : (i : Int) < (n : Int) := by omega
      have hi0 : (0 : Int) ≤ (i : Int) := by omega
      obtain ⟨x, hx⟩ : ∃ x, t[i]? = some x := ⟨_, List.getElem?_eq_getElem (by rw [HN.out]; omega)⟩
      have HX := hid hx
      obtain ⟨g, o, c', e, hc⟩ := hcl.out (by rintro rfl; simp at hx)
      cases e
      obtain ⟨u, c0, c1, c2, hb⟩ := hc _ HS.out.2 i x hx
      have HC := hid (HF.out wr x u HS.out.2 (List.mem_of_getElem? hx) hb)
      clear hx hc hb
      cases hp : pr x with
      | true =>
        rw [hp] at HC
        have HP := hid hp
        clear hp
        go_wp2_with (go_at_call 25; refine HC.out.mono ?_; rintro e w1 ⟨rfl, hk⟩; have HK1 := hid hk; clear hk)
        go_ret
        exact ⟨IdxAns.mk i rfl (idx_some HX.out HP.out HS.out.1), HS.out.2.andNone HK1.out⟩
      | false =>
        rw [hp] at HC
        have HP := hid hp
        clear hp
        go_wp2_with (go_at_call 25; refine HC.out.mono ?_; rintro e w1 ⟨rfl, hk⟩; have HK1 := hid hk; clear hk)
        go_roundw
        case rel => exact ⟨i + 1, by go_num, by omega, fun j y hj hy => by
          by_cases e : j = i
          · subst e
            have := HX.out
            rw [hy] at this
            cases this
            exact HP.out
          · exact HS.out.1 j y (by omega) hy, HS.out.2.andNone HK1.out⟩
        case measure => simp [intOf] <;> omega
    · have hltI : ¬ (i : Int) < (n : Int) := by omega
      go_wp2
      go_ret
      exact ⟨IdxAns.mk (-1) rfl (idx_none (n := i) (by rw [HN.out]; omega) HS.out.1), HS.out.2⟩

set_option maxHeartbeats 1000000 in
theorem find1_any (w : World) (s p : ByteArray) (d : Bool) (v : Value) (b : Nat) (hb : w.cell? ⟨b, 0, none⟩ = some (.string p)) :
    Calls Tryz.prog 31 #[.agg #[.string s, .bool d, v], .pointer (some ⟨b, 0, none⟩)] w fun e w' => e = .returned (.bool (decide (s = p))) ∧ Kp No w w' := by
  have hbl : b < w.heap.size := World.block_lt_of_cell? _ _ hb
  have e1 : (s.toList == p.toList) = decide (s = p) := by
    rw [Bool.eq_iff_iff, beq_iff_eq, decide_eq_true_eq, ByteArray.toList_eq, ByteArray.toList_eq, ba_eq]
  go_enter Tryz.func31, Tryz.ntmps31
  go_wp2
  go_ret
  refine ⟨?_, (Kp.refl _ _).alloc _⟩
  first | rfl | (rw [← e1]; rfl)

set_option maxHeartbeats 4000000 in
theorem index_find (w : World) (v : Value) (t : List It) (p : ByteArray) (b : Nat) (h : IRow Any w v t) (hl : t.length ≤ 100000)
    (hf : ∀ (V : World) (x : It) (u : Value), Kp No w V → x ∈ t → ByP Any V u x.2.2 → Calls Tryz.prog 31 #[.agg #[.string x.1, .bool x.2.1, u], .pointer (some ⟨b, 0, none⟩)] V fun e w' => e = .returned (.bool ((fun x : It => decide (x.1 = p)) x)) ∧ Kp No V w') :
    Calls Tryz.prog 30 #[v, .func (.func 31) #[] #[.pointer (some ⟨b, 0, none⟩)]] w fun e w' => IdxAns t (fun x => decide (x.1 = p)) e ∧ Kp No w w' := by
  have HF := hid hf
  obtain ⟨pr, hpr⟩ : ∃ pr : It → Bool, (fun x => decide (x.1 = p)) = pr := ⟨_, rfl⟩
  rw [hpr] at HF ⊢
  have HI := hid h
  obtain ⟨a, cap, rfl, hform⟩ := h.form
  obtain ⟨n, hn⟩ : ∃ n, t.length = n := ⟨_, rfl⟩
  have HN := hid hn
  rw [hn] at hl HI ⊢
  try rw [hn] at HF
  have hcl := hid (fun (hne : t ≠ []) => h.cells hne)
  rw [hn] at hcl
  clear hn h hf hpr hform
  go_enter Tryz.func30, Tryz.ntmps30
  go_wp2_with fail
  go_loopw [8] (fun x wr => ∃ i : Nat, x = .int .i64 i ∧ i ≤ n ∧ Hid ((∀ j y, j < i → t[j]? = some y → pr y = false) ∧ Kp No w wr)) (fun x _ => n - (intOf x).toNat)
  case atStart => exact ⟨0, rfl, Nat.zero_le _, fun j y h => absurd h (Nat.not_lt_zero _), Kp.refl _ _⟩
  case round =>
    obtain ⟨i, rfl, hi, HS⟩ := hrel
    by_cases hlt : i < n
    · have hltI : (i : Int) < (n : Int) := by omega
      have hi0 : (0 : Int) ≤ (i : Int) := by omega
      obtain ⟨x, hx⟩ : ∃ x, t[i]? = some x := ⟨_, List.getElem?_eq_getElem (by rw [HN.out]; omega)⟩
      have HX := hid hx
      obtain ⟨g, o, c', e, hc⟩ := hcl.out (by rintro rfl; simp at hx)
      cases e
      obtain ⟨u, c0, c1, c2, hb⟩ := hc _ HS.out.2 i x hx
      have HC := hid (HF.out wr x u HS.out.2 (List.mem_of_getElem? hx) hb)
      clear hx hc hb
      cases hp : pr x with
      | true =>
        rw [hp] at HC
        have HP := hid hp
        clear hp
        go_wp2_with (go_at_call 31; refine HC.out.mono ?_; rintro e w1 ⟨rfl, hk⟩; have HK1 := hid hk; clear hk)
        go_ret
        exact ⟨IdxAns.mk i rfl (idx_some HX.out HP.out HS.out.1), HS.out.2.andNone HK1.out⟩
      | false =>
        rw [hp] at HC
        have HP := hid hp
        clear hp
        go_wp2_with (go_at_call 31; refine HC.out.mono ?_; rintro e w1 ⟨rfl, hk⟩; have HK1 := hid hk; clear hk)
        go_roundw
        case rel => exact ⟨i + 1, by go_num, by omega, fun j y hj hy => by
          by_cases e : j = i
          · subst e
            have := HX.out
            rw [hy] at this
            cases this
            exact HP.out
          · exact HS.out.1 j y (by omega) hy, HS.out.2.andNone HK1.out⟩
        case measure => simp [intOf] <;> omega
    · have hltI : ¬ (i : Int) < (n : Int) := by omega
      go_wp2
      go_ret
      exact ⟨IdxAns.mk (-1) rfl (idx_none (n := i) (by rw [HN.out]; omega) HS.out.1), HS.out.2⟩

set_option maxHeartbeats 1000000 in
theorem contains_any (w : World) (v : Value) (t : List It) (h : IRow Any w v t) (hl : t.length ≤ 100000)
    (hf : ∀ (V : World) (x : It) (u : Value), Kp No w V → x ∈ t → ByP Any V u x.2.2 → Calls Tryz.prog 25 #[v, .agg #[.string x.1, .bool x.2.1, u]] V fun e w' => e = .returned (.bool (wrongB t x)) ∧ Kp No V w') :
    Calls Tryz.prog 24 #[v, .func (.func 25) #[v] #[]] w fun e w' => e = .returned (.bool (t.any (wrongB t))) ∧ Kp No w w' := by
  have HA := hid (index_wrong w v t h hl hf)
  clear h hf
  go_enter Tryz.func24, Tryz.ntmps24
  go_wp2_with (go_at_call 30; refine HA.out.mono ?_; rintro e w2 ⟨⟨r, rfl, hr⟩, hk⟩; have HK2 := hid hk; have HR := hid hr; clear hk hr)
  go_ret
  exact ⟨congrArg (fun b => Ending.returned (.bool b)) HR.out.any, HK2.out⟩

set_option maxHeartbeats 2000000 in
/-- Right. -/
theorem right_any (w : World) (v : Value) (t : List It) (h : IRow Any w v t) (hl : t.length ≤ 100000) (hs : ∀ x ∈ t, ShortI x) :
    Calls Tryz.prog 11 #[v] w fun e w' => e = .returned (.bool (rightB t)) ∧ Kp No w w' := by
  have HR : Hid (rightB t = (decide (t.length ≤ 60) && risesB t && !(t.any (wrongB t)))) := rfl
  have HRS := hid (fun (V : World) (k : Kp No w V) => rises_any V v t (h.kept k) hl)
  have HCF := hid (fun (V : World) (k : Kp No w V) (hr : risesB t = true) => contains_any V v t (h.kept k) hl (fun V' x u k' hx hu => wrong_any V' v u t x ((h.kept k).kept k') hl hr hu (hs x hx)))
  obtain ⟨a, cap, rfl, _⟩ := h.form
  obtain ⟨n, hn⟩ : ∃ n, t.length = n := ⟨_, rfl⟩
  rw [HR.out]
  rw [hn] at hl HRS HCF ⊢
  clear h hs HR hn
  by_cases h60 : n ≤ 60
  · have h60I : (n : Int) ≤ 60 := by omega
    rw [decide_eq_true h60]
    cases hr : risesB t with
    | false =>
      simp only [hr] at HRS
      go_enter Tryz.func11, Tryz.ntmps11
      go_wp2_with (go_at_call 23; refine (HRS.out _ (Kp.refl _ _)).mono ?_; rintro e w1 ⟨rfl, hk⟩; have HK := hid hk; clear hk)
      go_ret
      exact ⟨rfl, HK.out⟩
    | true =>
      have HC2 := hid (fun V k => HCF.out V k hr)
      simp only [hr] at HRS
      clear HCF
      generalize t.any (wrongB t) = q at *
      go_enter Tryz.func11, Tryz.ntmps11
      go_wp2_with (first | (go_at_call 23; refine (HRS.out _ (Kp.refl _ _)).mono ?_; rintro e w1 ⟨rfl, hk⟩; have HK := hid hk; clear hk) | (go_at_call 24; refine (HC2.out _ HK.out).mono ?_; rintro e w2 ⟨rfl, hk⟩; have HK2 := hid (HK.out.andNone hk); clear hk))
      go_ret
      exact ⟨rfl, HK2.out⟩
  · have h60I : ¬ (n : Int) ≤ 60 := by omega
    rw [decide_eq_false h60]
    go_enter Tryz.func11, Tryz.ntmps11
    go_wp2
    go_ret
    exact ⟨rfl, Kp.refl _ _⟩

end Go.Proofs.YtdooiflmjeibdaaGreatDoor.Tr
end

section
/-
  Find.
-/
namespace Go.Proofs.YtdooiflmjeibdaaGreatDoor.Tr
open Go.RowKit

abbrev zeroC : List Value := [.string ⟨#[]⟩, .bool false, .slice none 0 0]
theorem find_box (w : World) (p : ByteArray) (t1 t2 : TypeId) : ∀ V, Kp No ((w.alloc (.cells #[.string p] t1)).alloc (.cells #[.string ⟨#[]⟩, .bool false, .slice none 0 0] t2)) V →
    V.cell? ⟨w.heap.size, 0, none⟩ = some (.string p) ∧ Blk V (w.heap.size + 1) t2 zeroC := fun V k => by
  have h1 : Blk (w.alloc (.cells #[.string p] t1)) w.heap.size t1 [.string p] := Blk.new w t1 [.string p]
  have h2 := h1.kp (((Kp.refl No _).alloc _).andNone k) (fun h => h)
  have h3 : Blk ((w.alloc (.cells #[.string p] t1)).alloc (.cells #[.string ⟨#[]⟩, .bool false, .slice none 0 0] t2)) (w.alloc (.cells #[.string p] t1)).heap.size t2 zeroC := Blk.new _ t2 zeroC
  have h4 := h3.kp k (fun h => h)
  refine ⟨h2.cell 0, ?_⟩
  simpa using h4
theorem rets2 (b : Nat) (V : World) (t : TypeId) (x y z : Value) (h : Blk V b t [x, y, z]) : V.cell? ⟨b, 0, none⟩ = some x ∧ V.cell? ⟨b, 1, none⟩ = some y ∧ V.cell? ⟨b, 2, none⟩ = some z := ⟨h.cell 0, h.cell 1, h.cell 2⟩


set_option maxHeartbeats 4000000 in
theorem find_no_r (w : World) (v : Value) (t : List It) (p : ByteArray) (h : IRow Any w v t) (hl : t.length ≤ 100000) (hn : look t p = none) (hr : risesB t = true) :
    Calls Tryz.prog 14 #[v, .string p] w fun e w' => e = .returned (.tuple #[.agg #[.string ⟨#[]⟩, .bool false, .slice none 0 0], .bool false]) ∧ Kp No w w' := by
  have HA := hid (fun (V : World) (k : Kp No w V) => at_no V v t p (h.kept k) hl hr hn)
  have HRS := hid (fun (V : World) (k : Kp No w V) => rises_any V v t (h.kept k) hl)
  have HB0 := hid (find_box w p 9 41)
  have HK0 : Hid (Kp No w ((w.alloc (.cells #[.string p] 9)).alloc (.cells #[.string ⟨#[]⟩, .bool false, .slice none 0 0] 41))) := ((Kp.refl No w).alloc _).alloc _
  obtain ⟨a, cap, rfl, _⟩ := h.form
  obtain ⟨n, hN⟩ : ∃ n, t.length = n := ⟨_, rfl⟩
  have HNN := hid hN
  simp only [hr] at HRS
  rw [hN] at hl HA HRS ⊢
  have HNO := hid hn
  clear h hn hr hN
  go_enter Tryz.func14, Tryz.ntmps14
  go_wp2_with (first | (go_at_call 29; refine (HA.out _ HK0.out).mono ?_; rintro e w1 ⟨i, rfl, _, hk⟩; have HK1 := hid (HK0.out.andNone hk); have HB1 := hid (HB0.out _ hk); have d1 := HB1.out.1; have HJ1 := hid hk; clear hk) | (go_at_call 23; refine (HRS.out _ HK1.out).mono ?_; rintro e w2 ⟨rfl, hk⟩; have HK2 := hid (HK1.out.andNone hk); have HB2 := hid (HB0.out _ (HJ1.out.andNone hk)); have HJ2 := hid (HJ1.out.andNone hk); obtain ⟨q0, q1, q2⟩ := rets2 _ _ _ _ _ _ HB2.out.2; have f0 := HB2.out.2.frozen 0; have f1 := HB2.out.2.frozen 1; have f2 := HB2.out.2.frozen 2; have z0 := HB2.out.1; clear hk))
  have HW := hid ((((HB2.out.2).setCell 0 (.string ⟨#[]⟩)).setCell 1 (.bool false)).setCell 2 (.slice none 0 0))
  have HKW := hid (Kp.set3 w2 (w.heap.size + 1) (.string ⟨#[]⟩) (.bool false) (.slice none 0 0))
  generalize (((w2.setCell ⟨w.heap.size + 1, 0, none⟩ (.string ⟨#[]⟩)).setCell ⟨w.heap.size + 1, 1, none⟩ (.bool false)).setCell ⟨w.heap.size + 1, 2, none⟩ (.slice none 0 0)) = w9 at *
  obtain ⟨y0, y1, y2⟩ := rets2 _ _ _ _ _ _ HW.out
  have HEND : Hid (Kp No w w9) := HK2.out.trans HKW.out (fun b hb => .inr (by omega))
  clear q0 q1 q2 f0 f1 f2
  exact bodyPost_ret (v := .tuple #[.agg #[.string ⟨#[]⟩, .bool false, .slice none 0 0], .bool false]) (by simp [results, Tryz.results14, go_sem, y0, y1, y2]) rfl ⟨rfl, HEND.out⟩

set_option maxHeartbeats 4000000 in
theorem find_no_n (w : World) (v : Value) (t : List It) (p : ByteArray) (h : IRow Any w v t) (hl : t.length ≤ 100000) (hn : look t p = none) (hr : risesB t = false) :
    Calls Tryz.prog 14 #[v, .string p] w fun e w' => e = .returned (.tuple #[.agg #[.string ⟨#[]⟩, .bool false, .slice none 0 0], .bool false]) ∧ Kp No w w' := by
  have HA := hid (fun (V : World) (k : Kp No w V) => at_any V v t p (h.kept k) hl)
  have HRS := hid (fun (V : World) (k : Kp No w V) => rises_any V v t (h.kept k) hl)
  have HIX := hid (fun (V : World) (k : Kp No w V) (hb : V.cell? ⟨w.heap.size, 0, none⟩ = some (.string p)) => index_find V v t p w.heap.size (h.kept k) hl (fun V' x u k' _ _ => find1_any V' x.1 p x.2.1 u w.heap.size ((k'.cell (p := ⟨w.heap.size, 0, none⟩) (World.block_lt_of_cell? _ _ hb) (fun h => h)).trans hb)))
  have HB0 := hid (find_box w p 9 41)
  have HK0 : Hid (Kp No w ((w.alloc (.cells #[.string p] 9)).alloc (.cells #[.string ⟨#[]⟩, .bool false, .slice none 0 0] 41))) := ((Kp.refl No w).alloc _).alloc _
  obtain ⟨a, cap, rfl, _⟩ := h.form
  obtain ⟨n, hN⟩ : ∃ n, t.length = n := ⟨_, rfl⟩
  have HNN := hid hN
  simp only [hr] at HRS
  rw [hN] at hl HA HRS HIX ⊢
  have HNO := hid hn
  clear h hn hr hN
  go_enter Tryz.func14, Tryz.ntmps14
  go_wp2_with (first | (go_at_call 29; refine (HA.out _ HK0.out).mono ?_; rintro e w1 ⟨⟨i0, b0, rfl, _⟩, hk⟩; have HK1 := hid (HK0.out.andNone hk); have HB1 := hid (HB0.out _ hk); have d1 := HB1.out.1; have HJ1 := hid hk; clear hk) | (go_at_call 23; refine (HRS.out _ HK1.out).mono ?_; rintro e w2 ⟨rfl, hk⟩; have HK2 := hid (HK1.out.andNone hk); have HB2 := hid (HB0.out _ (HJ1.out.andNone hk)); have HJ2 := hid (HJ1.out.andNone hk); obtain ⟨q0, q1, q2⟩ := rets2 _ _ _ _ _ _ HB2.out.2; have f0 := HB2.out.2.frozen 0; have f1 := HB2.out.2.frozen 1; have f2 := HB2.out.2.frozen 2; have z0 := HB2.out.1; clear hk) | (go_at_call 30; refine (HIX.out _ HK2.out HB2.out.1).mono ?_; rintro e w3 ⟨⟨r, rfl, hr⟩, hk⟩; have HK3 := hid (HK2.out.andNone hk); have HB3 := hid (HB0.out _ (HJ2.out.andNone hk)); have HJ3 := hid (HJ2.out.andNone hk); clear q0 q1 q2 f0 f1 f2 z0; obtain ⟨q0, q1, q2⟩ := rets2 _ _ _ _ _ _ HB3.out.2; have f0 := HB3.out.2.frozen 0; have f1 := HB3.out.2.frozen 1; have f2 := HB3.out.2.frozen 2; have hr3 : r = -1 := (by (rcases hr.find with ⟨e, _⟩ | ⟨_, _, _, _, e⟩; exact e; (rw [HNO.out] at e; cases e))); subst hr3; clear hk))
  have HW := hid ((((HB3.out.2).setCell 0 (.string ⟨#[]⟩)).setCell 1 (.bool false)).setCell 2 (.slice none 0 0))
  have HKW := hid (Kp.set3 w3 (w.heap.size + 1) (.string ⟨#[]⟩) (.bool false) (.slice none 0 0))
  generalize (((w3.setCell ⟨w.heap.size + 1, 0, none⟩ (.string ⟨#[]⟩)).setCell ⟨w.heap.size + 1, 1, none⟩ (.bool false)).setCell ⟨w.heap.size + 1, 2, none⟩ (.slice none 0 0)) = w9 at *
  obtain ⟨y0, y1, y2⟩ := rets2 _ _ _ _ _ _ HW.out
  have HEND : Hid (Kp No w w9) := HK3.out.trans HKW.out (fun b hb => .inr (by omega))
  clear q0 q1 q2 f0 f1 f2
  exact bodyPost_ret (v := .tuple #[.agg #[.string ⟨#[]⟩, .bool false, .slice none 0 0], .bool false]) (by simp [results, Tryz.results14, go_sem, y0, y1, y2]) rfl ⟨rfl, HEND.out⟩

set_option maxHeartbeats 4000000 in
theorem find_yes_r (w : World) (v : Value) (t : List It) (p : ByteArray) (x : It) (hx : ShortI x) (h : IRow Any w v t) (hl : t.length ≤ 100000) (hn : look t p = some x) (hr : risesB t = true) :
    Calls Tryz.prog 14 #[v, .string p] w fun e w' => ∃ u, e = .returned (.tuple #[.agg #[.string x.1, .bool x.2.1, u], .bool true]) ∧ ByP Any w' u x.2.2 ∧ Kp No w w' := by
  have HA := hid (fun (V : World) (k : Kp No w V) => at_yes V v t p x (h.kept k) hl hr hn)
  have HRS := hid (fun (V : World) (k : Kp No w V) => rises_any V v t (h.kept k) hl)
  have HB0 := hid (find_box w p 9 41)
  have HK0 : Hid (Kp No w ((w.alloc (.cells #[.string p] 9)).alloc (.cells #[.string ⟨#[]⟩, .bool false, .slice none 0 0] 41))) := ((Kp.refl No w).alloc _).alloc _
  have HL : Hid (x.2.2.length ≤ 20000000) := by have := hx.2; unfold Hid; omega
  obtain ⟨g, o, cap, rfl, hc⟩ := h.cells (by rintro rfl; simp [look] at hn)
  have HC := hid hc
  clear hc hx
  obtain ⟨n, hN⟩ : ∃ n, t.length = n := ⟨_, rfl⟩
  have HNN := hid hN
  simp only [hr] at HRS
  rw [hN] at hl HA HRS ⊢
  have HNO := hid hn
  clear h hn hr hN
  go_enter Tryz.func14, Tryz.ntmps14
  go_wp2_with (first | (go_at_call 29; refine (HA.out _ HK0.out).mono ?_; rintro e w1 ⟨i, rfl, ⟨hi, hxi⟩, hk⟩; have HK1 := hid (HK0.out.andNone hk); have HB1 := hid (HB0.out _ hk); have d1 := HB1.out.1; have HJ1 := hid hk; clear hk) | (go_at_call 23; refine (HRS.out _ HK1.out).mono ?_; rintro e w2 ⟨rfl, hk⟩; have HK2 := hid (HK1.out.andNone hk); have HB2 := hid (HB0.out _ (HJ1.out.andNone hk)); have HJ2 := hid (HJ1.out.andNone hk); obtain ⟨q0, q1, q2⟩ := rets2 _ _ _ _ _ _ HB2.out.2; have f0 := HB2.out.2.frozen 0; have f1 := HB2.out.2.frozen 1; have f2 := HB2.out.2.frozen 2; have z0 := HB2.out.1; have hiI : (i : Int) < (n : Int) := (by omega); have hi0 : (0 : Int) ≤ (i : Int) := (by omega); obtain ⟨u, c0, c1, c2, hu⟩ := HC.out _ HK2.out i x hxi; have HU := hid hu; clear hu; clear hk) | (go_at_call 32; refine (clone_it _ _ _ HU.out HL.out).mono ?_; rintro e w4 ⟨u', rfl, ho, hn, hk⟩; obtain ⟨a4, cp4, hu4, _⟩ := ho.shape; subst hu4; have HO := hid ho; have HN4 := hid hn; have HK4 := hid (HK2.out.andNone hk); have HB4 := hid (HB0.out _ (HJ2.out.andNone hk)); have HJ4 := hid (HJ2.out.andNone hk); clear ho hn hk q0 q1 q2 f0 f1 f2; obtain ⟨q0, q1, q2⟩ := rets2 _ _ _ _ _ _ HB4.out.2; have f0 := HB4.out.2.frozen 0; have f1 := HB4.out.2.frozen 1; have f2 := HB4.out.2.frozen 2))
  have HW := hid ((((HB4.out.2).setCell 0 (.string x.1)).setCell 1 (.bool x.2.1)).setCell 2 (.slice a4 x.2.2.length cp4))
  have HKW := hid (Kp.set3 w4 (w.heap.size + 1) (.string x.1) (.bool x.2.1) (.slice a4 x.2.2.length cp4))
  generalize (((w4.setCell ⟨w.heap.size + 1, 0, none⟩ (.string x.1)).setCell ⟨w.heap.size + 1, 1, none⟩ (.bool x.2.1)).setCell ⟨w.heap.size + 1, 2, none⟩ (.slice a4 x.2.2.length cp4)) = w9 at *
  obtain ⟨y0, y1, y2⟩ := rets2 _ _ _ _ _ _ HW.out
  have HEND : Hid (Kp No w w9) := HK4.out.trans HKW.out (fun b hb => .inr (by omega))
  clear q0 q1 q2 f0 f1 f2
  refine bodyPost_ret (v := .tuple #[.agg #[.string x.1, .bool x.2.1, .slice a4 x.2.2.length cp4], .bool true]) (by simp [results, Tryz.results14, go_sem, y0, y1, y2]) rfl ⟨_, rfl, ?_, HEND.out⟩
  have hp := OwnB.byP (P := fun b => b ≠ w.heap.size + 1) HO.out (fun b hb e => by
    have h1 := HN4.out b hb
    have h2 := HJ2.out.size
    have h3 : (w.alloc (.cells #[.string p] 9)).heap.size < ((w.alloc (.cells #[.string p] 9)).alloc (.cells #[.string ⟨#[]⟩, .bool false, .slice none 0 0] 41)).heap.size := by simp
    have h4 : w.heap.size + 1 = (w.alloc (.cells #[.string p] 9)).heap.size := by simp
    omega) HL.out (by obtain ⟨_, _, _, _, _, _, _, h6, _⟩ := HU.out; exact h6)
  exact ByP.any (hp.kp HKW.out (fun b hb _ e => e hb))

set_option maxHeartbeats 4000000 in
theorem find_yes_n (w : World) (v : Value) (t : List It) (p : ByteArray) (x : It) (hx : ShortI x) (h : IRow Any w v t) (hl : t.length ≤ 100000) (hn : look t p = some x) (hr : risesB t = false) :
    Calls Tryz.prog 14 #[v, .string p] w fun e w' => ∃ u, e = .returned (.tuple #[.agg #[.string x.1, .bool x.2.1, u], .bool true]) ∧ ByP Any w' u x.2.2 ∧ Kp No w w' := by
  have HA := hid (fun (V : World) (k : Kp No w V) => at_any V v t p (h.kept k) hl)
  have HRS := hid (fun (V : World) (k : Kp No w V) => rises_any V v t (h.kept k) hl)
  have HIX := hid (fun (V : World) (k : Kp No w V) (hb : V.cell? ⟨w.heap.size, 0, none⟩ = some (.string p)) => index_find V v t p w.heap.size (h.kept k) hl (fun V' x u k' _ _ => find1_any V' x.1 p x.2.1 u w.heap.size ((k'.cell (p := ⟨w.heap.size, 0, none⟩) (World.block_lt_of_cell? _ _ hb) (fun h => h)).trans hb)))
  have HB0 := hid (find_box w p 9 41)
  have HK0 : Hid (Kp No w ((w.alloc (.cells #[.string p] 9)).alloc (.cells #[.string ⟨#[]⟩, .bool false, .slice none 0 0] 41))) := ((Kp.refl No w).alloc _).alloc _
  have HL : Hid (x.2.2.length ≤ 20000000) := by have := hx.2; unfold Hid; omega
  obtain ⟨g, o, cap, rfl, hc⟩ := h.cells (by rintro rfl; simp [look] at hn)
  have HC := hid hc
  clear hc hx
  obtain ⟨n, hN⟩ : ∃ n, t.length = n := ⟨_, rfl⟩
  have HNN := hid hN
  simp only [hr] at HRS
  rw [hN] at hl HA HRS HIX ⊢
  have HNO := hid hn
  clear h hn hr hN
  go_enter Tryz.func14, Tryz.ntmps14
  go_wp2_with (first | (go_at_call 29; refine (HA.out _ HK0.out).mono ?_; rintro e w1 ⟨⟨i0, b0, rfl, _⟩, hk⟩; have HK1 := hid (HK0.out.andNone hk); have HB1 := hid (HB0.out _ hk); have d1 := HB1.out.1; have HJ1 := hid hk; clear hk) | (go_at_call 23; refine (HRS.out _ HK1.out).mono ?_; rintro e w2 ⟨rfl, hk⟩; have HK2 := hid (HK1.out.andNone hk); have HB2 := hid (HB0.out _ (HJ1.out.andNone hk)); have HJ2 := hid (HJ1.out.andNone hk); obtain ⟨q0, q1, q2⟩ := rets2 _ _ _ _ _ _ HB2.out.2; have f0 := HB2.out.2.frozen 0; have f1 := HB2.out.2.frozen 1; have f2 := HB2.out.2.frozen 2; have z0 := HB2.out.1; clear hk) | (go_at_call 30; refine (HIX.out _ HK2.out HB2.out.1).mono ?_; rintro e w3 ⟨⟨r, rfl, hr⟩, hk⟩; have HK3 := hid (HK2.out.andNone hk); have HB3 := hid (HB0.out _ (HJ2.out.andNone hk)); have HJ3 := hid (HJ2.out.andNone hk); clear q0 q1 q2 f0 f1 f2 z0; obtain ⟨q0, q1, q2⟩ := rets2 _ _ _ _ _ _ HB3.out.2; have f0 := HB3.out.2.frozen 0; have f1 := HB3.out.2.frozen 1; have f2 := HB3.out.2.frozen 2; obtain ⟨i, hri, hi, hxi⟩ : ∃ i : Nat, r = (i : Int) ∧ i < n ∧ t[i]? = some x := (by (rcases hr.find with ⟨_, e⟩ | ⟨i, y, e1, e2, e3⟩; (rw [HNO.out] at e; cases e); (rw [HNO.out] at e3; cases e3; exact ⟨i, e1, (by have := (List.getElem?_eq_some_iff.1 e2).1; have := HNN.out; omega), e2⟩))); subst hri; have hiI : (i : Int) < (n : Int) := (by omega); have hi0 : (0 : Int) ≤ (i : Int) := (by omega); obtain ⟨u, c0, c1, c2, hu⟩ := HC.out _ HK3.out i x hxi; have HU := hid hu; clear hu; clear hk) | (go_at_call 32; refine (clone_it _ _ _ HU.out HL.out).mono ?_; rintro e w4 ⟨u', rfl, ho, hn, hk⟩; obtain ⟨a4, cp4, hu4, _⟩ := ho.shape; subst hu4; have HO := hid ho; have HN4 := hid hn; have HK4 := hid (HK3.out.andNone hk); have HB4 := hid (HB0.out _ (HJ3.out.andNone hk)); have HJ4 := hid (HJ3.out.andNone hk); clear ho hn hk q0 q1 q2 f0 f1 f2; obtain ⟨q0, q1, q2⟩ := rets2 _ _ _ _ _ _ HB4.out.2; have f0 := HB4.out.2.frozen 0; have f1 := HB4.out.2.frozen 1; have f2 := HB4.out.2.frozen 2))
  have HW := hid ((((HB4.out.2).setCell 0 (.string x.1)).setCell 1 (.bool x.2.1)).setCell 2 (.slice a4 x.2.2.length cp4))
  have HKW := hid (Kp.set3 w4 (w.heap.size + 1) (.string x.1) (.bool x.2.1) (.slice a4 x.2.2.length cp4))
  generalize (((w4.setCell ⟨w.heap.size + 1, 0, none⟩ (.string x.1)).setCell ⟨w.heap.size + 1, 1, none⟩ (.bool x.2.1)).setCell ⟨w.heap.size + 1, 2, none⟩ (.slice a4 x.2.2.length cp4)) = w9 at *
  obtain ⟨y0, y1, y2⟩ := rets2 _ _ _ _ _ _ HW.out
  have HEND : Hid (Kp No w w9) := HK4.out.trans HKW.out (fun b hb => .inr (by omega))
  clear q0 q1 q2 f0 f1 f2
  refine bodyPost_ret (v := .tuple #[.agg #[.string x.1, .bool x.2.1, .slice a4 x.2.2.length cp4], .bool true]) (by simp [results, Tryz.results14, go_sem, y0, y1, y2]) rfl ⟨_, rfl, ?_, HEND.out⟩
  have hp := OwnB.byP (P := fun b => b ≠ w.heap.size + 1) HO.out (fun b hb e => by
    have h1 := HN4.out b hb
    have h2 := HJ3.out.size
    have h3 : (w.alloc (.cells #[.string p] 9)).heap.size < ((w.alloc (.cells #[.string p] 9)).alloc (.cells #[.string ⟨#[]⟩, .bool false, .slice none 0 0] 41)).heap.size := by simp
    have h4 : w.heap.size + 1 = (w.alloc (.cells #[.string p] 9)).heap.size := by simp
    omega) HL.out (by obtain ⟨_, _, _, _, _, _, _, h6, _⟩ := HU.out; exact h6)
  exact ByP.any (hp.kp HKW.out (fun b hb _ e => e hb))

/-- What Find answers of a path that is there, or not. -/
theorem find_no (w : World) (v : Value) (t : List It) (p : ByteArray) (h : IRow Any w v t) (hl : t.length ≤ 100000) (hn : look t p = none) :
    Calls Tryz.prog 14 #[v, .string p] w fun e w' => e = .returned (.tuple #[.agg #[.string ⟨#[]⟩, .bool false, .slice none 0 0], .bool false]) ∧ Kp No w w' := by
  cases hr : risesB t with
  | true => exact find_no_r w v t p h hl hn hr
  | false => exact find_no_n w v t p h hl hn hr
theorem find_yes (w : World) (v : Value) (t : List It) (p : ByteArray) (x : It) (hx : ShortI x) (h : IRow Any w v t) (hl : t.length ≤ 100000) (hn : look t p = some x) :
    Calls Tryz.prog 14 #[v, .string p] w fun e w' => ∃ u, e = .returned (.tuple #[.agg #[.string x.1, .bool x.2.1, u], .bool true]) ∧ ByP Any w' u x.2.2 ∧ Kp No w w' := by
  cases hr : risesB t with
  | true => exact find_yes_r w v t p x hx h hl hn hr
  | false => exact find_yes_n w v t p x hx h hl hn hr

end Go.Proofs.YtdooiflmjeibdaaGreatDoor.Tr
end

section
/-
  Rows of items of the call's own.
-/
namespace Go.Proofs.YtdooiflmjeibdaaGreatDoor.Tr
open Go.RowKit

/-- Block g holds cells of that type. -/
def TyAt (w : World) (g : Nat) (t : TypeId) : Prop := ∃ cs fr, w.heap[g]? = some (.cells cs t fr)
theorem TyAt.ne {w : World} {g k : Nat} {s t : TypeId} (h : TyAt w g s) (h' : TyAt w k t) (ne : s ≠ t) : g ≠ k := by
  rintro rfl
  obtain ⟨_, _, h⟩ := h
  obtain ⟨_, _, h'⟩ := h'
  rw [h] at h'
  simp at h'
  exact ne h'.2.1
theorem TyAt.lt {w : World} {g : Nat} {t : TypeId} (h : TyAt w g t) : g < w.heap.size := by
  obtain ⟨_, _, h⟩ := h
  exact (Array.getElem?_eq_some_iff.1 h).1
theorem TyAt.kp {L : Nat → Prop} {w w' : World} {g : Nat} {t : TypeId} (h : TyAt w g t) (k : Kp L w w') (hg : ¬ L g) : TyAt w' g t := by
  have hl := h.lt
  obtain ⟨cs, fr, h⟩ := h
  exact ⟨cs, fr, (k.block g hl hg).trans h⟩
theorem Row.ty {w : World} {e : TypeId} {sz n : Nat} {v : Value} {xs : List Value} (h : Row w e sz v n xs) : ∀ x, v.ownBlock = some x → TyAt w x e := by
  intro x hx
  rcases h.2 with ⟨rfl, _⟩ | ⟨g, cap, cur, rfl, _, hgg, _⟩
  · simp [Value.ownBlock] at hx
  · simp [Value.ownBlock] at hx
    subst hx
    exact ⟨_, _, hgg⟩
theorem Blk.ty {w : World} {b : Nat} {t : TypeId} {cs : List Value} (h : Blk w b t cs) : TyAt w b t := ⟨_, _, h⟩

/-- Bytes in a block of bytes. -/
def ByU (w : World) (v : Value) (bs : List Nat) : Prop := ByP (fun g => TyAt w g 5) w v bs
theorem ByU.any {w : World} {v : Value} {bs : List Nat} (h : ByU w v bs) : ByP Any w v bs := ByP.any h
theorem ByU.kp {L : Nat → Prop} {w w' : World} {v : Value} {bs : List Nat} (h : ByU w v bs) (k : Kp L w w') (hL : ∀ x, L x → x < w.heap.size → ¬ TyAt w x 5) : ByU w' v bs := by
  obtain ⟨a, cap, h1, h2, h3, h4, h5, h6, h7⟩ := h
  refine ⟨a, cap, h1, h2, h3, h4, h5, h6, fun hne => ?_⟩
  obtain ⟨g, o, e, hgb, hg, hc⟩ := h7 hne
  have hn : ¬ L g := fun hx => hL g hx hg hgb
  exact ⟨g, o, e, hgb.kp k hn, Nat.lt_of_lt_of_le hg k.size, fun i hi => (k.cell (p := ⟨g, o + i, none⟩) hg hn).trans (hc i hi)⟩
theorem OwnB.byU {w : World} {v : Value} {xs : List Nat} (h : OwnB w v xs) (hl : xs.length ≤ 20000000) (hx : ∀ x ∈ xs, x < 256) : ByU w v xs := h.byP (fun x e => Row.ty h x e) hl hx
theorem ByP.lt256 {P : Nat → Prop} {w : World} {v : Value} {bs : List Nat} (h : ByP P w v bs) : ∀ x ∈ bs, x < 256 := by obtain ⟨_, _, _, _, _, _, _, h6, _⟩ := h; exact h6

def cellsI : List It → List Value → List Value
  | x :: L, u :: us => itC x u ++ cellsI L us
  | _, _ => []
theorem cellsI_snoc (x : It) (u : Value) : ∀ (L : List It) (us : List Value), us.length = L.length → cellsI (L ++ [x]) (us ++ [u]) = cellsI L us ++ itC x u
  | [], [], _ => by simp [cellsI]
  | [], _ :: _, h => by simp at h
  | _ :: _, [], h => by simp at h
  | y :: L, v :: us, h => by
    simp only [List.cons_append, cellsI, List.append_assoc]
    rw [cellsI_snoc x u L us (by simpa using h)]
theorem cellsI_length : ∀ (L : List It) (us : List Value), us.length = L.length → (cellsI L us).length = L.length * 3
  | [], [], _ => rfl
  | [], _ :: _, h => by simp at h
  | _ :: _, [], h => by simp at h
  | y :: L, v :: us, h => by
    rw [cellsI, List.length_append, cellsI_length L us (by simpa using h)]
    simp [itC]
    omega
theorem cellsI_at : ∀ (L : List It) (us : List Value) (j : Nat) (x : It) (u : Value) (r : Nat), L[j]? = some x → us[j]? = some u → r < 3 → (cellsI L us)[j * 3 + r]? = (itC x u)[r]?
  | [], _, _, _, _, _, h, _, _ => by simp at h
  | _ :: _, [], _, _, _, _, _, h, _ => by simp at h
  | y :: L, v :: us, 0, x, u, r, h1, h2, h3 => by
    simp only [List.getElem?_cons_zero, Option.some.injEq] at h1 h2
    subst h1 h2
    simp only [cellsI, Nat.zero_mul, Nat.zero_add]
    rw [List.getElem?_append_left (by simpa [itC] using h3)]
  | y :: L, v :: us, j + 1, x, u, r, h1, h2, h3 => by
    simp only [List.getElem?_cons_succ] at h1 h2
    simp only [cellsI]
    rw [List.getElem?_append_right (by simp [itC]; omega), ← cellsI_at L us j x u r h1 h2 h3]
    congr 1
    simp [itC]
    omega

/-- v is a row of the call's own, of the items xs, with bytes in blocks of bytes. -/
def IOwn (w : World) (v : Value) (xs : List It) : Prop :=
  ∃ us : List Value, us.length = xs.length ∧ Row w 41 3 v xs.length (cellsI xs us) ∧ ∀ (i : Nat) (x : It) (u : Value), xs[i]? = some x → us[i]? = some u → ByU w u x.2.2 ∧ u.oneCell' = true
theorem IOwn.nil (w : World) : IOwn w (.slice none 0 0) [] := ⟨[], rfl, Row.nil _ _ _, fun i x u h => by simp at h⟩
theorem IOwn.form {w : World} {v : Value} {xs : List It} (h : IOwn w v xs) : ∃ a cap, v = .slice a xs.length cap := by
  obtain ⟨us, _, h, _⟩ := h
  obtain ⟨a, cap, e, _⟩ := Row.shape h
  exact ⟨a, cap, e⟩
theorem IOwn.ty {w : World} {v : Value} {xs : List It} (h : IOwn w v xs) : ∀ x, v.ownBlock = some x → TyAt w x 41 := by
  obtain ⟨us, _, h, _⟩ := h
  exact Row.ty h
theorem IOwn.kp {L : Nat → Prop} {w w' : World} {v : Value} {xs : List It} (h : IOwn w v xs) (k : Kp L w w') (hv : ∀ x, v.ownBlock = some x → ¬ L x) (hL : ∀ x, L x → x < w.heap.size → ¬ TyAt w x 5) : IOwn w' v xs := by
  obtain ⟨us, hl, hr, hb⟩ := h
  exact ⟨us, hl, Row.kp hr k hv, fun i x u hx hu => ⟨(hb i x u hx hu).1.kp k hL, (hb i x u hx hu).2⟩⟩
theorem IOwn.kept {w w' : World} {v : Value} {xs : List It} (h : IOwn w v xs) (k : Kp No w w') : IOwn w' v xs := h.kp k (fun _ _ h => h) (fun _ h => h.elim)
theorem IOwn.row {w : World} {v : Value} {xs : List It} (h : IOwn w v xs) : IRow Any w v xs := by
  obtain ⟨us, hl, hr, hb⟩ := h
  have hr' := hr
  rcases hr.2 with ⟨rfl, h0⟩ | ⟨g, cap, cur, rfl, hg, hh, hn, hc, hs, ht⟩
  · have : xs = [] := List.length_eq_zero_iff.1 h0
    subst this
    exact IRow.nil _ _
  · refine ⟨_, cap, rfl, hn, hc, by simp, fun _ => ⟨g, 0, rfl, trivial, (Array.getElem?_eq_some_iff.1 hh).1, fun i x hi => ?_⟩⟩
    have hil := (List.getElem?_eq_some_iff.1 hi).1
    obtain ⟨u, hu⟩ : ∃ u, us[i]? = some u := ⟨_, List.getElem?_eq_getElem (by omega)⟩
    have hc' := fun r (hr3 : r < 3) => (Row.cellAt hr' (i * 3 + r) (by omega)).trans (cellsI_at xs us i x u r hi hu hr3)
    refine ⟨u, ?_, ?_, ?_, (hb i x u hi hu).1.any⟩
    · rw [Nat.zero_add]; exact hc' 0 (by omega)
    · rw [Nat.zero_add]; exact hc' 1 (by omega)
    · rw [Nat.zero_add]; exact hc' 2 (by omega)

theorem Tryz.infoItem : (Tryz.prog.info? 41).map (fun i => (i.zero, i.size, i.bytes)) = some (some (.agg #[.string ⟨#[]⟩, .bool false, .slice none 0 0]), 3, 48) := by kernel_rfl

/-- What lies behind an append to a row of items. -/
theorem IOwn.push {w w' : World} {v v' : Value} {xs : List It} {us : List Value} {x : It} {u : Value} (hus : us.length = xs.length)
    (hb : ∀ (i : Nat) (x : It) (u : Value), xs[i]? = some x → us[i]? = some u → ByU w u x.2.2 ∧ u.oneCell' = true) (hu : ByU w u x.2.2) (h1 : u.oneCell' = true)
    (hv : ∀ b, v.ownBlock = some b → TyAt w b 41) (hr : Row w' 41 3 v' (xs.length + 1) (cellsI xs us ++ itC x u)) (hg : w.grownBy w' v.ownBlock) : IOwn w' v' (xs ++ [x]) := by
  have k : Kp (fun b => v.ownBlock = some b) w w' := Kp.ofGrown hg
  have hL : ∀ b, v.ownBlock = some b → b < w.heap.size → ¬ TyAt w b 5 := fun b hb _ ht => (hv b hb).ne ht (by decide) rfl
  refine ⟨us ++ [u], by simp [hus], ?_, fun i y q hy hq => ?_⟩
  · rw [cellsI_snoc _ _ _ _ hus, List.length_append]
    exact hr
  · by_cases hlt : i < xs.length
    · rw [List.getElem?_append_left hlt] at hy
      rw [List.getElem?_append_left (by omega)] at hq
      exact ⟨(hb i y q hy hq).1.kp k hL, (hb i y q hy hq).2⟩
    · have e : i = xs.length := by
        have := (List.getElem?_eq_some_iff.1 hy).1
        simp at this
        omega
      subst e
      rw [List.getElem?_append_right (Nat.le_refl _)] at hy
      rw [List.getElem?_append_right (by omega)] at hq
      simp [hus] at hy hq
      subst hy hq
      exact ⟨hu.kp k hL, h1⟩

/-- append of one item. -/
theorem app_item {ops : Array Oper} {rest : List Oper} {o : Oper} {a : Act} {Q : Exit → Act → World → Prop} (w w0 : World) (hgd : o.guard = none) (s q : Operand) (ty : TypeId) (hty : Tryz.prog.underlying ty = some (.slice 41))
    (ho : o.op = .call { callee := .builtin .append, args := #[s, q], argTypes := #[ty, ty] }) (v : Value) (xs : List It) (x : It) (u : Value) (hs : a.eval s = v) (hw : w = w0.alloc (.cells #[.string x.1, .bool x.2.1, u] 41)) (hx : a.eval q = .slice (some ⟨w0.heap.size, 0, none⟩) 1 1)
    (hown : IOwn w0 v xs) (hu : ByU w0 u x.2.2) (h1 : u.oneCell' = true) (hlen : xs.length + 1 ≤ 1000000)
    (h : ∀ ad cap w', IOwn w' (.slice ad (xs.length + 1) cap) (xs ++ [x]) → w.grownBy w' v.ownBlock → ((Value.slice ad (xs.length + 1) cap).ownBlock = v.ownBlock ∨ (Value.slice ad (xs.length + 1) cap).ownBlock = some w.heap.size) → wpList Tryz.prog ops Q rest (a.put o.dst (.slice ad (xs.length + 1) cap)) w') : wpList Tryz.prog ops Q (o :: rest) a w := by
  subst hw
  have hk : Kp No w0 (w0.alloc (.cells #[.string x.1, .bool x.2.1, u] 41)) := (Kp.refl _ _).alloc _
  have hty' := hown.ty
  obtain ⟨us, hl, hr, hb⟩ := hown
  refine app_row _ hgd s q ty 41 (.agg #[.string ⟨#[]⟩, .bool false, .slice none 0 0]) 3 48 ho hty Tryz.infoItem rfl (by decide) v _ xs.length 1 (cellsI xs us) (itC x u) hs hx (Row.kept hr hk) (Src.one w0 (itC x u) 3 _ rfl (by
    intro z hz
    simp only [itC, List.mem_cons, List.not_mem_nil, or_false] at hz
    rcases hz with rfl | rfl | rfl
    · rfl
    · rfl
    · exact h1)) (by omega) (by decide) ?_
  intro ad cap w' g1 g2 g3
  exact h ad cap w' (IOwn.push hl (fun i x u hx hu => ⟨(hb i x u hx hu).1.kp hk (fun _ h => h.elim), (hb i x u hx hu).2⟩) (hu.kp hk (fun _ h => h.elim)) h1 (fun b e => (hty' b e).kp hk (fun h => h)) g1 g2) g2 g3

end Go.Proofs.YtdooiflmjeibdaaGreatDoor.Tr
end
