/-
  Items in memory, and rows of them; clone.
-/
import Derived.Test.YtdooiflmjeibdaaDoorTrLess
import Derived.Deep.RegionHeld3
import Derived.Deep.MidRow
namespace Go.Proofs.YtdooiflmjeibdaaDoor.Tr
open Go.RowKit

/-! ### Items -/
/-- An item: its path, whether it is a directory, its bytes. -/
abbrev It : Type := ByteArray × Bool × List Nat
def itC (x : It) (v : Value) : List Value := [.string x.1, .bool x.2.1, v]
/-- At that place stands the item x, its bytes in a block of which P. -/
def ItAt (P : Nat → Prop) (w : World) (g o : Nat) (x : It) : Prop :=
  ∃ v, w.cell? ⟨g, o, none⟩ = some (.string x.1) ∧ w.cell? ⟨g, o + 1, none⟩ = some (.bool x.2.1) ∧ w.cell? ⟨g, o + 2, none⟩ = some v ∧ ByP P w v x.2.2
/-- v is a slice of the items xs, in a block of which P, with bytes in blocks of which P. -/
def IRow (P : Nat → Prop) (w : World) (v : Value) (xs : List It) : Prop :=
  ∃ a cap, v = .slice a xs.length cap ∧ xs.length ≤ cap ∧ cap ≤ maxLen ∧ (a = none → xs = [] ∧ cap = 0) ∧ (xs ≠ [] → ∃ g o, a = some ⟨g, o, none⟩ ∧ P g ∧ g < w.heap.size ∧ ∀ i x, xs[i]? = some x → ItAt P w g (o + i * 3) x)
/-- Few, and short. -/
def Sml (xs : List It) : Prop := xs.length ≤ 1000 ∧ ∀ x ∈ xs, x.1.size ≤ 10000 ∧ x.2.2.length ≤ 10000

theorem ItAt.kp {P L : Nat → Prop} {w w' : World} {g o : Nat} {x : It} (h : ItAt P w g o x) (k : Kp L w w') (hm : ∀ x, L x → x < w.heap.size → ¬ P x) (hg : P g) (hl : g < w.heap.size) : ItAt P w' g o x := by
  obtain ⟨v, h1, h2, h3, h4⟩ := h
  have hn : ¬ L g := fun e => hm g e hl hg
  exact ⟨v, (k.cell (p := ⟨g, o, none⟩) hl hn).trans h1, (k.cell (p := ⟨g, o + 1, none⟩) hl hn).trans h2, (k.cell (p := ⟨g, o + 2, none⟩) hl hn).trans h3, h4.kp k hm⟩
theorem IRow.kp {P L : Nat → Prop} {w w' : World} {v : Value} {xs : List It} (h : IRow P w v xs) (k : Kp L w w') (hm : ∀ x, L x → x < w.heap.size → ¬ P x) : IRow P w' v xs := by
  obtain ⟨a, cap, e, h1, h2, h3, h4⟩ := h
  refine ⟨a, cap, e, h1, h2, h3, fun hne => ?_⟩
  obtain ⟨g, o, e, hg, hl, hx⟩ := h4 hne
  exact ⟨g, o, e, hg, Nat.lt_of_lt_of_le hl k.size, fun i x hi => (hx i x hi).kp k hm hg hl⟩
theorem IRow.kept {P : Nat → Prop} {w w' : World} {v : Value} {xs : List It} (h : IRow P w v xs) (k : Kp No w w') : IRow P w' v xs := h.kp k (fun _ hx => hx.elim)
theorem ItAt.mono {P Q : Nat → Prop} {w : World} {g o : Nat} {x : It} (h : ItAt P w g o x) (hm : ∀ x, x < w.heap.size → P x → Q x) : ItAt Q w g o x := by
  obtain ⟨v, h1, h2, h3, h4⟩ := h
  exact ⟨v, h1, h2, h3, h4.mono hm⟩
theorem IRow.mono {P Q : Nat → Prop} {w : World} {v : Value} {xs : List It} (h : IRow P w v xs) (hm : ∀ x, x < w.heap.size → P x → Q x) : IRow Q w v xs := by
  obtain ⟨a, cap, e, h1, h2, h3, h4⟩ := h
  refine ⟨a, cap, e, h1, h2, h3, fun hne => ?_⟩
  obtain ⟨g, o, e, hg, hl, hx⟩ := h4 hne
  exact ⟨g, o, e, hm g hl hg, hl, fun i x hi => (hx i x hi).mono hm⟩
theorem IRow.nil (P : Nat → Prop) (w : World) : IRow P w (.slice none 0 0) [] := ⟨none, 0, rfl, Nat.le_refl _, Nat.zero_le _, fun _ => ⟨rfl, rfl⟩, fun h => absurd rfl h⟩
def Any : Nat → Prop := fun _ => True
theorem IRow.any {P : Nat → Prop} {w : World} {v : Value} {xs : List It} (h : IRow P w v xs) : IRow Any w v xs := h.mono (fun _ _ _ => trivial)
theorem ByP.any {P : Nat → Prop} {w : World} {v : Value} {bs : List Nat} (h : ByP P w v bs) : ByP Any w v bs := h.mono (fun _ _ _ => trivial)

/-! ### clone -/
/-- The item's parts, at a block of its own. -/
theorem box_it (w : World) (x : It) (v : Value) (t : TypeId) : ∀ V, Kp No (w.alloc (.cells (itC x v).toArray t)) V → V.cell? ⟨w.heap.size, 0, none⟩ = some (.string x.1) ∧ V.cell? ⟨w.heap.size, 1, none⟩ = some (.bool x.2.1) ∧ V.cell? ⟨w.heap.size, 2, none⟩ = some v := fun V k => by
  have hl : w.heap.size < (w.alloc (.cells (itC x v).toArray t)).heap.size := by simp
  refine ⟨(k.cell (p := ⟨w.heap.size, 0, none⟩) hl (fun h => h)).trans ?_, (k.cell (p := ⟨w.heap.size, 1, none⟩) hl (fun h => h)).trans ?_, (k.cell (p := ⟨w.heap.size, 2, none⟩) hl (fun h => h)).trans ?_⟩ <;>
  · rw [World.cell?_alloc_at _ _ _ _ rfl]
    rfl

theorem Kp.set3 (w : World) (b : Nat) (x y z : Value) : Kp (· = b) w (((w.setCell ⟨b, 0, none⟩ x).setCell ⟨b, 1, none⟩ y).setCell ⟨b, 2, none⟩ z) :=
  (((Kp.refl (· = b) w).setCell (p := ⟨b, 0, none⟩) (.inl rfl) x).setCell (p := ⟨b, 1, none⟩) (.inl rfl) y).setCell (p := ⟨b, 2, none⟩) (.inl rfl) z

set_option maxHeartbeats 2000000 in
theorem clone_it (w : World) (x : It) (v : Value) (h : ByP Any w v x.2.2) (hl : x.2.2.length ≤ 20000000) :
    Calls Tryd.prog 23 #[.agg #[.string x.1, .bool x.2.1, v]] w fun e w' => ∃ v', e = .returned (.agg #[.string x.1, .bool x.2.1, v']) ∧ OwnB w' v' x.2.2 ∧ (∀ b, v'.ownBlock = some b → w.heap.size ≤ b) ∧ Kp No w w' := by
  obtain ⟨s, d, bs⟩ := x
  have HB := hid h
  clear h
  have hb : Hid (∀ V, Kp No ((w.alloc (.cells #[.string s, .bool d, v] 33)).alloc (.cells #[.string ⟨#[]⟩, .bool false, .slice none 0 0] 33)) V → V.cell? ⟨w.heap.size, 0, none⟩ = some (.string s) ∧ V.cell? ⟨w.heap.size, 1, none⟩ = some (.bool d) ∧ V.cell? ⟨w.heap.size, 2, none⟩ = some v) := fun V k => box_it w (s, d, bs) v _ V (((Kp.refl No _).alloc _).andNone k)
  have hk0 : Hid (Kp No w ((w.alloc (.cells #[.string s, .bool d, v] 33)).alloc (.cells #[.string ⟨#[]⟩, .bool false, .slice none 0 0] 33))) := ((Kp.refl _ _).alloc _).alloc _
  have hr0 : Hid (∀ V, Kp No ((w.alloc (.cells #[.string s, .bool d, v] 33)).alloc (.cells #[.string ⟨#[]⟩, .bool false, .slice none 0 0] 33)) V → Blk V (w.heap.size + 1) 33 [.string ⟨#[]⟩, .bool false, .slice none 0 0]) := fun V k => by
    have := Blk.new (w.alloc (.cells #[.string s, .bool d, v] 33)) 33 [.string ⟨#[]⟩, .bool false, .slice none 0 0]
    have h2 := this.kp k (fun h => h)
    simpa using h2
  go_enter Tryd.func23, Tryd.ntmps23
  go_wp2_with fail
  have hlt : Hid (w.heap.size + 1 < ((w.alloc (.cells #[.string s, .bool d, v] 33)).alloc (.cells #[.string ⟨#[]⟩, .bool false, .slice none 0 0] 33)).heap.size) := by unfold Hid; simp
  generalize ((w.alloc (.cells #[.string s, .bool d, v] 33)).alloc (.cells #[.string ⟨#[]⟩, .bool false, .slice none 0 0] 33)) = W0 at *
  have r0 : ∀ V, Kp (· = w.heap.size + 1) W0 V → V.cell? ⟨w.heap.size, 0, none⟩ = some (.string s) := fun V k => (k.cell (p := ⟨w.heap.size, 0, none⟩) (Nat.lt_of_succ_lt hlt.out) (show ¬ w.heap.size = w.heap.size + 1 by omega)).trans (hb.out W0 (Kp.refl _ _)).1
  have r1 : ∀ V, Kp (· = w.heap.size + 1) W0 V → V.cell? ⟨w.heap.size, 1, none⟩ = some (.bool d) := fun V k => (k.cell (p := ⟨w.heap.size, 1, none⟩) (Nat.lt_of_succ_lt hlt.out) (show ¬ w.heap.size = w.heap.size + 1 by omega)).trans (hb.out W0 (Kp.refl _ _)).2.1
  have r2 : ∀ V, Kp (· = w.heap.size + 1) W0 V → V.cell? ⟨w.heap.size, 2, none⟩ = some (v) := fun V k => (k.cell (p := ⟨w.heap.size, 2, none⟩) (Nat.lt_of_succ_lt hlt.out) (show ¬ w.heap.size = w.heap.size + 1 by omega)).trans (hb.out W0 (Kp.refl _ _)).2.2
  have q0 : ∀ V, Kp No W0 V → V.cell? ⟨w.heap.size + 1, 0, none⟩ = some (.string ⟨#[]⟩) := fun V k => (hr0.out V k).cell 0
  have q1 : ∀ V, Kp No W0 V → V.cell? ⟨w.heap.size + 1, 1, none⟩ = some (.bool false) := fun V k => (hr0.out V k).cell 1
  have q2 : ∀ V, Kp No W0 V → V.cell? ⟨w.heap.size + 1, 2, none⟩ = some (.slice none 0 0) := fun V k => (hr0.out V k).cell 2
  have f0 : ∀ V, Kp No W0 V → V.frozen? ⟨w.heap.size + 1, 0, none⟩ = false := fun V k => (hr0.out V k).frozen 0
  have f1 : ∀ V, Kp No W0 V → V.frozen? ⟨w.heap.size + 1, 1, none⟩ = false := fun V k => (hr0.out V k).frozen 1
  have f2 : ∀ V, Kp No W0 V → V.frozen? ⟨w.heap.size + 1, 2, none⟩ = false := fun V k => (hr0.out V k).frozen 2
  have HC := hid (clone_any (P := Any) v bs W0.drew ((HB.out.kept hk0.out).kept (Kp.refl _ _).drew) hl)
  go_region_held3 (fun V => Kp (· = w.heap.size + 1) W0 V) (first | (with_reducible exact Kp.refl _ _) | (with_reducible exact (Kp.refl _ _).drew) | (with_reducible exact HK1.out.ofNo) | (with_reducible exact HK1.out.ofNo.trans (Kp.set3 _ _ _ _ _) (fun _ h => .inl h))) (first | (go_at_call 38; refine (HC.out).mono ?_; rintro e w1 ⟨ad, cc, rfl, ho, hn, hk⟩; have HO := hid ho; have HN := hid hn; have HK1 : Hid (Kp No W0 w1) := (Kp.refl _ _).drew.andNone hk; have c0 := q0 _ HK1.out; have c1 := q1 _ HK1.out; have c2 := q2 _ HK1.out; have d0 := f0 _ HK1.out; have d1 := f1 _ HK1.out; have d2 := f2 _ HK1.out; clear ho hn hk))
  clear r0 r1 r2 q0 q1 q2 f0 f1 f2 HC c0 c1 c2 d0 d1 d2
  have HW2 := hid ((((hr0.out _ HK1.out).setCell 0 (.string s)).setCell 1 (.bool d)).setCell 2 (.slice ad bs.length cc))
  have HK2 := hid (Kp.set3 w1 (w.heap.size + 1) (.string s) (.bool d) (.slice ad bs.length cc))
  generalize (((w1.setCell { block := w.heap.size + 1, off := 0 } (.string s)).setCell { block := w.heap.size + 1, off := 1 } (.bool d)).setCell { block := w.heap.size + 1, off := 2 } (.slice ad bs.length cc)) = w2 at *
  have c0 : w2.cell? ⟨w.heap.size + 1, 0, none⟩ = some (.string s) := HW2.out.cell 0
  have c1 : w2.cell? ⟨w.heap.size + 1, 1, none⟩ = some (.bool d) := HW2.out.cell 1
  have c2 : w2.cell? ⟨w.heap.size + 1, 2, none⟩ = some (.slice ad bs.length cc) := HW2.out.cell 2
  go_wp2
  have hsz := hk0.out.size
  have hsz1 := HK1.out.size
  have hsz2 := hlt.out
  refine bodyPost_ret (v := .agg #[.string s, .bool d, .slice ad bs.length cc]) (by simp [results, Tryd.results23, go_sem, c0, c1, c2]) rfl ⟨_, rfl, ?_, ?_, ?_⟩
  · refine Row.kp HO.out.row HK2.out (fun b hb e => ?_)
    have := HN.out b hb
    have e2 : W0.drew.heap.size = W0.heap.size := rfl
    omega
  · intro b hb
    have := HN.out b hb
    have e : W0.drew.heap.size = W0.heap.size := rfl
    omega
  · exact hk0.out.trans (HK1.out.ofNo.trans HK2.out (fun _ h => .inl h)) (fun x h => .inr (by omega))

end Go.Proofs.YtdooiflmjeibdaaDoor.Tr
