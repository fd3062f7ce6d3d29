/-
  A stream in memory; what atEnd, give and over of it do.
-/
import Derived.Test.YtinijgkkmfdfiaaDoorMem
import Derived.Deep.QuietTactic
import Derived.BigQuiet
namespace Go.Proofs.YtinijgkkmfdfiaaDoor
open Go.RowKit

/-- A stream lies at sb, its gear at gb: h: the hash that it has; wt: the bytes that wait, v: the row in which they do; c: is it closed? -/
structure StX (w : World) (sb gb s mn av mx m h : Nat) (wt : List Nat) (v : Value) (c : Bool) : Prop where
  lt : sb < w.heap.size
  c0 : w.cell? ⟨sb, 0, none⟩ = some (.pointer (some ⟨gb, 0, none⟩))
  c1 : w.cell? ⟨sb, 1, none⟩ = some (.int .u64 s)
  c2 : w.cell? ⟨sb, 2, none⟩ = some (.int .i64 mn)
  c3 : w.cell? ⟨sb, 3, none⟩ = some (.int .i64 av)
  c4 : w.cell? ⟨sb, 4, none⟩ = some (.int .i64 mx)
  c5 : w.cell? ⟨sb, 5, none⟩ = some (.int .u64 m)
  c6 : w.cell? ⟨sb, 6, none⟩ = some (.int .u64 h)
  c7 : w.cell? ⟨sb, 7, none⟩ = some v
  c8 : w.cell? ⟨sb, 8, none⟩ = some (.bool c)
  fz : ∀ j, w.frozen? ⟨sb, j, none⟩ = false
  gr : ∃ f, (f = 0 ∨ f = 1) ∧ Gr w gb s f
  own : OwnB w v wt
  bts : ∀ x ∈ wt, x < 256
  ne1 : sb ≠ gb
  ne2 : ∀ x, v.ownBlock = some x → x ≠ sb ∧ x ≠ gb
  len : wt.length ≤ 100000
  hm : m < M64
  hh : h < M64

/-- The blocks of a stream. -/
def fp (sb gb : Nat) (v : Value) : List Nat := sb :: gb :: v.ownBlock.toList
theorem mem_fp {sb gb : Nat} {v : Value} {x : Nat} : x ∈ fp sb gb v ↔ x = sb ∨ x = gb ∨ v.ownBlock = some x := by simp [fp]

theorem StX.glt {w : World} {sb gb s mn av mx m h : Nat} {wt : List Nat} {v : Value} {c : Bool} (S : StX w sb gb s mn av mx m h wt v c) : gb < w.heap.size := by
  obtain ⟨f, _, g⟩ := S.gr
  exact g.1
theorem StX.fplt {w : World} {sb gb s mn av mx m h : Nat} {wt : List Nat} {v : Value} {c : Bool} (S : StX w sb gb s mn av mx m h wt v c) : ∀ x ∈ fp sb gb v, x < w.heap.size := by
  intro x hx
  rcases mem_fp.1 hx with rfl | rfl | h
  · exact S.lt
  · exact S.glt
  · exact S.own.row.lt x h

theorem StX.kp {w w' : World} {sb gb s mn av mx m h : Nat} {wt : List Nat} {v : Value} {c : Bool} {l : List Nat} (S : StX w sb gb s mn av mx m h wt v c) (k : Kp l w w') (hl : ∀ x ∈ l, x ∉ fp sb gb v) : StX w' sb gb s mn av mx m h wt v c := by
  have hs : sb ∉ l := fun hx => hl sb hx (mem_fp.2 (.inl rfl))
  have hg : gb ∉ l := fun hx => hl gb hx (mem_fp.2 (.inr (.inl rfl)))
  have hv : ∀ x, v.ownBlock = some x → x ∉ l := fun x hx hm => hl x hm (mem_fp.2 (.inr (.inr hx)))
  have ho : ∀ j, w'.cell? ⟨sb, j, none⟩ = w.cell? ⟨sb, j, none⟩ := fun j => k.cell (p := ⟨sb, j, none⟩) S.lt hs
  obtain ⟨f, hf, G⟩ := S.gr
  exact { S with
    lt := Nat.lt_of_lt_of_le S.lt k.size
    c0 := (ho 0).trans S.c0, c1 := (ho 1).trans S.c1, c2 := (ho 2).trans S.c2, c3 := (ho 3).trans S.c3, c4 := (ho 4).trans S.c4, c5 := (ho 5).trans S.c5, c6 := (ho 6).trans S.c6, c7 := (ho 7).trans S.c7, c8 := (ho 8).trans S.c8
    fz := fun j => (k.frozen (p := ⟨sb, j, none⟩) S.lt hs).trans (S.fz j)
    gr := ⟨f, hf, G.kp k hg⟩
    own := S.own.row.kp k hv }
theorem StX.below {w w' : World} {sb gb s mn av mx m h : Nat} {wt : List Nat} {v : Value} {c : Bool} (S : StX w sb gb s mn av mx m h wt v c) (k : Below w.heap.size w w') : StX w' sb gb s mn av mx m h wt v c := S.kp (l := []) (Kp.below k) (by simp)
theorem StX.drew {w : World} {sb gb s mn av mx m h : Nat} {wt : List Nat} {v : Value} {c : Bool} (S : StX w sb gb s mn av mx m h wt v c) : StX w.drew sb gb s mn av mx m h wt v c := S.kp (l := []) (Kp.refl _ _).drew (by simp)

/-- Behind a Roll. -/
theorem StX.rolled {w w' : World} {sb gb s mn av mx m h : Nat} {wt : List Nat} {v : Value} {c : Bool} (S : StX w sb gb s mn av mx m h wt v c) (k : Kept gb w w') (G : Gr w' gb s 1) : StX w' sb gb s mn av mx m h wt v c := by
  have k1 := Kp.ofKept k
  have ho : ∀ j, w'.cell? ⟨sb, j, none⟩ = w.cell? ⟨sb, j, none⟩ := fun j => k1.cell (p := ⟨sb, j, none⟩) S.lt (by simpa using S.ne1)
  exact { S with
    lt := Nat.lt_of_lt_of_le S.lt k.size
    c0 := (ho 0).trans S.c0, c1 := (ho 1).trans S.c1, c2 := (ho 2).trans S.c2, c3 := (ho 3).trans S.c3, c4 := (ho 4).trans S.c4, c5 := (ho 5).trans S.c5, c6 := (ho 6).trans S.c6, c7 := (ho 7).trans S.c7, c8 := (ho 8).trans S.c8
    fz := fun j => (k1.frozen (p := ⟨sb, j, none⟩) S.lt (by simpa using S.ne1)).trans (S.fz j)
    gr := ⟨1, .inr rfl, G⟩
    own := S.own.row.kp k1 (fun x hx => by simpa using (S.ne2 x hx).2) }

theorem cell_other {w : World} {b i j : Nat} {x : Value} (h : j ≠ i) : (w.setCell ⟨b, i, none⟩ x).cell? ⟨b, j, none⟩ = w.cell? ⟨b, j, none⟩ := World.cell?_setCell_other _ _ _ _ (by simp only [ne_eq, Addr.mk.injEq, true_and, and_true]; omega)

/-- Another hash is stored. -/
theorem StX.hash {w : World} {sb gb s mn av mx m h : Nat} {wt : List Nat} {v : Value} {c : Bool} (S : StX w sb gb s mn av mx m h wt v c) (h' : Nat) (hh' : h' < M64) : StX (w.setCell ⟨sb, 6, none⟩ (.int .u64 h')) sb gb s mn av mx m h' wt v c := by
  have k : Kp [sb] w (w.setCell ⟨sb, 6, none⟩ (.int .u64 h')) := (Kp.refl _ _).setCell (p := ⟨sb, 6, none⟩) (.inl (by simp)) _
  have ho : ∀ j, j ≠ 6 → (w.setCell ⟨sb, 6, none⟩ (.int .u64 h')).cell? ⟨sb, j, none⟩ = w.cell? ⟨sb, j, none⟩ := fun j hj => cell_other hj
  obtain ⟨f, hf, G⟩ := S.gr
  exact { S with
    lt := by simpa using S.lt
    c0 := (ho 0 (by decide)).trans S.c0, c1 := (ho 1 (by decide)).trans S.c1, c2 := (ho 2 (by decide)).trans S.c2, c3 := (ho 3 (by decide)).trans S.c3, c4 := (ho 4 (by decide)).trans S.c4, c5 := (ho 5 (by decide)).trans S.c5
    c6 := World.cell?_setCell_same _ _ _ S.c6, c7 := (ho 7 (by decide)).trans S.c7, c8 := (ho 8 (by decide)).trans S.c8
    fz := fun j => by simpa using S.fz j
    gr := ⟨f, hf, G.kp k (by simpa using Ne.symm S.ne1)⟩
    own := S.own.row.kp k (fun x hx => by simpa using (S.ne2 x hx).1)
    hh := hh' }
/-- Another row waits. -/
theorem StX.wait {w : World} {sb gb s mn av mx m h : Nat} {wt : List Nat} {v : Value} {c : Bool} (S : StX w sb gb s mn av mx m h wt v c) (wt' : List Nat) (v' : Value) (ho' : OwnB w v' wt') (hb : ∀ x ∈ wt', x < 256) (hl : wt'.length ≤ 100000)
    (hv : ∀ x, v'.ownBlock = some x → x ≠ sb ∧ x ≠ gb) : StX (w.setCell ⟨sb, 7, none⟩ v') sb gb s mn av mx m h wt' v' c := by
  have k : Kp [sb] w (w.setCell ⟨sb, 7, none⟩ v') := (Kp.refl _ _).setCell (p := ⟨sb, 7, none⟩) (.inl (by simp)) _
  have ho : ∀ j, j ≠ 7 → (w.setCell ⟨sb, 7, none⟩ v').cell? ⟨sb, j, none⟩ = w.cell? ⟨sb, j, none⟩ := fun j hj => cell_other hj
  obtain ⟨f, hf, G⟩ := S.gr
  exact { S with
    lt := by simpa using S.lt
    c0 := (ho 0 (by decide)).trans S.c0, c1 := (ho 1 (by decide)).trans S.c1, c2 := (ho 2 (by decide)).trans S.c2, c3 := (ho 3 (by decide)).trans S.c3, c4 := (ho 4 (by decide)).trans S.c4, c5 := (ho 5 (by decide)).trans S.c5
    c6 := (ho 6 (by decide)).trans S.c6, c7 := World.cell?_setCell_same _ _ _ S.c7, c8 := (ho 8 (by decide)).trans S.c8
    fz := fun j => by simpa using S.fz j
    gr := ⟨f, hf, G.kp k (by simpa using Ne.symm S.ne1)⟩
    own := ho'.row.kp k (fun x hx => by simpa using (hv x hx).1)
    bts := hb, ne2 := hv, len := hl }
/-- The row that waits is appended to: all else stays. -/
theorem StX.grown {w w' : World} {sb gb s mn av mx m h : Nat} {wt : List Nat} {v : Value} {c : Bool} (S : StX w sb gb s mn av mx m h wt v c) (hg : w.grownBy w' v.ownBlock) (wt' : List Nat) (v' : Value) (ho' : OwnB w' v' wt') (hb : ∀ x ∈ wt', x < 256) (hl : wt'.length ≤ 100000)
    (hv : v'.ownBlock = v.ownBlock ∨ v'.ownBlock = some w.heap.size) : StX (w'.setCell ⟨sb, 7, none⟩ v') sb gb s mn av mx m h wt' v' c := by
  have k : Kp v.ownBlock.toList w w' := (Kp.refl _ _).grown hg (fun x hx => .inl (by simp [hx]))
  have hs : sb ∉ v.ownBlock.toList := fun hx => (S.ne2 sb (by simpa using hx)).1 rfl
  have hgb : gb ∉ v.ownBlock.toList := fun hx => (S.ne2 gb (by simpa using hx)).2 rfl
  have ho1 : ∀ j, w'.cell? ⟨sb, j, none⟩ = w.cell? ⟨sb, j, none⟩ := fun j => k.cell (p := ⟨sb, j, none⟩) S.lt hs
  have k2 : Kp [sb] w' (w'.setCell ⟨sb, 7, none⟩ v') := (Kp.refl _ _).setCell (p := ⟨sb, 7, none⟩) (.inl (by simp)) _
  have ho : ∀ j, j ≠ 7 → (w'.setCell ⟨sb, 7, none⟩ v').cell? ⟨sb, j, none⟩ = w.cell? ⟨sb, j, none⟩ := fun j hj => (cell_other hj).trans (ho1 j)
  have hv' : ∀ x, v'.ownBlock = some x → x ≠ sb ∧ x ≠ gb := fun x hx => by
    rcases hv with e | e
    · exact S.ne2 x (e ▸ hx)
    · have e2 : x = w.heap.size := by rw [e] at hx; exact (Option.some.inj hx).symm
      have := S.lt
      have := S.glt
      omega
  obtain ⟨f, hf, G⟩ := S.gr
  exact { S with
    lt := by have := k.size; have := S.lt; simp; omega
    c0 := (ho 0 (by decide)).trans S.c0, c1 := (ho 1 (by decide)).trans S.c1, c2 := (ho 2 (by decide)).trans S.c2, c3 := (ho 3 (by decide)).trans S.c3, c4 := (ho 4 (by decide)).trans S.c4, c5 := (ho 5 (by decide)).trans S.c5
    c6 := (ho 6 (by decide)).trans S.c6, c7 := World.cell?_setCell_same _ _ _ ((ho1 7).trans S.c7), c8 := (ho 8 (by decide)).trans S.c8
    fz := fun j => by simpa using (k.frozen (p := ⟨sb, j, none⟩) S.lt hs).trans (S.fz j)
    gr := ⟨f, hf, (G.kp k hgb).kp k2 (by simpa using Ne.symm S.ne1)⟩
    own := ho'.row.kp k2 (fun x hx => by simpa using (hv' x hx).1)
    bts := hb, ne2 := hv', len := hl }

/-! ### atEnd -/
set_option maxHeartbeats 1000000 in
theorem atEnd_any (w : World) (sb gb s mn av mx m : Nat) (wt : List Nat) (v : Value) (c : Bool) (S : StX w sb gb s mn av mx m (hashOf s wt) wt v c) :
    Calls Tryd.prog 46 #[.pointer (some ⟨sb, 0, none⟩)] w fun e w' => e = .returned (.bool (endB s mn mx m wt)) ∧ ∃ n, w' = w.drewN n := by
  obtain ⟨a, cap, rfl, hcap, hcm, _⟩ := S.own.slice
  have c2 := S.c2
  have c4 := S.c4
  have c5 := S.c5
  have c6 := S.c6
  have c7 := S.c7
  have hl := S.len
  have hand := and_i (hashOf s wt) m S.hh S.hm
  have HB : Hid (endB s mn mx m wt = (decide (wt.length = mx) || (decide (mn ≤ wt.length) && decide (hashOf s wt &&& m = 0)))) := rfl
  clear S
  generalize hH : hashOf s wt = H at *
  generalize hA : H &&& m = A at *
  generalize hL : wt.length = L at *
  clear hH hA hL
  by_cases h1 : L = mx
  · have d1 : ((L : Int) == (mx : Int)) = true := by simp only [beq_iff_eq]; omega
    have HE : Hid (endB s mn mx m wt = true) := by rw [Hid, HB.out]; simp [h1]
    clear h1 HB
    go_enter Tryd.func46, Tryd.ntmps46
    go_wp2
    go_quiet (fail)
    go_wp2
    go_ret
    exact ⟨by rw [HE.out]; rfl, _, rfl⟩
  · have d1 : ((L : Int) == (mx : Int)) = false := by simp; omega
    by_cases h2 : mn ≤ L
    · have d2 : decide (mn ≤ L) = true := by simpa using h2
      by_cases h3 : A = 0
      · have d3 : ((A : Int) == 0) = true := by simp [h3]
        have HE : Hid (endB s mn mx m wt = true) := by rw [Hid, HB.out]; simp [h2, h3]
        clear h1 h2 h3 HB
        go_enter Tryd.func46, Tryd.ntmps46
        go_wp2
        go_quiet (fail)
        go_wp2
        go_ret
        exact ⟨by rw [HE.out]; rfl, _, rfl⟩
      · have d3 : ((A : Int) == 0) = false := by simp [h3]
        have HE : Hid (endB s mn mx m wt = false) := by rw [Hid, HB.out]; simp [h1, h3]
        clear h1 h2 h3 HB
        go_enter Tryd.func46, Tryd.ntmps46
        go_wp2
        go_quiet (fail)
        go_wp2
        go_ret
        exact ⟨by rw [HE.out]; rfl, _, rfl⟩
    · have d2 : decide (mn ≤ L) = false := by simpa using h2
      have HE : Hid (endB s mn mx m wt = false) := by rw [Hid, HB.out]; simp [h1, h2]
      clear h1 h2 HB
      go_enter Tryd.func46, Tryd.ntmps46
      go_wp2
      go_quiet (fail)
      go_wp2
      go_ret
      exact ⟨by rw [HE.out]; rfl, _, rfl⟩

/-! ### give, over -/
theorem ownBlock_len (a : Option Addr) (n n' cap cap' : Nat) : (Value.slice a n cap).ownBlock = (Value.slice a n' cap').ownBlock := by cases a <;> rfl

set_option maxHeartbeats 1000000 in
theorem give_any (w : World) (sb gb s mn av mx m h : Nat) (wt : List Nat) (v : Value) (c : Bool) (S : StX w sb gb s mn av mx m h wt v c) :
    Calls Tryd.prog 47 #[.pointer (some ⟨sb, 0, none⟩)] w fun e w' => ∃ u v', e = .returned u ∧ StX w' sb gb s mn av mx m 0 [] v' c ∧ OwnB w' u wt ∧ (∀ x, u.ownBlock = some x → w.heap.size ≤ x) ∧ v'.ownBlock = v.ownBlock ∧ Kp [sb] w w' := by
  have HS := hid S
  obtain ⟨a, cap, rfl, hcap, hcm, _⟩ := S.own.slice
  have c7 := S.c7
  have hl := S.len
  have hs := S.lt
  have BS := hid (S.own.byP (P := fun _ => True) (fun _ _ => trivial) (by omega) S.bts)
  clear S
  go_enter Tryd.func47, Tryd.ntmps47
  go_wp2_with fail
  refine (clone_any w.heap.size _ wt w BS.out.toSl hl).mono ?_
  rintro e w1 ⟨u, rfl, hu, hb⟩
  have S1 := HS.out.below hb
  have HB := hid hb
  have HU := hid hu
  have d7 := S1.c7
  have d6 := S1.c6
  have f7 := S1.fz 7
  have f6 := S1.fz 6
  have H1 := hid S1
  clear hb hu S1 BS HS
  have e6 : (w1.setCell ⟨sb, 7, none⟩ (.slice a 0 cap)).cell? ⟨sb, 6, none⟩ = some (.int .u64 h) := (cell_other (by decide)).trans d6
  go_wp2
  go_ret
  have hrow : Row w1 5 (.slice a 0 cap) [] := H1.out.own.row.cut
  have S2 := H1.out.wait [] (.slice a 0 cap) hrow (by simp) (by simp) (fun x hx => H1.out.ne2 x (by rw [← hx]; exact ownBlock_len _ _ _ _ _))
  have S3 := S2.hash 0 (by decide)
  have k1 : Kp [sb] w1 ((w1.setCell ⟨sb, 7, none⟩ (.slice a 0 cap)).setCell ⟨sb, 6, none⟩ (.int .u64 0)) := ((Kp.refl _ _).setCell (p := ⟨sb, 7, none⟩) (.inl (by simp)) _).setCell (p := ⟨sb, 6, none⟩) (.inl (by simp)) _
  have hge : ∀ x, u.ownBlock = some x → w.heap.size ≤ x := HU.out.ge
  refine ⟨u, _, rfl, S3, (OwnB.of HU.out).row.kp k1 (fun x hx => ?_), hge, ownBlock_len _ _ _ _ _, (Kp.below HB.out).trans k1 (by simp)⟩
  have := hge x hx
  simp only [List.mem_cons, List.not_mem_nil, or_false]
  omega

theorem over_any (w : World) (sb : Nat) (c : Bool) (h : w.cell? ⟨sb, 8, none⟩ = some (.bool c)) :
    Calls Tryd.prog 35 #[.pointer (some ⟨sb, 0, none⟩)] w fun e w' => e = .returned (.bool c) ∧ w' = w := by
  go_enter Tryd.func35, Tryd.ntmps35
  go_wp2
  go_ret
  exact ⟨rfl, rfl⟩

end Go.Proofs.YtinijgkkmfdfiaaDoor
