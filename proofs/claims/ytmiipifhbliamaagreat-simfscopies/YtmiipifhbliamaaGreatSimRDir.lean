/-
  The reference's directories: entries in a row; find and put.
-/
import Derived.Test.YtmiipifhbliamaaGreatSimAlive
import Derived.Laws.Strings
namespace Go.Proofs.YtmiipifhbliamaaGreat.Sim
open Go.RowKit Go.Maps

/-! ### A directory in a row -/
def entCells (e : Nm × Nat) : List Value := [.string (sOf e.1), .int .i64 (e.2 : Int)]
def ents (d : Dir) : List Value := d.flatMap entCells
theorem ents_append (l m : Dir) : ents (l ++ m) = ents l ++ ents m := by simp [ents]
theorem ents_one (e : Nm × Nat) : ents [e] = entCells e := by simp [ents]
theorem ents_length (l : Dir) : (ents l).length = l.length * 2 := by
  induction l with
  | nil => rfl
  | cons c r ih => simp only [ents, List.flatMap_cons, List.length_append, List.length_cons] at ih ⊢; rw [ih]; simp [entCells]; omega
theorem ents_at (l : Dir) (i : Nat) (c : Nm × Nat) (h : l[i]? = some c) (j : Nat) (hj : j < 2) : (ents l)[i * 2 + j]? = (entCells c)[j]? := by
  induction l generalizing i with
  | nil => simp at h
  | cons d r ih =>
    have e : ents (d :: r) = entCells d ++ ents r := by simp [ents]
    rw [e]
    cases i with
    | zero =>
      simp at h
      subst h
      rw [List.getElem?_append_left (by simp [entCells]; omega)]
      simp
    | succ i =>
      rw [List.getElem?_append_right (by simp [entCells]; omega)]
      have : (i + 1) * 2 + j - (entCells d).length = i * 2 + j := by simp [entCells]; omega
      rw [this]
      exact ih i (by simpa using h)
theorem entCells_one (c : Nm × Nat) : ∀ u ∈ entCells c, u.oneCell' = true := by
  intro u hu
  simp [entCells] at hu
  rcases hu with rfl | rfl <;> rfl

/-- v is a slice of the directory d, in a block of which D. -/
def EnP (D : Nat → Prop) (w : World) (v : Value) (d : Dir) : Prop :=
  ∃ a cap, v = .slice a d.length cap ∧ d.length ≤ cap ∧ cap ≤ maxLen ∧ (d ≠ [] → ∃ g, a = some ⟨g, 0, none⟩ ∧ D g ∧ g < w.heap.size ∧ ∀ i c, d[i]? = some c → ∀ j, j < 2 → w.cell? ⟨g, i * 2 + j, none⟩ = (entCells c)[j]?)
theorem EnP.nil (D : Nat → Prop) (w : World) : EnP D w (.slice none 0 0) [] := ⟨none, 0, rfl, Nat.le_refl _, Nat.zero_le _, fun h => absurd rfl h⟩
theorem EnP.mono {P Q : Nat → Prop} {w : World} {v : Value} {d : Dir} (h : EnP P w v d) (hm : ∀ x, x < w.heap.size → P x → Q x) : EnP Q w v d := by
  obtain ⟨a, cap, h1, h2, h3, h4⟩ := h
  refine ⟨a, cap, h1, h2, h3, fun hne => ?_⟩
  obtain ⟨g, e, hgb, hg, hc⟩ := h4 hne
  exact ⟨g, e, hm g hg hgb, hg, hc⟩
theorem EnP.kp {P L : Nat → Prop} {w w' : World} {v : Value} {d : Dir} (h : EnP P w v d) (k : Kp L w w') (hm : ∀ x, L x → x < w.heap.size → ¬ P x) : EnP P w' v d := by
  obtain ⟨a, cap, h1, h2, h3, h4⟩ := h
  refine ⟨a, cap, h1, h2, h3, fun hne => ?_⟩
  obtain ⟨g, e, hgb, hg, hc⟩ := h4 hne
  exact ⟨g, e, hgb, Nat.lt_of_lt_of_le hg k.size, fun i c hi j hj => (k.cell (p := ⟨g, i * 2 + j, none⟩) hg (fun hx => hm g hx hg hgb)).trans (hc i c hi j hj)⟩
theorem EnP.kept {P : Nat → Prop} {w w' : World} {v : Value} {d : Dir} (h : EnP P w v d) (k : Kp No w w') : EnP P w' v d := h.kp k (fun _ hx => hx.elim)
theorem Row.enP {D : Nat → Prop} {w : World} {v : Value} {d : Dir} (h : Row w 106 2 v d.length (ents d)) (hD : ∀ x, v.ownBlock = some x → D x) : EnP D w v d := by
  rcases h.2 with ⟨rfl, h0⟩ | ⟨g, cap, cur, rfl, hg, hh, hn, hc, hs, ht⟩
  · have : d = [] := List.length_eq_zero_iff.1 h0
    subst this
    exact EnP.nil _ _
  · refine ⟨_, cap, rfl, hn, hc, fun _ => ⟨g, rfl, hD g rfl, (Array.getElem?_eq_some_iff.1 hh).1, fun i c hi j hj => ?_⟩⟩
    have hil : i < d.length := (List.getElem?_eq_some_iff.1 hi).1
    rw [h.cellAt (i * 2 + j) (by omega)]
    exact ents_at d i c hi j hj

/-! ### find -/
theorem str_ne {n : Nm} {t : ByteArray} (h : n ≠ nm t) : ((sOf n).toList == t.toList) = false := by
  rw [ByteArray.toList_eq, ByteArray.toList_eq]
  show (n == nm t) = false
  simp [h]
theorem str_neq {n : Nm} {t : ByteArray} (h : n ≠ nm t) : ((sOf n).toList != t.toList) = true := by rw [bne, str_ne h]; rfl
def noOf (o : Option Nat) : Int := match o with | some b => (b : Int) | none => -1
theorem dfind_cons (x : Nm × Nat) (r : Dir) (n : Nm) : dfind (x :: r) n = if x.1 = n then some x.2 else dfind r n := by
  unfold dfind
  rw [List.find?_cons]
  by_cases h : x.1 = n
  · simp [h]
  · have : (x.1 == n) = false := by simp [h]
    rw [this, if_neg h]

set_option maxHeartbeats 1000000 in
theorem rfind_any {D : Nat → Prop} (w : World) (v : Value) (d : Dir) (t : ByteArray) (h : EnP D w v d) : Calls Tryz.prog 63 #[v, .string t] w fun e w' => e = .returned (.int .i64 (noOf (dfind d (nm t)))) ∧ w' = w := by
  obtain ⟨a, cap, rfl, h1, h2, h4⟩ := h
  have HC := hid h4
  unfold maxLen at h2
  clear h4
  go_enter Tryz.func63, Tryz.ntmps63
  go_wp2
  go_loopw [5] (fun x wr => ∃ i : Nat, x = .int .i64 i ∧ i ≤ d.length ∧ Hid (dfind d (nm t) = dfind (d.drop i) (nm t)) ∧ wr = w) (fun x _ => d.length - (intOf x).toNat)
  case atStart => exact ⟨0, rfl, by omega, rfl, rfl⟩
  case round =>
    obtain ⟨i, rfl, hi, HI, rfl⟩ := hrel
    by_cases hlt : i < d.length
    · obtain ⟨g, rfl, _, hg, hcell⟩ := HC.out (by intro e; subst e; simp at hlt)
      obtain ⟨c, hc⟩ : ∃ c, d[i]? = some c := ⟨_, List.getElem?_eq_getElem hlt⟩
      have HT : Hid (d.drop i = c :: d.drop (i + 1)) := by rw [Hid, List.drop_eq_getElem_cons hlt]; congr 1; rw [List.getElem?_eq_getElem hlt] at hc; simpa using hc
      have e0 : wr.cell? ⟨g, i * 2, none⟩ = some (.string (sOf c.1)) := hcell i c hc 0 (by omega)
      have e1 : wr.cell? ⟨g, i * 2 + 1, none⟩ = some (.int .i64 (c.2 : Int)) := hcell i c hc 1 (by omega)
      have HN : Hid (dfind d (nm t) = if c.1 = nm t then some c.2 else dfind (d.drop (i + 1)) (nm t)) := by rw [Hid, HI.out, HT.out, dfind_cons]
      clear hcell hc HT
      by_cases hx : c.1 = nm t
      · have HR : Hid (noOf (dfind d (nm t)) = (c.2 : Int)) := by rw [Hid, HN.out, if_pos hx]; rfl
        rw [hx, sOf_nm] at e0
        clear hx HN
        go_wp2
        go_ret
        refine ⟨?_, rfl⟩
        rw [HR.out]
        rfl
      · have hb : ((sOf c.1).toList == t.toList) = false := str_ne hx
        have HR : Hid (dfind d (nm t) = dfind (d.drop (i + 1)) (nm t)) := by rw [Hid, HN.out, if_neg hx]
        clear hx HN
        generalize sOf c.1 = sn at *
        go_wp2
        go_roundw
        case rel => exact ⟨i + 1, by go_num, by omega, HR, by first | rfl | trivial⟩
        case measure => simp [intOf]; omega
    · go_wp2
      go_ret
      refine ⟨?_, rfl⟩
      rw [HI.out, List.drop_of_length_le (by omega)]
      rfl

/-! ### put -/
theorem dins_mid (n : Nm) (f : Nat) (b : Dir) (hb : ∀ e ∈ b, bytesBefore n e.1 = true) : ∀ (a : Dir), (∀ e ∈ a, bytesBefore e.1 n = true) → dins (n, f) (a ++ b) = a ++ (n, f) :: b
  | [], _ => by
    cases b with
    | nil => rfl
    | cons x r => simp [dins, hb x (by simp)]
  | x :: r, ha => by
    have hx : bytesBefore n x.1 = false := by
      cases h : bytesBefore n x.1 with
      | false => rfl
      | true =>
        have := WideShapes.bytes_trans _ _ _ h (ha x (by simp))
        rw [WideAt.bytes_irrefl] at this
        cases this
    rw [List.cons_append, dins, hx, if_neg (by simp), dins_mid n f b hb r (fun e he => ha e (by simp [he]))]
    rfl
theorem ddel_before (n : Nm) (a : Dir) (h : ∀ e ∈ a, bytesBefore e.1 n = true) : ddel a n = a := by
  unfold ddel
  rw [List.filter_eq_self]
  intro e he
  have : e.1 ≠ n := fun e' => by have := h e he; rw [e', WideAt.bytes_irrefl] at this; cases this
  simp [this]
theorem ddel_append (a b : Dir) (n : Nm) : ddel (a ++ b) n = ddel a n ++ ddel b n := by simp [ddel]
theorem ddel_cons (x : Nm × Nat) (r : Dir) (n : Nm) : ddel (x :: r) n = if x.1 = n then ddel r n else x :: ddel r n := by
  unfold ddel
  rw [List.filter_cons]
  by_cases h : x.1 = n <;> simp [h]
/-- Where the name goes in: all ahead of it are before it, what is there is not. -/
theorem dput_mid (a b : Dir) (n : Nm) (f : Nat) (hr : Ris (a ++ b)) (ha : ∀ e ∈ a, bytesBefore e.1 n = true) (hb : ∀ x ∈ b.head?, bytesBefore x.1 n = false) : a ++ (n, f) :: ddel b n = dput (a ++ b) n f := by
  unfold dput
  rw [ddel_append, ddel_before n a ha, dins_mid n f (ddel b n) ?_ a ha]
  intro e he
  obtain ⟨h1, h2⟩ := mem_ddel.1 he
  cases b with
  | nil => simp at h1
  | cons x r =>
    have hx := hb x (by simp)
    have hxr := (List.pairwise_cons.1 (List.pairwise_append.1 hr).2.1).1
    have hle : x.1 = n ∨ bytesBefore n x.1 = true := by
      by_cases e : x.1 = n
      · exact .inl e
      · rcases WideAt.bytes_total x.1 n e with h | h
        · rw [h] at hx; cases hx
        · exact .inr h
    rcases List.mem_cons.1 h1 with rfl | h1
    · rcases hle with h | h
      · exact absurd h h2
      · exact h
    · rcases hle with h | h
      · rw [← h]; exact hxr e h1
      · exact WideShapes.bytes_trans _ _ _ h (hxr e h1)

/-- What put makes of a directory. -/
def rputD (d : Dir) (n : Nm) (f : Int) : Dir := if f < 0 then ddel d n else dput d n f.toNat
theorem length_rputD (d : Dir) (n : Nm) (f : Int) : (rputD d n f).length ≤ d.length + 1 := by
  unfold rputD
  split
  · have := length_ddel d n; omega
  · exact length_dput _ _ _
/-- Behind i entries: 'in' says whether the name's own is in. -/
def PutI (d : Dir) (n : Nm) (f : Int) (i : Nat) (inn : Bool) (out : Dir) : Prop :=
  (inn = true → out ++ ddel (d.drop i) n = rputD d n f) ∧ (inn = false → 0 ≤ f ∧ out = d.take i ∧ ∀ e ∈ d.take i, bytesBefore e.1 n = true)
theorem PutI.start (d : Dir) (n : Nm) (f : Int) : PutI d n f 0 (decide (f < 0)) [] := by
  refine ⟨fun h => ?_, fun h => ?_⟩
  · have : f < 0 := of_decide_eq_true h
    simp [rputD, this]
  · have : ¬ f < 0 := of_decide_eq_false h
    exact ⟨by omega, by simp, by simp⟩
theorem PutI.set {d : Dir} {n : Nm} {f : Int} {i : Nat} {out : Dir} (h : PutI d n f i false out) (hr : Ris d) (c : Nm × Nat) (hc : d[i]? = some c) (hb : bytesBefore c.1 n = false) : PutI d n f i true (out ++ [(n, f.toNat)]) := by
  obtain ⟨h0, h1, h2⟩ := h.2 rfl
  refine ⟨fun _ => ?_, fun e => by cases e⟩
  subst h1
  have hlt := (List.getElem?_eq_some_iff.1 hc).1
  have e := dput_mid (d.take i) (d.drop i) n f.toNat (by rw [List.take_append_drop]; exact hr) h2 (fun x hx => by
    rw [List.head?_drop, hc] at hx
    simp at hx
    rw [← hx]; exact hb)
  rw [List.take_append_drop] at e
  rw [rputD, if_neg (by omega), ← e]
  simp
theorem PutI.last {d : Dir} {n : Nm} {f : Int} {out : Dir} (h : PutI d n f d.length false out) (hr : Ris d) : out ++ [(n, f.toNat)] = rputD d n f := by
  obtain ⟨h0, h1, h2⟩ := h.2 rfl
  rw [List.take_length] at h1 h2
  subst h1
  have e := dput_mid out [] n f.toNat (by simpa using hr) h2 (by simp)
  rw [rputD, if_neg (by omega)]
  rw [List.append_nil] at e
  exact e
theorem drop_get {α : Type} {d : List α} {i : Nat} {c : α} (hc : d[i]? = some c) : d.drop i = c :: d.drop (i + 1) := by
  have hlt := (List.getElem?_eq_some_iff.1 hc).1
  rw [List.drop_eq_getElem_cons hlt]
  congr 1
  rw [List.getElem?_eq_getElem hlt] at hc
  simpa using hc
theorem PutI.keep {d : Dir} {n : Nm} {f : Int} {i : Nat} {inn : Bool} {out : Dir} (h : PutI d n f i inn out) (c : Nm × Nat) (hc : d[i]? = some c) (hn : c.1 ≠ n) (hb : inn = false → bytesBefore c.1 n = true) : PutI d n f (i + 1) inn (out ++ [c]) := by
  refine ⟨fun e => ?_, fun e => ?_⟩
  · have := h.1 e
    rw [drop_get hc, ddel_cons, if_neg hn] at this
    simpa using this
  · obtain ⟨h0, h1, h2⟩ := h.2 e
    have ht : d.take (i + 1) = d.take i ++ [c] := by rw [List.take_add_one, hc]; rfl
    refine ⟨h0, by rw [h1, ht], fun x hx => ?_⟩
    rw [ht] at hx
    rcases List.mem_append.1 hx with hx | hx
    · exact h2 x hx
    · rw [List.mem_singleton.1 hx]; exact hb e
theorem PutI.skip {d : Dir} {n : Nm} {f : Int} {i : Nat} {out : Dir} (h : PutI d n f i true out) (c : Nm × Nat) (hc : d[i]? = some c) (hn : c.1 = n) : PutI d n f (i + 1) true out := by
  refine ⟨fun e => ?_, fun e => by cases e⟩
  have := h.1 e
  rw [drop_get hc, ddel_cons, if_pos hn] at this
  exact this

theorem Tryz.infoEnt : (Tryz.prog.info? 106).map (fun i => (i.zero, i.size, i.bytes)) = some (some (.agg #[.string ⟨#[]⟩, .int .i64 0]), 2, 24) := by kernel_rfl
/-- append of one entry. -/
theorem app_ent {ops : Array Oper} {rest : List Oper} {o : Oper} {a : Act} {Q : Exit → Act → World → Prop} (w : World) (hgd : o.guard = none) (s x : Operand)
    (ho : o.op = .call { callee := .builtin .append, args := #[s, x], argTypes := #[41, 41] }) (us : List Value) (v : Value) (d : Dir) (c : Nm × Nat) (hus : us = entCells c) (hs : a.eval s = v) (hx : a.eval x = .slice (some ⟨w.heap.size, 0, none⟩) 1 1)
    (hown : Row w 106 2 v d.length (ents d)) (hlen : d.length + 1 ≤ 1000000)
    (h : ∀ ad cap w', Row w' 106 2 (.slice ad (d.length + 1) cap) (d ++ [c]).length (ents (d ++ [c])) → Kp (fun x => v.ownBlock = some x) w w' → (∀ x, (Value.slice ad (d.length + 1) cap).ownBlock = some x → v.ownBlock = some x ∨ w.heap.size ≤ x) → wpList Tryz.prog ops Q rest (a.put o.dst (.slice ad (d.length + 1) cap)) w') : wpList Tryz.prog ops Q (o :: rest) a (w.alloc (.cells us.toArray 106)) := by
  subst hus
  refine app_row (w.alloc (.cells (entCells c).toArray 106)) hgd s x 41 106 (.agg #[.string ⟨#[]⟩, .int .i64 0]) 2 24 ho Tryz.underlying41 Tryz.infoEnt rfl (by decide) v _ d.length 1 (ents d) (entCells c) hs hx (hown.kept ((Kp.refl _ _).alloc _)) (Src.one w (entCells c) 2 106 rfl (entCells_one c)) hlen (by decide) ?_
  intro ad cap w' h1 h2 h3
  refine h ad cap w' ?_ (((Kp.refl _ w).alloc _).grown h2 (fun x hx => .inl hx)) (fun x hx => ?_)
  · rw [ents_append, ents_one, List.length_append]
    exact h1
  · rcases h3 with h3 | h3
    · rw [h3] at hx; exact .inl hx
    · rw [h3] at hx
      have : w.heap.size + 1 = x := by simpa using hx
      exact .inr (by omega)

/-- The row that put makes: its own block is new. -/
def OutI (w wr : World) (v : Value) (out : Dir) : Prop := Row wr 106 2 v out.length (ents out) ∧ (∀ x, v.ownBlock = some x → w.heap.size ≤ x) ∧ Kp No w wr
theorem OutI.kept {w wr w' : World} {v : Value} {out : Dir} (h : OutI w wr v out) (k : Kp No wr w') : OutI w w' v out := ⟨h.1.kept k, h.2.1, h.2.2.andNone k⟩
theorem OutI.app {w wr w' : World} {v v' : Value} {out out' : Dir} (h : OutI w wr v out) (h1 : Row w' 106 2 v' out'.length (ents out')) (k : Kp (fun x => v.ownBlock = some x) wr w') (h2 : ∀ x, v'.ownBlock = some x → v.ownBlock = some x ∨ wr.heap.size ≤ x) : OutI w w' v' out' := by
  refine ⟨h1, fun x hx => ?_, h.2.2.trans k (fun x hx => .inr (h.2.1 x hx))⟩
  rcases h2 x hx with h3 | h3
  · exact h.2.1 x h3
  · have := h.2.2.size; omega

set_option maxHeartbeats 4000000 in
theorem rput_any {D : Nat → Prop} (w : World) (v : Value) (d : Dir) (t : ByteArray) (f : Int) (h : EnP D w v d) (hr : Ris d) (hl : d.length ≤ 2000) (ht : t.size ≤ 1000000) (hn : ∀ e ∈ d, e.1.length ≤ 1000000) :
    Calls Tryz.prog 74 #[v, .string t, .int .i64 f] w fun e w' => ∃ ad cap, e = .returned (.slice ad (rputD d (nm t) f).length cap) ∧ OutI w w' (.slice ad (rputD d (nm t) f).length cap) (rputD d (nm t) f) := by
  obtain ⟨a, cap, rfl, h1, h2, h4⟩ := h
  have HC := hid h4
  have HR := hid hr
  have HN := hid hn
  have HS : Hid (Value.string t = .string (sOf (nm t))) := by rw [Hid, sOf_nm]
  clear h4 hr hn
  go_enter Tryz.func74, Tryz.ntmps74
  go_wp2
  go_loopw [7, 8, 9] (fun o b x wr => ∃ (i : Nat) (out : Dir) (inn : Bool) (ad : Option Addr) (cap' : Nat), o = .slice ad out.length cap' ∧ b = .bool inn ∧ x = .int .i64 i ∧ i ≤ d.length ∧ out.length ≤ i + 1 ∧ Hid (PutI d (nm t) f i inn out) ∧ Hid (OutI w wr (.slice ad out.length cap') out)) (fun _ _ x _ => d.length - (intOf x).toNat)
  case atStart => exact ⟨0, [], _, none, 0, rfl, rfl, rfl, by omega, by simp, PutI.start _ _ _, Row.nil _ _ _, by simp [Value.ownBlock], Kp.refl _ _⟩
  case round =>
    obtain ⟨i, out, inn, ad, cap', rfl, rfl, rfl, hi, ho, HI, HO⟩ := hrel
    by_cases hlt : i < d.length
    · obtain ⟨g, rfl, _, hg, hcell⟩ := HC.out (by intro e; subst e; simp at hlt)
      obtain ⟨c, hc⟩ : ∃ c, d[i]? = some c := ⟨_, List.getElem?_eq_getElem hlt⟩
      have hcc : Hid (∀ V, Kp No w V → V.cell? ⟨g, i * 2, none⟩ = some (.string (sOf c.1)) ∧ V.cell? ⟨g, i * 2 + 1, none⟩ = some (.int .i64 (c.2 : Int))) := fun V k => ⟨(k.cell (p := ⟨g, i * 2, none⟩) hg (fun h => h)).trans (hcell i c hc 0 (by omega)), (k.cell (p := ⟨g, i * 2 + 1, none⟩) hg (fun h => h)).trans (hcell i c hc 1 (by omega))⟩
      have e0 := (hcc.out wr HO.out.2.2).1
      have e1 := (hcc.out wr HO.out.2.2).2
      have HCC := hid hc
      have HL := hid (rLess_any (sOf c.1) t (by rw [sOf_size]; exact HN.out c (List.mem_of_getElem? hc)) ht)
      have HB : Hid (bytesBefore (sOf c.1).data.toList t.data.toList = bytesBefore c.1 (nm t)) := rfl
      clear hcell hc
      have hol : out.length + 1 ≤ 1000000 := by omega
      cases inn with
      | true =>
        clear HL HB
        by_cases hx : c.1 = nm t
        · have HJ := hid (HI.out.skip c HCC.out hx)
          rw [hx, sOf_nm] at e0
          clear hx HCC hcc
          go_wp2
          go_roundw
          case rel => exact ⟨i + 1, out, true, ad, cap', rfl, rfl, by go_num, by omega, by omega, HJ, HO⟩
          case measure => simp [intOf]; omega
        · have HJ := hid (HI.out.keep c HCC.out hx (fun e => by cases e))
          have hb := str_ne hx
          have hb' := str_neq hx
          clear hx HCC hcc
          have HE : Hid ([.string (sOf c.1), .int .i64 (c.2 : Int)] = entCells c) := rfl
          generalize sOf c.1 = sn at *
          go_wp2_with (first | (at_builtin; refine app_ent _ rfl _ _ rfl _ (.slice ad out.length cap') out c HE.out rfl rfl HO.out.1 hol ?_; intro ad2 cap2 w2 hr2 hk2 hb2; have HO2 := hid (HO.out.app hr2 hk2 hb2); clear hr2 hk2 hb2) | go_in)
          go_roundw
          case rel => exact ⟨i + 1, out ++ [c], true, ad2, cap2, by simp, rfl, by go_num, by omega, by simp; omega, HJ, by simpa using HO2⟩
          case measure => simp [intOf]; omega
      | false =>
        have hf0 := (HI.out.2 rfl).1
        cases hbb : bytesBefore c.1 (nm t) with
        | true =>
          have hx : c.1 ≠ nm t := fun e => by rw [e, WideAt.bytes_irrefl] at hbb; cases hbb
          have HJ := hid (HI.out.keep c HCC.out hx (fun _ => hbb))
          have hb := str_ne hx
          have hb' := str_neq hx
          rw [HB.out, hbb] at HL
          have HE : Hid ([.string (sOf c.1), .int .i64 (c.2 : Int)] = entCells c) := rfl
          clear hx HCC hbb HB
          generalize sOf c.1 = sn at *
          go_wp2_with (first | (go_at_call 81; refine (HL.out _).mono ?_; rintro e w1 ⟨rfl, hk⟩; have HO1 := hid (HO.out.kept hk); have x0 := (hcc.out w1 HO1.out.2.2).1; have x1 := (hcc.out w1 HO1.out.2.2).2; clear hk HO) | (at_builtin; refine app_ent _ rfl _ _ rfl _ (.slice ad out.length cap') out c HE.out rfl rfl HO1.out.1 hol ?_; intro ad2 cap2 w2 hr2 hk2 hb2; have HO2 := hid (HO1.out.app hr2 hk2 hb2); clear hr2 hk2 hb2) | go_in)
          go_roundw
          case rel => exact ⟨i + 1, out ++ [c], false, ad2, cap2, by simp, rfl, by go_num, by omega, by simp; omega, HJ, by simpa using HO2⟩
          case measure => simp [intOf]; omega
        | false =>
          have HJ := hid (HI.out.set HR.out c HCC.out hbb)
          have HOL : Hid (out.length ≤ i) := by
            obtain ⟨_, e, _⟩ := HI.out.2 rfl
            rw [Hid, e]; exact List.length_take_le _ _
          have hol2 : Hid ((out ++ [(nm t, f.toNat)]).length + 1 ≤ 1000000) := by have := HOL.out; rw [Hid]; simp; omega
          rw [HB.out, hbb] at HL
          have HE1 : Hid ([.string t, .int .i64 f] = entCells (nm t, f.toNat)) := by rw [Hid, entCells, sOf_nm, Int.toNat_of_nonneg hf0]
          have HE : Hid ([.string (sOf c.1), .int .i64 (c.2 : Int)] = entCells c) := rfl
          clear HB hbb
          by_cases hx : c.1 = nm t
          · have HJ2 := hid (HJ.out.skip c HCC.out hx)
            rw [hx, sOf_nm] at e0 HL hcc
            clear hx HCC HE
            go_wp2_with (first | (go_at_call 81; refine (HL.out _).mono ?_; rintro e w1 ⟨rfl, hk⟩; have HO1 := hid (HO.out.kept hk); clear hk HO) | (at_builtin; refine app_ent _ rfl _ _ rfl _ (.slice ad out.length cap') out (nm t, f.toNat) HE1.out rfl rfl HO1.out.1 hol ?_; intro ad2 cap2 w2 hr2 hk2 hb2; have HO2 := hid (HO1.out.app hr2 hk2 hb2); have x0 := (hcc.out w2 HO2.out.2.2).1; have x1 := (hcc.out w2 HO2.out.2.2).2; clear hr2 hk2 hb2) | go_in)
            go_roundw
            case rel => exact ⟨i + 1, out ++ [(nm t, f.toNat)], true, ad2, cap2, by simp, rfl, by go_num, by omega, by have := HOL.out; simp; omega, HJ2, by simpa using HO2⟩
            case measure => simp [intOf]; omega
          · have HJ2 := hid (HJ.out.keep c HCC.out hx (fun e => by cases e))
            have hb := str_ne hx
            have hb' := str_neq hx
            clear hx HCC
            generalize sOf c.1 = sn at *
            go_wp2_with (first | (go_at_call 81; refine (HL.out _).mono ?_; rintro e w1 ⟨rfl, hk⟩; have HO1 := hid (HO.out.kept hk); clear hk HO) | (at_builtin; first | (refine app_ent _ rfl _ _ rfl _ (.slice ad out.length cap') out (nm t, f.toNat) HE1.out rfl rfl HO1.out.1 hol ?_; intro ad2 cap2 w2 hr2 hk2 hb2; have HO2 := hid (HO1.out.app hr2 hk2 hb2); have x0 := (hcc.out w2 HO2.out.2.2).1; have x1 := (hcc.out w2 HO2.out.2.2).2; clear hr2 hk2 hb2 HO1) | (refine app_ent _ rfl _ _ rfl _ (.slice ad2 (out.length + 1) cap2) (out ++ [(nm t, f.toNat)]) c HE.out rfl rfl HO2.out.1 hol2.out ?_; intro ad3 cap3 w3 hr3 hk3 hb3; have HO3 := hid (HO2.out.app hr3 hk3 hb3); clear hr3 hk3 hb3)) | go_in)
            go_roundw
            case rel => exact ⟨i + 1, out ++ [(nm t, f.toNat)] ++ [c], true, ad3, cap3, by simp, rfl, by go_num, by omega, by have := HOL.out; simp; omega, HJ2, by simpa using HO3⟩
            case measure => simp [intOf]; omega
    · obtain rfl : i = d.length := by omega
      cases inn with
      | true =>
        have he : out = rputD d (nm t) f := by have := HI.out.1 rfl; rw [List.drop_length] at this; simpa [ddel] using this
        subst he
        go_wp2
        go_ret
        exact ⟨ad, cap', rfl, HO.out⟩
      | false =>
        have hf0 := (HI.out.2 rfl).1
        have HE1 : Hid ([.string t, .int .i64 f] = entCells (nm t, f.toNat)) := by rw [Hid, entCells, sOf_nm, Int.toNat_of_nonneg hf0]
        have HJ := hid (HI.out.last HR.out)
        have hol : out.length + 1 ≤ 1000000 := by omega
        go_wp2_with (first | (at_builtin; refine app_ent _ rfl _ _ rfl _ (.slice ad out.length cap') out (nm t, f.toNat) HE1.out rfl rfl HO.out.1 hol ?_; intro ad2 cap2 w2 hr2 hk2 hb2; have HO2 := hid (HO.out.app hr2 hk2 hb2); clear hr2 hk2 hb2) | go_in)
        go_ret
        have e : (rputD d (nm t) f).length = out.length + 1 := by rw [← HJ.out, List.length_append]; rfl
        refine ⟨ad2, cap2, by rw [e]; rfl, ?_⟩
        rw [e, ← HJ.out]
        exact HO2.out

end Go.Proofs.YtmiipifhbliamaaGreat.Sim
