/- Of the proof: the texts TrApart, TrInsM, TrIns, TrRef1, TrRef2, TrRef3, TrRef4, TrRef5, one behind the other. -/
import Derived.Test.YtdooiflmjeibdaaGreatDoorAbb
import Derived.Test.YtdooiflmjeibdaaGreatDoorB2
import Derived.Laws.CopyRow
import Derived.Laws.CopyOwn
import Derived.Lib.AppendZerosOnto
import Derived.Shelf.Spec.SlicesInsert
import Derived.Laws.IdiomStrings
import Derived.Lib.BufferRead
section
/-
  apart, Under.
-/
namespace Go.Proofs.YtdooiflmjeibdaaGreatDoor.Tr
open Go.RowKit

/-- The rows that apart builds, in its midst. -/
structure Two (w wr : World) (va vb : Value) (xs ys : List It) : Prop where
  a : IOwn wr va xs
  b : IOwn wr vb ys
  ne : ∀ x, va.ownBlock = some x → vb.ownBlock ≠ some x
  la : ∀ x, va.ownBlock = some x → w.heap.size ≤ x
  lb : ∀ x, vb.ownBlock = some x → w.heap.size ≤ x
  k : Kp No w wr
theorem Two.start (w : World) : Two w w (.slice none 0 0) (.slice none 0 0) [] [] := ⟨IOwn.nil _, IOwn.nil _, by simp [Value.ownBlock], by simp [Value.ownBlock], by simp [Value.ownBlock], Kp.refl _ _⟩
theorem Two.kept {w wr w' : World} {va vb : Value} {xs ys : List It} (h : Two w wr va vb xs ys) (k : Kp No wr w') : Two w w' va vb xs ys := ⟨h.a.kept k, h.b.kept k, h.ne, h.la, h.lb, h.k.andNone k⟩
theorem Two.swap {w wr : World} {va vb : Value} {xs ys : List It} (h : Two w wr va vb xs ys) : Two w wr vb va ys xs := ⟨h.b, h.a, fun x hx hy => h.ne x hy hx, h.lb, h.la, h.k⟩
theorem own_lt {w : World} {v : Value} {xs : List It} (h : IOwn w v xs) : ∀ x, v.ownBlock = some x → x < w.heap.size := fun x hx => (h.ty x hx).lt
/-- An append to the first one. -/
theorem Two.push {w wr w1 w2 : World} {va vb v' : Value} {xs ys zs : List It} (h : Two w wr va vb xs ys) (k : Kp No wr w1) (hg : w1.grownBy w2 va.ownBlock) (hown : IOwn w2 v' zs)
    (hb : v'.ownBlock = va.ownBlock ∨ v'.ownBlock = some w1.heap.size) : Two w w2 v' vb zs ys := by
  have h1 := h.kept k
  have kg : Kp (fun x => va.ownBlock = some x) w1 w2 := Kp.ofGrown hg
  have hb2 := h1.b.kp kg (fun x hx hy => h.ne x hy hx) (fun x hx _ ht => (h1.a.ty x hx).ne ht (by decide) rfl)
  refine ⟨hown, hb2, fun x hx hy => ?_, fun x hx => ?_, h.lb, h1.k.trans kg (fun x hx => .inr (h.la x hx))⟩
  · rcases hb with e | e
    · exact h.ne x (e ▸ hx) hy
    · rw [e] at hx
      simp only [Option.some.injEq] at hx
      have := own_lt h1.b x hy
      omega
  · rcases hb with e | e
    · exact h.la x (e ▸ hx)
    · rw [e] at hx
      simp only [Option.some.injEq] at hx
      have := h1.k.size
      omega
theorem ByP.form {P : Nat → Prop} {w : World} {v : Value} {bs : List Nat} (h : ByP P w v bs) : ∃ a c, v = .slice a bs.length c := by
  obtain ⟨a, c, e, _⟩ := h
  exact ⟨a, c, e⟩
theorem OwnB.one {w : World} {v : Value} {bs : List Nat} (h : OwnB w v bs) : v.oneCell' = true := by
  obtain ⟨a, c, rfl, _⟩ := h.shape
  rfl
theorem under_yes {t : List It} {i : Nat} {x : It} {p : ByteArray} (hx : t[i]? = some x) (h : withinB (tx p) (tx x.1) = true) : underL (t.take (i + 1)) p = underL (t.take i) p ++ [x] ∧ outL (t.take (i + 1)) p = outL (t.take i) p := by
  obtain ⟨hi, rfl⟩ := List.getElem?_eq_some_iff.1 hx
  rw [List.take_succ_eq_append_getElem hi, underL, outL, List.filter_append, List.filter_append, underL, outL]
  simp [h]
theorem under_no {t : List It} {i : Nat} {x : It} {p : ByteArray} (hx : t[i]? = some x) (h : withinB (tx p) (tx x.1) = false) : underL (t.take (i + 1)) p = underL (t.take i) p ∧ outL (t.take (i + 1)) p = outL (t.take i) p ++ [x] := by
  obtain ⟨hi, rfl⟩ := List.getElem?_eq_some_iff.1 hx
  rw [List.take_succ_eq_append_getElem hi, underL, outL, List.filter_append, List.filter_append, underL, outL]
  simp [h]
theorem take_next {t : List It} {i : Nat} {x : It} (hx : t[i]? = some x) : t.take (i + 1) = t.take i ++ [x] := by
  obtain ⟨hi, rfl⟩ := List.getElem?_eq_some_iff.1 hx
  exact List.take_succ_eq_append_getElem hi

set_option maxHeartbeats 4000000 in
theorem apart_any (w : World) (v : Value) (t : List It) (p : ByteArray) (h : IRow Any w v t) (hl : t.length ≤ 100000) (hs : ∀ x ∈ t, ShortI x) :
    Calls Tryz.prog 33 #[v, .string p] w fun e w' => ∃ a n c a' n' c', e = .returned (.tuple #[.slice a n c, .slice a' n' c']) ∧ Two w w' (.slice a n c) (.slice a' n' c') (underL t p) (outL t p) := by
  have HI := hid h
  have HSH := hid hs
  obtain ⟨a, cap, rfl, _⟩ := h.form
  obtain ⟨n, hn⟩ : ∃ n, t.length = n := ⟨_, rfl⟩
  have HN := hid hn
  have hcl := hid (fun (hne : t ≠ []) => h.cells hne)
  rw [hn] at hl HI hcl ⊢
  clear hn h hs
  go_enter Tryz.func33, Tryz.ntmps33
  go_wp2_with fail
  go_loopw [4, 5, 10] (fun v4 v5 x wr => ∃ (i : Nat) (a1 : Option Addr) (n1 c1 : Nat) (a2 : Option Addr) (n2 c2 : Nat), v4 = .slice a1 n1 c1 ∧ v5 = .slice a2 n2 c2 ∧ x = .int .i64 i ∧ i ≤ n ∧ Hid (Two w wr (.slice a1 n1 c1) (.slice a2 n2 c2) (underL (t.take i) p) (outL (t.take i) p))) (fun _ _ x _ => n - (intOf x).toNat)
  case atStart => exact ⟨0, none, 0, 0, none, 0, 0, rfl, rfl, rfl, Nat.zero_le _, Two.start w⟩
  case round =>
    obtain ⟨i, a1, n1, c1, a2, n2, c2, rfl, rfl, rfl, hi, HT⟩ := hrel
    by_cases hlt : i < n
    · have hltI : (i : Int) < (n : Int) := by omega
      have hi0 : (0 : Int) ≤ (i : Int) := by omega
      obtain ⟨x, hx⟩ : ∃ x, t[i]? = some x := ⟨_, List.getElem?_eq_getElem (by rw [HN.out]; omega)⟩
      have HX := hid hx
      have HSX := hid (HSH.out x (List.mem_of_getElem? hx))
      obtain ⟨g, o, c', e, hc⟩ := hcl.out (by rintro rfl; simp at hx)
      cases e
      obtain ⟨u, k0, k1, k2, hb⟩ := hc _ HT.out.k i x hx
      obtain ⟨au, cu, hu⟩ := hb.form
      subst hu
      have HU := hid hb
      have HL2 : Hid (x.2.2.length ≤ 20000000) := by have := HSX.out.2; unfold Hid; omega
      have HLEN : Hid ((underL (t.take i) p).length + 1 ≤ 1000000 ∧ (outL (t.take i) p).length + 1 ≤ 1000000) := by
        have h1 := List.length_filter_le (fun x : It => withinB (tx p) (tx x.1)) (t.take i)
        have h2 := List.length_filter_le (fun x : It => !withinB (tx p) (tx x.1)) (t.take i)
        have h3 := List.length_take_le i t
        unfold Hid underL outL
        omega
      clear hx hb
      have HWI := hid (fun W => within_any x.1 p W)
      cases hp : withinB (tx p) (tx x.1) with
      | true =>
        have HP := hid hp
        simp only [hp] at HWI
        clear hp
        go_wp2_with (first | (go_at_call 54; refine (HWI.out _).mono ?_; rintro e w1 ⟨rfl, rfl⟩) | (go_at_call 32; refine (clone_it _ x _ ((HU.out).kept ((Kp.refl _ _).alloc _)) HL2.out).mono ?_; rintro e w2 ⟨u', rfl, ho, _, hk⟩; have HO := hid ho; have HK2 := hid (((Kp.refl No _).alloc _).andNone hk); clear ho hk) | (at_builtin; refine app_item _ w2 rfl _ _ 30 Tryz.underlying30 rfl _ _ x u' rfl rfl rfl (HT.out.a.kept HK2.out) (HO.out.byU HL2.out HU.out.lt256) HO.out.one (by have := HLEN.out; omega) ?_; intro ad cap2 w3 hown hg hbk))
        have HTN := hid (HT.out.push (HK2.out.andNone ((Kp.refl No _).alloc _)) hg hown hbk)
        clear hown hg hbk
        go_roundw
        case rel => exact ⟨i + 1, ad, _, cap2, a2, n2, c2, rfl, rfl, by go_num, by omega, by
          have h := under_yes HX.out HP.out
          rw [Hid, h.1, h.2]
          exact HTN.out⟩
        case measure => simp [intOf] <;> omega
      | false =>
        have HP := hid hp
        simp only [hp] at HWI
        clear hp
        go_wp2_with (first | (go_at_call 54; refine (HWI.out _).mono ?_; rintro e w1 ⟨rfl, rfl⟩) | (go_at_call 32; refine (clone_it _ x _ ((HU.out).kept ((Kp.refl _ _).alloc _)) HL2.out).mono ?_; rintro e w2 ⟨u', rfl, ho, _, hk⟩; have HO := hid ho; have HK2 := hid (((Kp.refl No _).alloc _).andNone hk); clear ho hk) | (at_builtin; refine app_item _ w2 rfl _ _ 30 Tryz.underlying30 rfl _ _ x u' rfl rfl rfl (HT.out.b.kept HK2.out) (HO.out.byU HL2.out HU.out.lt256) HO.out.one (by have := HLEN.out; omega) ?_; intro ad cap2 w3 hown hg hbk))
        have HTN := hid (HT.out.swap.push (HK2.out.andNone ((Kp.refl No _).alloc _)) hg hown hbk)
        clear hown hg hbk
        go_roundw
        case rel => exact ⟨i + 1, a1, n1, c1, ad, _, cap2, rfl, rfl, by go_num, by omega, by
          have h := under_no HX.out HP.out
          rw [Hid, h.1, h.2]
          exact HTN.out.swap⟩
        case measure => simp [intOf] <;> omega
    · have hltI : ¬ (i : Int) < (n : Int) := by omega
      go_wp2
      go_ret2
      refine ⟨a1, n1, c1, a2, n2, c2, rfl, ?_⟩
      have := HT.out
      rwa [List.take_of_length_le (by rw [HN.out]; omega)] at this

set_option maxHeartbeats 1000000 in
theorem under_any (w : World) (v : Value) (t : List It) (p : ByteArray) (h : IRow Any w v t) (hl : t.length ≤ 100000) (hs : ∀ x ∈ t, ShortI x) :
    Calls Tryz.prog 15 #[v, .string p] w fun e w' => ∃ a n c, e = .returned (.slice a n c) ∧ IOwn w' (.slice a n c) (underL t p) ∧ (∀ x, (Value.slice a n c).ownBlock = some x → w.heap.size ≤ x) ∧ Kp No w w' := by
  have HA := hid (apart_any w v t p h hl hs)
  clear h hs
  go_enter Tryz.func15, Tryz.ntmps15
  go_wp2_with (go_at_call 33; refine HA.out.mono ?_; rintro e w1 ⟨a, n, c, a', n', c', rfl, ht⟩; have HT := hid ht; clear ht)
  go_ret
  exact ⟨a, n, c, rfl, HT.out.a, HT.out.la, HT.out.k⟩

end Go.Proofs.YtdooiflmjeibdaaGreatDoor.Tr
end

section
/-
  slices.Insert of one item: what its appends and copies do to a row of items.
-/

namespace Go.Proofs.YtdooiflmjeibdaaGreatDoor.Tr
open Go.RowKit

/-- append says the same by both types of slices of one element. -/
theorem append_types (t t' e ty : TypeId) (ht : Tryz.prog.underlying t = some (.slice e)) (ht' : Tryz.prog.underlying t' = some (.slice e)) (w : World) (b : Option Addr) (n c : Nat) (x : Value) :
    (Builtin.append_ #[t, t'] ty #[.slice b n c, x]).run Tryz.prog w = (Builtin.append_ #[t, t] ty #[.slice b n c, x]).run Tryz.prog w := by
  simp [Builtin.append_, run_underlying ht, run_underlying ht']

/-- copy of elements of k cells, into a row that is known whole. -/
theorem run_copyK (w : World) (dT sT ty elem : TypeId) (k g o dLen dCap : Nat) (a : Addr) (sLen sCap : Nat) (cur : List Value) (t : TypeId) (cs : List Value)
    (hu : Tryz.prog.underlying dT = some (.slice elem)) (hs : (Tryz.prog.info? elem).map (·.size) = some k)
    (hg : w.heap[g]? = some (.cells cur.toArray t (0, 0))) (hn : cs.length = Nat.min sLen dLen * k)
    (hsrc : ∀ j v, cs[j]? = some v → w.cell? (a.add j) = some v) (hfit : o + cs.length ≤ cur.length) (h1 : ∀ v ∈ cs, v.oneCell' = true) :
    (Builtin.copy_ #[dT, sT] ty #[.slice (some ⟨g, o, none⟩) dLen dCap, .slice (some a) sLen sCap]).run Tryz.prog w =
      .ok (goInt (Nat.min sLen dLen)) (w.setRow g (cur.take o ++ cs ++ cur.drop (o + cs.length)).toArray) := by
  have hl := run_loadCells_list (P := Tryz.prog) w a cs hsrc
  have hst := run_storeCells_at Tryz.prog g o t cs 0 cur.toArray w hg (by simpa using hfit) h1
  cases hq : Tryz.prog.info? elem with
  | none => simp [hq] at hs
  | some i =>
    have hi : i.size = k := by simpa [hq] using hs
    simp [Builtin.copy_, run_underlying hu, Builtin.lenOf, Builtin.firstCells, sizeOf, typeInfo, hq, hi, ← hn, hl, hst]
theorem setRow_kp (w : World) (g : Nat) (cs : Array Value) : Kp (· = g) w (w.setRow g cs) := ⟨rfl, rfl, rfl, by simp [World.setRow], fun k _ hk => setRow_other w g k cs hk⟩

theorem cellsI_append : ∀ (xs ys : List It) (us vs : List Value), us.length = xs.length → cellsI (xs ++ ys) (us ++ vs) = cellsI xs us ++ cellsI ys vs
  | [], ys, [], vs, _ => by simp [cellsI]
  | [], _, _ :: _, _, h => by simp at h
  | _ :: _, _, [], _, h => by simp at h
  | x :: xs, ys, u :: us, vs, h => by
    simp only [List.cons_append, cellsI, List.append_assoc]
    rw [cellsI_append xs ys us vs (by simpa using h)]
theorem cellsI_cut (xs : List It) (us : List Value) (i : Nat) (h : us.length = xs.length) (hi : i ≤ xs.length) : cellsI (xs.take i) (us.take i) = (cellsI xs us).take (i * 3) ∧ cellsI (xs.drop i) (us.drop i) = (cellsI xs us).drop (i * 3) := by
  have h1 := cellsI_append (xs.take i) (xs.drop i) (us.take i) (us.drop i) (by rw [List.length_take, List.length_take]; omega)
  rw [List.take_append_drop, List.take_append_drop] at h1
  have hl := cellsI_length (xs.take i) (us.take i) (by rw [List.length_take, List.length_take]; omega)
  have hl' : (cellsI (xs.take i) (us.take i)).length = i * 3 := by rw [hl, List.length_take, Nat.min_eq_left hi]
  rw [h1]
  exact ⟨by rw [← hl', List.take_left], by rw [← hl', List.drop_left]⟩

theorem IOwn.opened {w : World} {v : Value} {xs : List It} (h : IOwn w v xs) (hne : xs ≠ []) : ∃ (g cap : Nat) (cur us : List Value), v = .slice (some ⟨g, 0, none⟩) xs.length cap ∧ w.heap[g]? = some (.cells cur.toArray 41 (0, 0)) ∧ xs.length ≤ cap ∧ cap ≤ maxLen ∧
    cur.length = cap * 3 ∧ cur.take (xs.length * 3) = cellsI xs us ∧ us.length = xs.length ∧ ∀ (i : Nat) (x : It) (u : Value), xs[i]? = some x → us[i]? = some u → ByU w u x.2.2 ∧ u.oneCell' = true := by
  obtain ⟨us, hl, hr, hb⟩ := h
  rcases hr.2 with ⟨rfl, h0⟩ | ⟨g, cap, cur, rfl, _, hh, hn, hc, hs, ht⟩
  · exact absurd (List.length_eq_zero_iff.1 h0) hne
  · exact ⟨g, cap, cur.toList, us, rfl, by simpa using hh, hn, hc, by simpa using hs, ht, hl, hb⟩
theorem IOwn.closed {w : World} {g cap : Nat} {cur us : List Value} {ys : List It} (hh : w.heap[g]? = some (.cells cur.toArray 41 (0, 0))) (hn : ys.length ≤ cap) (hc : cap ≤ maxLen) (hs : cur.length = cap * 3) (ht : cur.take (ys.length * 3) = cellsI ys us) (hl : us.length = ys.length)
    (hb : ∀ (i : Nat) (x : It) (u : Value), ys[i]? = some x → us[i]? = some u → ByU w u x.2.2 ∧ u.oneCell' = true) : IOwn w (.slice (some ⟨g, 0, none⟩) ys.length cap) ys :=
  ⟨us, hl, ⟨cellsI_length ys us hl, .inr ⟨g, cap, cur.toArray, rfl, Nat.zero_le _, hh, hn, hc, by simpa using hs, by simpa using ht⟩⟩, hb⟩

/-- In place: what stood from a on is laid 3 cells further on, then X is laid over. -/
theorem splice_room (C X D : List Value) (a : Nat) (hX : X.length = 3) (h : a + 3 + D.length ≤ C.length) :
    let C1 := C.take (a + 3) ++ D ++ C.drop (a + 3 + D.length)
    let C2 := C1.take a ++ X ++ C1.drop (a + X.length)
    C1.length = C.length ∧ C2.length = C.length ∧ C2.take (a + 3 + D.length) = C.take a ++ X ++ D := by
  intro C1 C2
  have e0 : C.take (a + 3) = C.take a ++ (C.drop a).take 3 := by rw [List.take_add]
  have hla : (C.take a).length = a := by rw [List.length_take]; omega
  have hl3 : ((C.drop a).take 3).length = 3 := by rw [List.length_take, List.length_drop]; omega
  have e1 : C1 = C.take a ++ (C.drop a).take 3 ++ D ++ C.drop (a + 3 + D.length) := by show _ ++ D ++ _ = _; rw [e0]
  have e2 : C1.take a = C.take a := by rw [e1, List.append_assoc, List.append_assoc, List.take_append_of_le_length (by omega), List.take_of_length_le (by omega)]
  have e3 : C1.drop (a + X.length) = D ++ C.drop (a + 3 + D.length) := by
    rw [e1, hX, List.append_assoc, List.append_assoc, List.drop_append, List.drop_eq_nil_of_le (by omega), hla, List.drop_append, List.drop_eq_nil_of_le (by omega), hl3]
    simp
  have e4 : C2 = C.take a ++ X ++ D ++ C.drop (a + 3 + D.length) := by show C1.take a ++ X ++ C1.drop (a + X.length) = _; rw [e2, e3]; simp
  refine ⟨?_, ?_, ?_⟩
  · rw [e1]
    simp only [List.length_append, List.length_drop, hla, hl3]
    omega
  · rw [e4]
    simp only [List.length_append, List.length_drop, hla, hX]
    omega
  · rw [e4, List.take_append_of_le_length (by simp only [List.length_append, hla, hX]; omega)]
    exact List.take_of_length_le (by simp only [List.length_append, hla, hX]; omega)
/-- In a new row that begins with A: X behind A, D behind X. -/
theorem splice_grow (A Z X D : List Value) (hX : X.length = 3) (h : 3 + D.length ≤ Z.length) :
    let R := A ++ Z
    let R1 := R.take A.length ++ X ++ R.drop (A.length + X.length)
    let R2 := R1.take (A.length + 3) ++ D ++ R1.drop (A.length + 3 + D.length)
    R1.length = R.length ∧ R2.length = R.length ∧ R2.take (A.length + 3 + D.length) = A ++ X ++ D := by
  intro R R1 R2
  have e1 : R1 = A ++ X ++ Z.drop 3 := by
    show (A ++ Z).take A.length ++ X ++ (A ++ Z).drop (A.length + X.length) = _
    rw [List.take_left, hX, ← List.drop_drop, List.drop_left]
  have e2 : R1.take (A.length + 3) = A ++ X := by
    rw [e1, List.take_append_of_le_length (by simp only [List.length_append, hX]; omega)]
    exact List.take_of_length_le (by simp only [List.length_append, hX]; omega)
  have e4 : R2 = A ++ X ++ D ++ R1.drop (A.length + 3 + D.length) := by show R1.take (A.length + 3) ++ D ++ _ = _; rw [e2]
  have hl1 : R1.length = R.length := by
    rw [e1]
    show _ = (A ++ Z).length
    simp only [List.length_append, List.length_drop, hX]
    omega
  refine ⟨hl1, ?_, ?_⟩
  · rw [e4]
    simp only [List.length_append, List.length_drop, hX]
    rw [hl1]
    show _ = (A ++ Z).length
    simp only [R, List.length_append]
    omega
  · rw [e4, List.take_append_of_le_length (by simp only [List.length_append, hX]; omega)]
    exact List.take_of_length_le (by simp only [List.length_append, hX]; omega)

end Go.Proofs.YtdooiflmjeibdaaGreatDoor.Tr
end

section
/-
  slices.Insert of one item.
-/
namespace Go.Proofs.YtdooiflmjeibdaaGreatDoor.Tr
open Go.RowKit

/-- What Insert leaves. -/
structure InsP (w w' : World) (r : Option Nat) (v' : Value) (ys : List It) : Prop where
  own : IOwn w' v' ys
  at' : v'.ownBlock = r ∨ ∃ b, v'.ownBlock = some b ∧ w.heap.size ≤ b
  k : Kp (fun b => r = some b) w w'

set_option maxHeartbeats 4000000 in
set_option maxRecDepth 100000 in
theorem insert_end (w : World) (v : Value) (xs : List It) (x : It) (u : Value) (vb : Nat) (h : IOwn w v xs) (hvb : Blk w vb 41 (itC x u)) (hu : ByU w u x.2.2) (h1 : u.oneCell' = true) (hl : xs.length ≤ 1000) :
    Calls Tryz.prog 50 #[v, .int .i64 (xs.length : Int), .slice (some ⟨vb, 0, none⟩) 1 1] w fun e w' => ∃ v', e = .returned v' ∧ InsP w w' v.ownBlock v' (xs ++ [x]) := by
  have hty := h.ty
  obtain ⟨us, hus, hr, hb⟩ := h
  obtain ⟨i0, hi0, hz0, hz1', hz2⟩ := info_parts Tryz.infoItem
  obtain ⟨v', w', hrun, r1, r2, _, r4⟩ := run_append_own_at (P := Tryz.prog) w 0 30 30 41 i0 _ 3 48 Tryz.underlying30 hi0 hz0 hz1' hz2 rfl (by decide) v xs.length (cellsI xs us) hr
    ⟨vb, 0, none⟩ 1 1 (itC x u) (by simp [itC]) (fun j q hj => by rw [addr_add, Nat.zero_add, hvb.cell]; exact hj) (by
      intro z hz
      simp only [itC, List.mem_cons, List.not_mem_nil, or_false] at hz
      rcases hz with rfl | rfl | rfl
      · rfl
      · rfl
      · exact h1) (by unfold maxLen; omega) (by omega) (Nat.zero_le _)
  have HI : Hid (InsP w w' v.ownBlock v' (xs ++ [x])) := by
    have ho := IOwn.push hus hb hu h1 hty r1 r2
    refine ⟨ho, ?_, Kp.ofGrown r2⟩
    rcases r4 with e | e
    · exact .inl e
    · exact .inr ⟨_, e, Nat.le_refl _⟩
  generalize v.ownBlock = r at *
  obtain ⟨a, cap, rfl, hnc, hc, hnil, hsp⟩ := hr.shape
  have hrun2 : (Builtin.append_ #[30, 22] 30 #[.slice a xs.length cap, .slice (some ⟨vb, 0, none⟩) 1 1]).run Tryz.prog w = .ok v' w' := by
    rw [append_types 30 22 41 _ Tryz.underlying30 Tryz.underlying22]
    exact hrun
  generalize xs.length = n at *
  clear r1 r2 r4 hb hr hrun hus hvb hu h1 hty hi0 hz0 hz1' hz2
  have hncI : (n : Int) ≤ (cap : Int) := by omega
  have hn0 : (0 : Int) ≤ (n : Int) := by omega
  unfold maxLen at hc
  cases a with
  | none =>
    obtain ⟨rfl, rfl⟩ := hnil rfl
    go_enter Tryz.func50, Tryz.ntmps50
    go_wp2_with (at_builtin; refine Lib.wpList_append_run _ rfl _ _ _ _ rfl _ _ rfl rfl _ _ hrun2 ?_)
    all_goals (go_ret; exact ⟨v', rfl, HI.out⟩)
  | some ad =>
    obtain ⟨g, o, sp⟩ := ad
    obtain ⟨e1, e2⟩ := hsp _ rfl
    simp only at e1 e2
    subst e1 e2
    go_enter Tryz.func50, Tryz.ntmps50
    go_wp2_with (at_builtin; refine Lib.wpList_append_run _ rfl _ _ _ _ rfl _ _ rfl rfl _ _ hrun2 ?_)
    all_goals (go_ret; exact ⟨v', rfl, HI.out⟩)

theorem set_bytes {w w' : World} {g : Nat} {xs : List It} {us : List Value} {x : It} {u : Value} {i : Nat} (hus : us.length = xs.length) (hi : i ≤ xs.length)
    (hb : ∀ (i : Nat) (x : It) (u : Value), xs[i]? = some x → us[i]? = some u → ByU w u x.2.2 ∧ u.oneCell' = true) (hu : ByU w u x.2.2 ∧ u.oneCell' = true) (k : Kp (· = g) w w') (hg : ∀ b, b = g → b < w.heap.size → ¬ TyAt w b 5) :
    ∀ (j : Nat) (y : It) (q : Value), (xs.take i ++ x :: xs.drop i)[j]? = some y → (us.take i ++ u :: us.drop i)[j]? = some q → ByU w' q y.2.2 ∧ q.oneCell' = true := by
  intro j y q hy hq
  have l1 : (xs.take i).length = i := by rw [List.length_take]; omega
  have l2 : (us.take i).length = i := by rw [List.length_take]; omega
  by_cases h1 : j < i
  · rw [List.getElem?_append_left (by omega), List.getElem?_take_of_lt h1] at hy hq
    exact ⟨(hb j y q hy hq).1.kp k hg, (hb j y q hy hq).2⟩
  · rw [List.getElem?_append_right (by omega)] at hy hq
    rw [l1] at hy
    rw [l2] at hq
    by_cases h2 : j = i
    · subst h2
      simp at hy hq
      subst hy hq
      exact ⟨hu.1.kp k hg, hu.2⟩
    · obtain ⟨m, hm⟩ : ∃ m, j - i = m + 1 := ⟨j - i - 1, by omega⟩
      rw [hm] at hy hq
      simp only [List.getElem?_cons_succ, List.getElem?_drop] at hy hq
      exact ⟨(hb _ y q hy hq).1.kp k hg, (hb _ y q hy hq).2⟩
theorem cells_ins {xs : List It} {us : List Value} {x : It} {u : Value} {i : Nat} (hus : us.length = xs.length) (hi : i ≤ xs.length) :
    cellsI (xs.take i ++ x :: xs.drop i) (us.take i ++ u :: us.drop i) = (cellsI xs us).take (i * 3) ++ itC x u ++ (cellsI xs us).drop (i * 3) := by
  rw [cellsI_append _ _ _ _ (by rw [List.length_take, List.length_take]; omega), (cellsI_cut xs us i hus hi).1, cellsI, (cellsI_cut xs us i hus hi).2]
  simp

theorem drop_src {w : World} {g cap i n : Nat} {cur xs : List Value} (hh : w.heap[g]? = some (.cells cur.toArray 41 (0, 0))) (ht : cur.take (n * 3) = xs) (_hc : n ≤ cap) :
    ∀ j v, (xs.drop (i * 3))[j]? = some v → w.cell? ((⟨g, i * 3, none⟩ : Addr).add j) = some v := by
  intro j v hj
  rw [addr_add]
  rw [List.getElem?_drop, ← ht, List.getElem?_take] at hj
  split at hj
  · have hb : Blk w g 41 cur := hh
    rw [hb.cell]
    exact hj
  · cases hj
theorem Tryz.sizeItem : (Tryz.prog.info? 41).map (·.size) = some 3 := by kernel_rfl
theorem itC_one {x : It} {u : Value} (h1 : u.oneCell' = true) : ∀ z ∈ itC x u, z.oneCell' = true := by
  intro z hz
  simp only [itC, List.mem_cons, List.not_mem_nil, or_false] at hz
  rcases hz with rfl | rfl | rfl
  · rfl
  · rfl
  · exact h1
theorem cellsI_one {xs : List It} {us : List Value} (hus : us.length = xs.length) (h : ∀ (i : Nat) (x : It) (u : Value), xs[i]? = some x → us[i]? = some u → u.oneCell' = true) : ∀ z ∈ cellsI xs us, z.oneCell' = true := by
  induction xs generalizing us with
  | nil => intro z hz; cases us <;> simp [cellsI] at hz
  | cons x xs ih =>
    cases us with
    | nil => simp at hus
    | cons u us =>
      intro z hz
      rw [cellsI, List.mem_append] at hz
      rcases hz with hz | hz
      · exact itC_one (h 0 x u rfl rfl) z hz
      · exact ih (us := us) (by simpa using hus) (fun i y q hy hq => h (i + 1) y q (by simpa using hy) (by simpa using hq)) z hz

set_option maxHeartbeats 4000000 in
set_option maxRecDepth 100000 in
theorem insert_room (w : World) (xs : List It) (us : List Value) (x : It) (u : Value) (vb g cap i : Nat) (cur : List Value) (hh : w.heap[g]? = some (.cells cur.toArray 41 (0, 0))) (hc : cap ≤ maxLen) (hs : cur.length = cap * 3)
    (ht : cur.take (xs.length * 3) = cellsI xs us) (hus : us.length = xs.length) (hb : ∀ (i : Nat) (x : It) (u : Value), xs[i]? = some x → us[i]? = some u → ByU w u x.2.2 ∧ u.oneCell' = true)
    (hvb : Blk w vb 41 (itC x u)) (hne : vb ≠ g) (hu : ByU w u x.2.2) (h1 : u.oneCell' = true) (hl : xs.length ≤ 1000) (hi : i < xs.length) (hroom : xs.length + 1 ≤ cap) :
    Calls Tryz.prog 50 #[.slice (some ⟨g, 0, none⟩) xs.length cap, .int .i64 (i : Int), .slice (some ⟨vb, 0, none⟩) 1 1] w fun e w' => ∃ v', e = .returned v' ∧ InsP w w' (some g) v' (xs.take i ++ x :: xs.drop i) := by
  have hB : Blk w g 41 cur := hh
  have hsplice := splice_room cur (itC x u) ((cellsI xs us).drop (i * 3)) (i * 3) rfl (by rw [List.length_drop, cellsI_length _ _ hus, hs]; omega)
  have hDl : ((cellsI xs us).drop (i * 3)).length = (xs.length - i) * 3 := by rw [List.length_drop, cellsI_length _ _ hus]; omega
  have hDs := drop_src (i := i) hh ht (by omega : xs.length ≤ cap)
  have hD1 : ∀ z ∈ (cellsI xs us).drop (i * 3), z.oneCell' = true := fun z hz => cellsI_one hus (fun i x u hx hu => (hb i x u hx hu).2) z (List.mem_of_mem_drop hz)
  have hci := cells_ins (x := x) (u := u) hus (Nat.le_of_lt hi)
  rw [← ht, List.take_take, Nat.min_eq_left (by omega), ht] at hci
  have hbs := fun w' (k : Kp (· = g) w w') => set_bytes (x := x) (u := u) hus (Nat.le_of_lt hi) hb ⟨hu, h1⟩ k (fun b e _ ty => by subst e; exact ty.ne hB.ty (by decide) rfl)
  generalize (cellsI xs us).drop (i * 3) = D at *
  obtain ⟨C1, hC1⟩ : ∃ C1, C1 = cur.take (i * 3 + 3) ++ D ++ cur.drop (i * 3 + 3 + D.length) := ⟨_, rfl⟩
  obtain ⟨C2, hC2⟩ : ∃ C2, C2 = C1.take (i * 3) ++ itC x u ++ C1.drop (i * 3 + (itC x u).length) := ⟨_, rfl⟩
  simp only at hsplice
  rw [← hC1, ← hC2] at hsplice
  obtain ⟨hl1, hl2, htk⟩ := hsplice
  have hcp1 : ∀ ty dc sc, (Builtin.copy_ #[30, 30] ty #[.slice (some ⟨g, (i + 1) * 3, none⟩) (xs.length - i) dc, .slice (some ⟨g, i * 3, none⟩) (xs.length + 1 - i) sc]).run Tryz.prog w.drew = .ok (goInt ((xs.length - i : Nat) : Int)) (w.drew.setRow g C1.toArray) := fun ty dc sc => by
    have hm : Nat.min (xs.length + 1 - i) (xs.length - i) = xs.length - i := by simp only [Nat.min_def]; split <;> omega
    have h := run_copyK w.drew 30 30 ty 41 3 g (i * 3 + 3) (xs.length - i) dc ⟨g, i * 3, none⟩ (xs.length + 1 - i) sc cur 41 D Tryz.underlying30 Tryz.sizeItem hh (by rw [hm, hDl]) hDs (by rw [hDl, hs]; omega) hD1
    rw [hm, ← hC1] at h
    rw [show (i + 1) * 3 = i * 3 + 3 by omega]
    exact h
  have hcp2 : ∀ ty dc, (Builtin.copy_ #[30, 22] ty #[.slice (some ⟨g, i * 3, none⟩) (xs.length + 1 - i) dc, .slice (some ⟨vb, 0, none⟩) 1 1]).run Tryz.prog (w.drew.setRow g C1.toArray) = .ok (goInt 1) ((w.drew.setRow g C1.toArray).setRow g C2.toArray) := fun ty dc => by
    have hm : Nat.min 1 (xs.length + 1 - i) = 1 := by simp only [Nat.min_def]; split <;> omega
    have h := run_copyK (w.drew.setRow g C1.toArray) 30 22 ty 41 3 g (i * 3) (xs.length + 1 - i) dc ⟨vb, 0, none⟩ 1 1 C1 41 (itC x u) Tryz.underlying30 Tryz.sizeItem (setRow_heap w.drew g _ _ _ _ hh) (by rw [hm]; rfl) (fun j q hj => by
      have hb2 : Blk (w.drew.setRow g C1.toArray) vb 41 (itC x u) := (show (w.drew.setRow g C1.toArray).heap[vb]? = _ by rw [setRow_other _ _ _ _ hne]; exact hvb)
      rw [addr_add, Nat.zero_add, hb2.cell]
      exact hj) (by rw [hl1, hs]; show i * 3 + 3 ≤ _; omega) (itC_one h1)
    rw [hm, ← hC2] at h
    exact h
  have hov : ∀ lb cb, (callFunc 65 #[.slice (some ⟨vb, 0, none⟩) 1 1, .slice (some ⟨g, (i + 1) * 3, none⟩) lb cb]).run Tryz.prog w = .ok (.value (.bool false)) w := fun lb cb => by
    rw [run_callFunc_extern Tryz.func65 (by kernel_rfl) (by kernel_rfl) (by kernel_rfl) (e := Extern.SlicesOverlaps.overlaps #[22, 22] #[4]) (by kernel_rfl),
      Lib.run_overlaps_apart w 22 4 41 Tryz.underlying22 3 Tryz.sizeOf41 ⟨vb, 0, none⟩ ⟨g, (i + 1) * 3, none⟩ 1 1 lb cb hne 41 41 3 cur.length (by unfold Blk at hvb; simp [World.shape?, hvb, itC]) (by simp [World.shape?, hh]) (by omega) (hvb.frozen 0) (hvb.frozen 3)]
    rfl
  have HI : Hid (InsP w ((w.drew.setRow g C1.toArray).setRow g C2.toArray) (some g) (.slice (some ⟨g, 0, none⟩) (xs.length + 1) cap) (xs.take i ++ x :: xs.drop i)) := by
    have k : Kp (· = g) w ((w.drew.setRow g C1.toArray).setRow g C2.toArray) := (((Kp.refl (· = g) w).drew).trans (setRow_kp _ g _) (fun _ h => .inl h)).trans (setRow_kp _ g _) (fun _ h => .inl h)
    have hlen : (xs.take i ++ x :: xs.drop i).length = xs.length + 1 := by simp; omega
    refine ⟨?_, .inl rfl, k.mono (fun b e => .inl (by rw [e]))⟩
    rw [← hlen]
    refine IOwn.closed (cur := C2) (us := us.take i ++ u :: us.drop i) (setRow_heap _ g _ _ _ _ (setRow_heap w.drew g _ _ _ _ hh)) (by omega) hc (by rw [hl2, hs]) ?_ (by simp; omega) (hbs _ k)
    rw [hci, hlen]
    rw [← htk]
    congr 1
    rw [hDl]
    omega
  generalize xs.length = n at *
  clear hbs hci hDs hD1 hb hus ht htk hl1 hl2 hC1 hC2 hs hB hvb hu h1 hh hDl
  have hcc : (n : Int) ≤ (cap : Int) := by omega
  have hb1 : (0 : Int) ≤ (i : Int) + 1 := by omega
  have hz2 : ¬ ((i : Int) = (n : Int)) := by omega
  have hw1 : IntKind.i64.wrap ((i : Int) + 1) = (i : Int) + 1 := by rw [IntKind.wrap_i64]; omega
  have htn : ((i : Int) + 1).toNat = i + 1 := by omega
  have hb2 : ¬ (cap = i + 1) := by omega
  have hb3 : (i : Int) ≤ (n : Int) + 1 := by omega
  have hb4 : ¬ (cap = i) := by omega
  have hin : i ≤ n := by omega
  unfold maxLen at hc
  have mixed := Tryz.gsplit.mixed
  go_enter Tryz.func50, Tryz.ntmps50
  go_wp2_with (simp only [hov])
  go_region_law_o (refine step_copy_runI rfl _ _ 30 30 rfl _ _ (by simp [Act.eval, Act.put]) (by simp [Act.eval, Act.put]) (hcp1 _ _ _) ?_)
  go_wp2_with (at_builtin; refine wpList_copy_runI _ rfl _ _ 30 22 rfl _ _ rfl rfl (hcp2 _ _) ?_)
  go_ret
  exact ⟨_, rfl, HI.out⟩

theorem arr3 (A : List Value) (X Y : Array Value) : A.toArray ++ X ++ Y = (A ++ (X.toList ++ Y.toList)).toArray := by
  rw [← Array.toList_inj]
  simp only [Array.toList_append, List.append_assoc]
theorem Tryz.mixed : Tryz.prog.follows Departure.mixedOrders = true := Tryz.gsplit.mixed

set_option maxHeartbeats 4000000 in
set_option maxRecDepth 100000 in
theorem insert_grow (w : World) (xs : List It) (us : List Value) (x : It) (u : Value) (vb g cap i : Nat) (cur : List Value) (hh : w.heap[g]? = some (.cells cur.toArray 41 (0, 0))) (hnc : xs.length ≤ cap)
    (ht : cur.take (xs.length * 3) = cellsI xs us) (hus : us.length = xs.length) (hb : ∀ (i : Nat) (x : It) (u : Value), xs[i]? = some x → us[i]? = some u → ByU w u x.2.2 ∧ u.oneCell' = true)
    (hvb : Blk w vb 41 (itC x u)) (hu : ByU w u x.2.2) (h1 : u.oneCell' = true) (hl : xs.length ≤ 1000) (hi : i < xs.length) (hroom : cap < xs.length + 1) :
    Calls Tryz.prog 50 #[.slice (some ⟨g, 0, none⟩) xs.length cap, .int .i64 (i : Int), .slice (some ⟨vb, 0, none⟩) 1 1] w fun e w' => ∃ v', e = .returned v' ∧ InsP w w' (some g) v' (xs.take i ++ x :: xs.drop i) := by
  obtain ⟨i0, hi0, hz0, hz1', hz2⟩ := info_parts Tryz.infoItem
  have hgw : g < w.heap.size := (Array.getElem?_eq_some_iff.1 hh).1
  have hvw : vb < w.heap.size := hvb.lt
  have hDl : ((cellsI xs us).drop (i * 3)).length = (xs.length - i) * 3 := by rw [List.length_drop, cellsI_length _ _ hus]; omega
  have hAl : ((cellsI xs us).take (i * 3)).length = i * 3 := by rw [List.length_take, cellsI_length _ _ hus]; omega
  have hDs := drop_src (i := i) hh ht hnc
  have hAs : ∀ j v, ((cellsI xs us).take (i * 3))[j]? = some v → w.cell? ((⟨g, 0, none⟩ : Addr).add j) = some v := fun j v hj => by
    have h0 := drop_src (i := 0) hh ht hnc j v
    rw [Nat.zero_mul, List.drop_zero] at h0
    refine h0 ?_
    rw [List.getElem?_take] at hj
    split at hj
    · exact hj
    · cases hj
  have hD1 : ∀ z ∈ (cellsI xs us).drop (i * 3), z.oneCell' = true := fun z hz => cellsI_one hus (fun i x u hx hu => (hb i x u hx hu).2) z (List.mem_of_mem_drop hz)
  have hci := cells_ins (x := x) (u := u) hus (Nat.le_of_lt hi)
  have hbs := fun w' (k : Kp (· = w.heap.size) w w') => set_bytes (x := x) (u := u) hus (Nat.le_of_lt hi) hb ⟨hu, h1⟩ k (fun b e hlt => absurd hlt (by omega))
  generalize (cellsI xs us).drop (i * 3) = D at *
  generalize (cellsI xs us).take (i * 3) = A at *
  obtain ⟨G, hG⟩ : ∃ G, G = grownCap w (xs.length + 1) cap 41 := ⟨_, rfl⟩
  have hGn : xs.length + 1 ≤ G := by rw [hG]; exact grownCap_ge w _ _ _
  have hGm : G ≤ maxLen := by
    have := grownCap_le_maxLen w (xs.length + 1) cap 41 (by unfold maxLen; omega)
    rwa [← hG] at this
  obtain ⟨Z, hZ⟩ : ∃ Z : List Value, Z = (Builtin.zeroCells (Value.agg #[.string ⟨#[]⟩, .bool false, .slice none 0 0]).cells (xs.length + 1 - i)).toList ++ (Builtin.zeroCells (Value.agg #[.string ⟨#[]⟩, .bool false, .slice none 0 0]).cells (G - (xs.length + 1))).toList := ⟨_, rfl⟩
  have hZl : Z.length = (G - i) * 3 := by
    rw [hZ]
    simp [Builtin.zeroCells, Value.cells]
    omega
  have hsplice := splice_grow A Z (itC x u) D rfl (by rw [hZl, hDl]; omega)
  obtain ⟨R, hR⟩ : ∃ R, R = A ++ Z := ⟨_, rfl⟩
  obtain ⟨R1, hR1⟩ : ∃ R1, R1 = R.take A.length ++ itC x u ++ R.drop (A.length + (itC x u).length) := ⟨_, rfl⟩
  obtain ⟨R2, hR2⟩ : ∃ R2, R2 = R1.take (A.length + 3) ++ D ++ R1.drop (A.length + 3 + D.length) := ⟨_, rfl⟩
  simp only at hsplice
  rw [← hR, ← hR1, ← hR2] at hsplice
  obtain ⟨hl1, hl2, htk⟩ := hsplice
  have hRl : R.length = G * 3 := by rw [hR, List.length_append, hAl, hZl]; omega
  obtain ⟨W1, hW1⟩ : ∃ W1, W1 = w.drew.alloc (.cells R.toArray 41) := ⟨_, rfl⟩
  have hrz : ∀ ty, (Builtin.append_ #[30, 3] ty #[.slice (some ⟨g, 0, none⟩) i cap, .int .i64 ((xs.length : Int) + 1 - (i : Int))]).run Tryz.prog w = .ok (.slice (some ⟨w.heap.size, 0, none⟩) (xs.length + 1) G) W1 := fun ty => by
    have hold : (Builtin.firstCells i0.size i (.slice (some ⟨g, 0, none⟩) i cap)).run Tryz.prog w.drew = .ok A.toArray w.drew := by
      rw [hz1']
      exact run_firstCells_some w.drew 3 i ⟨g, 0, none⟩ i cap A hAl hAs
    have hik : i + (xs.length + 1 - i) = xs.length + 1 := by omega
    have h := Lib.run_append_grow_zeros w 30 3 ty 41 i0 _ .i64 .i64 Tryz.underlying30 Tryz.underlying3 hi0 hz0 (some ⟨g, 0, none⟩) i cap A hold (xs.length + 1 - i) (by omega) (by rw [hz1']; omega) (by omega) (by omega) (by rw [hz2]; omega) (by rw [hz2, hik]; exact growslice_fits hroom (by omega))
    rw [hik, ← hG] at h
    rw [show ((xs.length : Int) + 1 - (i : Int)) = ((xs.length + 1 - i : Nat) : Int) by omega, h, hW1, hR, hZ]
    rw [arr3]
  have hN1 : W1.heap[w.heap.size]? = some (.cells R.toArray 41 (0, 0)) := by rw [hW1]; exact (MapKept.heap_alloc w.drew _).1
  have hk1 : Kp No w W1 := by rw [hW1]; exact ((Kp.refl No w).drew).alloc _
  have hcpA : ∀ W : World, W.heap = W1.heap → ∀ ty dc, (Builtin.copy_ #[30, 22] ty #[.slice (some ⟨w.heap.size, i * 3, none⟩) (xs.length + 1 - i) dc, .slice (some ⟨vb, 0, none⟩) 1 1]).run Tryz.prog W = .ok (goInt 1) (W.setRow w.heap.size R1.toArray) := fun W hW ty dc => by
    have hm : Nat.min 1 (xs.length + 1 - i) = 1 := by simp only [Nat.min_def]; split <;> omega
    have h := run_copyK W 30 22 ty 41 3 w.heap.size (i * 3) (xs.length + 1 - i) dc ⟨vb, 0, none⟩ 1 1 R 41 (itC x u) Tryz.underlying30 Tryz.sizeItem (by rw [hW]; exact hN1) (by rw [hm]; rfl) (fun j q hj => by
      have hb2 : Blk W vb 41 (itC x u) := (show W.heap[vb]? = _ by rw [hW]; exact hvb.kp hk1 (fun h => h))
      rw [addr_add, Nat.zero_add, hb2.cell]
      exact hj) (by rw [hRl]; show i * 3 + 3 ≤ _; omega) (itC_one h1)
    rw [hm] at h
    rw [h, hR1, hAl]
    rfl
  have hN2 : (W1.setRow w.heap.size R1.toArray).heap[w.heap.size]? = some (.cells R1.toArray 41 (0, 0)) := setRow_heap _ _ _ _ _ _ hN1
  have hcpB : ∀ W : World, W.heap = (W1.setRow w.heap.size R1.toArray).heap → ∀ ty dc sc, (Builtin.copy_ #[30, 30] ty #[.slice (some ⟨w.heap.size, (i + 1) * 3, none⟩) (xs.length - i) dc, .slice (some ⟨g, i * 3, none⟩) (xs.length - i) sc]).run Tryz.prog W = .ok (goInt ((xs.length - i : Nat) : Int)) (W.setRow w.heap.size R2.toArray) := fun W hW ty dc sc => by
    have hm : Nat.min (xs.length - i) (xs.length - i) = xs.length - i := Nat.min_self _
    have h := run_copyK W 30 30 ty 41 3 w.heap.size (i * 3 + 3) (xs.length - i) dc ⟨g, i * 3, none⟩ (xs.length - i) sc R1 41 D Tryz.underlying30 Tryz.sizeItem (by rw [hW]; exact hN2) (by rw [hm, hDl]) (fun j q hj => by
      have hb2 : W.heap[g]? = w.heap[g]? := by rw [hW, setRow_other _ _ _ _ (by omega)]; exact hk1.block g hgw (fun h => h)
      have hc : W.cell? ((⟨g, i * 3, none⟩ : Addr).add j) = w.cell? ((⟨g, i * 3, none⟩ : Addr).add j) := by
        rw [addr_add]
        exact World.cell?_of_block (w := w) hb2
      rw [hc]
      exact hDs j q hj) (by rw [hDl, hl1, hRl]; omega) hD1
    rw [hm] at h
    rw [show (i + 1) * 3 = i * 3 + 3 by omega, h, hR2, hAl]
  have HI : ∀ W : World, Kp No w W → W.heap = ((W1.setRow w.heap.size R1.toArray).setRow w.heap.size R2.toArray).heap → InsP w W (some g) (.slice (some ⟨w.heap.size, 0, none⟩) (xs.length + 1) G) (xs.take i ++ x :: xs.drop i) := fun W k hW => by
    have hlen : (xs.take i ++ x :: xs.drop i).length = xs.length + 1 := by simp; omega
    refine ⟨?_, .inr ⟨_, rfl, Nat.le_refl _⟩, k.ofNo⟩
    rw [← hlen]
    refine IOwn.closed (cur := R2) (us := us.take i ++ u :: us.drop i) (by rw [hW]; exact setRow_heap _ _ _ _ _ _ hN2) (by omega) hGm (by rw [hl2, hRl]) ?_ (by simp; omega) (hbs _ k.ofNo)
    rw [hci, hlen, ← htk]
    congr 1
    rw [hDl, hAl]
    omega
  have HII := hid HI
  have HK3 : Hid (∀ W : World, W.heap = W1.heap → W.os = w.os → W.tape = w.tape → W.output = w.output → ∀ V : World, V = ((W.setRow w.heap.size R1.toArray).drew).setRow w.heap.size R2.toArray → Kp No w V ∧ V.heap = ((W1.setRow w.heap.size R1.toArray).setRow w.heap.size R2.toArray).heap) := fun W h1 h2 h3 h4 V hV => by
    subst hV
    have hk : Kp No w W := ⟨h2, h3, h4, by rw [h1]; exact hk1.size, fun b hb hn => by rw [h1]; exact hk1.block b hb hn⟩
    refine ⟨(((hk.trans (M := (· = w.heap.size)) (setRow_kp W _ _) (fun b e => .inr (by omega))).drew).trans (M := (· = w.heap.size)) (setRow_kp _ _ _) (fun b e => .inr (by omega))), ?_⟩
    simp only [World.setRow, World.drew, h1]
  generalize xs.length = n at *
  clear HI hbs hci hDs hAs hD1 hb hus ht htk hl1 hl2 hR1 hR2 hR hRl hZ hZl hvb hu h1 hh hDl hAl hN1 hN2 hk1 hi0 hz0 hz1' hz2 hG
  have hcc : (n : Int) ≤ (cap : Int) := by omega
  have hz2 : ¬ ((i : Int) = (n : Int)) := by omega
  have hz3 : (cap : Int) < (n : Int) + 1 := by omega
  have hb1 : (0 : Int) ≤ (i : Int) + 1 := by omega
  have hw1 : IntKind.i64.wrap ((i : Int) + 1) = (i : Int) + 1 := by rw [IntKind.wrap_i64]; omega
  have htn : ((i : Int) + 1).toNat = i + 1 := by omega
  have hGi : ¬ (G = i) := by omega
  have hGim : ¬ (G = i + 1) := by omega
  have hci : ¬ (cap = i) := by omega
  have hin : i ≤ n := by omega
  have hb3 : (i : Int) ≤ (n : Int) := by omega
  unfold maxLen at hGm
  have mixed := Tryz.mixed
  subst hW1
  have hcA := hcpA ((w.alloc (.cells R.toArray 41)).drew) rfl
  have hcB := hcpB ((((w.alloc (.cells R.toArray 41)).drew).setRow w.heap.size R1.toArray).drew) rfl
  clear hcpA hcpB
  go_enter Tryz.func50, Tryz.ntmps50
  go_wp2_with (at_builtin; refine Lib.wpList_append_run _ rfl _ _ _ _ rfl _ _ rfl rfl _ _ (hrz _) ?_)
  go_region_law_o (refine step_copy_runI rfl _ _ 30 30 rfl _ _ (by simp [Act.eval, Act.put]) (by simp [Act.eval, Act.put]) (hcB _ _ _) ?_)
  go_wp2
  go_ret
  have h := HK3.out ((w.alloc (.cells R.toArray 41)).drew) rfl rfl rfl rfl _ rfl
  exact ⟨_, rfl, HII.out _ h.1 h.2⟩

/-- slices.Insert of one item that lies in a block of its own. -/
theorem insert_any (w : World) (v : Value) (xs : List It) (x : It) (u : Value) (vb i : Nat) (h : IOwn w v xs) (hvb : Blk w vb 41 (itC x u)) (hne : v.ownBlock ≠ some vb) (hu : ByU w u x.2.2) (h1 : u.oneCell' = true) (hl : xs.length ≤ 1000) (hi : i ≤ xs.length) :
    Calls Tryz.prog 50 #[v, .int .i64 (i : Int), .slice (some ⟨vb, 0, none⟩) 1 1] w fun e w' => ∃ v', e = .returned v' ∧ InsP w w' v.ownBlock v' (xs.take i ++ x :: xs.drop i) := by
  by_cases hie : i = xs.length
  · subst hie
    rw [List.take_length, List.drop_length]
    exact insert_end w v xs x u vb h hvb hu h1 hl
  · obtain ⟨g, cap, cur, us, rfl, hh, hnc, hc, hs, ht, hus, hb⟩ := h.opened (fun e => hie (by rw [e] at hi ⊢; simpa using hi))
    by_cases hr : xs.length + 1 ≤ cap
    · exact insert_room w xs us x u vb g cap i cur hh hc hs ht hus hb hvb (by rintro rfl; exact hne rfl) hu h1 hl (by omega) hr
    · exact insert_grow w xs us x u vb g cap i cur hh hnc ht hus hb hvb hu h1 hl (by omega) (by omega)

end Go.Proofs.YtdooiflmjeibdaaGreatDoor.Tr
end

section
/-
  Find and dir, of the document.
-/
namespace Go.Proofs.YtdooiflmjeibdaaGreatDoor.Tr
open Go.RowKit

theorem str_eq (s p : ByteArray) : (s.toList == p.toList) = decide (s = p) := by
  rw [Bool.eq_iff_iff, beq_iff_eq, decide_eq_true_eq, ByteArray.toList_eq, ByteArray.toList_eq, ba_eq]
/-- Up to i there is none of that path. -/
def NoneTo (t : List It) (p : ByteArray) (i : Nat) : Prop := ∀ j y, j < i → t[j]? = some y → y.1 ≠ p
theorem none_step {t : List It} {p : ByteArray} {i : Nat} {x : It} (h : NoneTo t p i) (hx : t[i]? = some x) (hne : x.1 ≠ p) : NoneTo t p (i + 1) := fun j y hj hy => by
  by_cases e : j = i
  · subst e
    rw [hx] at hy
    cases hy
    exact hne
  · exact h j y (by omega) hy
theorem none_look {t : List It} {p : ByteArray} {i : Nat} (h : NoneTo t p i) (hi : t.length ≤ i) : look t p = none := look_none' (fun x hx => by
  obtain ⟨j, hj⟩ := List.mem_iff_getElem?.1 hx
  exact h j x (by have := (List.getElem?_eq_some_iff.1 hj).1; omega) hj)
theorem some_look {t : List It} {p : ByteArray} {i : Nat} {x : It} (h : NoneTo t p i) (hx : t[i]? = some x) (e : x.1 = p) : look t p = some x := by
  have hp : IdxP t (fun x => decide (x.1 = p)) (i : Int) := idx_some hx (by simpa using e) (fun j y hj hy => by simpa using h j y hj hy)
  rcases hp.find with ⟨h1, _⟩ | ⟨i', x', h1, h2, h3⟩
  · omega
  · have : i = i' := by omega
    subst this
    rw [hx] at h2
    cases h2
    exact h3
theorem zero_blk (w : World) (t : TypeId) : ∀ V, Kp No (w.alloc (.cells #[.string ⟨#[]⟩, .bool false, .slice none 0 0] t)) V → Blk V w.heap.size t zeroC := fun _ k => (Blk.new w t zeroC).kp k (fun h => h)

set_option maxHeartbeats 4000000 in
theorem rfind_no (w : World) (v : Value) (t : List It) (p : ByteArray) (h : IRow Any w v t) (hl : t.length ≤ 100000) (hn : look t p = none) :
    Calls Tryz.prog 40 #[v, .string p] w fun e w' => e = .returned (.tuple #[.agg #[.string ⟨#[]⟩, .bool false, .slice none 0 0], .bool false]) ∧ Kp No w w' := by
  have HB0 := hid (zero_blk w 41)
  have HK0 : Hid (Kp No w (w.alloc (.cells #[.string ⟨#[]⟩, .bool false, .slice none 0 0] 41))) := (Kp.refl No w).alloc _
  have hcl := hid (fun (hne : t ≠ []) => h.cells hne)
  obtain ⟨a, cap, rfl, hform⟩ := h.form
  have HNE := hid (look_none hn)
  obtain ⟨n, hN⟩ : ∃ n, t.length = n := ⟨_, rfl⟩
  have HNN := hid hN
  rw [hN] at hl hcl ⊢
  clear h hn hN hform
  have hws : w.heap.size < (w.alloc (.cells #[.string ⟨#[]⟩, .bool false, .slice none 0 0] 41)).heap.size := by simp
  have HWS := hid hws
  clear hws
  go_enter Tryz.func40, Tryz.ntmps40
  go_wp2_with fail
  go_loopw [6] (fun x wr => ∃ i : Nat, x = .int .i64 i ∧ i ≤ n ∧ wr = (w.alloc (.cells #[.string ⟨#[]⟩, .bool false, .slice none 0 0] 41))) (fun x _ => n - (intOf x).toNat)
  case atStart => exact ⟨0, rfl, Nat.zero_le _, rfl⟩
  case round =>
    obtain ⟨i, rfl, hi, rfl⟩ := hrel
    by_cases hlt : i < n
    · have hltI : (i : Int) < (n : Int) := by omega
      obtain ⟨x, hx⟩ : ∃ x, t[i]? = some x := ⟨_, List.getElem?_eq_getElem (by rw [HNN.out]; omega)⟩
      obtain ⟨g, o, c', e, hc⟩ := hcl.out (by rintro rfl; simp at hx)
      cases e
      obtain ⟨u, c0, c1, c2, _⟩ := hc _ HK0.out i x hx
      have hne : (x.1.toList == p.toList) = false := by rw [str_eq]; exact decide_eq_false (HNE.out x (List.mem_of_getElem? hx))
      clear hx hc c1 c2
      go_wp2
      go_roundw
      case rel => exact ⟨i + 1, by go_num, by omega, by first | rfl | trivial⟩
      case measure => simp [intOf] <;> omega
    · have hltI : ¬ (i : Int) < (n : Int) := by omega
      have hB := HB0.out _ (Kp.refl No _)
      obtain ⟨q0, q1, q2⟩ := rets2 _ _ _ _ _ _ hB
      have f0 := hB.frozen 0
      have f1 := hB.frozen 1
      have f2 := hB.frozen 2
      have HW := hid (((hB.setCell 0 (.string ⟨#[]⟩)).setCell 1 (.bool false)).setCell 2 (.slice none 0 0))
      have HKW := hid (Kp.set3 (w.alloc (.cells #[.string ⟨#[]⟩, .bool false, .slice none 0 0] 41)) w.heap.size (.string ⟨#[]⟩) (.bool false) (.slice none 0 0))
      generalize (w.alloc (.cells #[.string ⟨#[]⟩, .bool false, .slice none 0 0] 41)) = W0 at *
      clear hB
      go_wp2
      generalize (((W0.setCell ⟨w.heap.size, 0, none⟩ (.string ⟨#[]⟩)).setCell ⟨w.heap.size, 1, none⟩ (.bool false)).setCell ⟨w.heap.size, 2, none⟩ (.slice none 0 0)) = w9 at *
      obtain ⟨y0, y1, y2⟩ := rets2 _ _ _ _ _ _ HW.out
      clear q0 q1 q2 f0 f1 f2
      exact bodyPost_ret (v := .tuple #[.agg #[.string ⟨#[]⟩, .bool false, .slice none 0 0], .bool false]) (by simp [results, Tryz.results40, go_sem, y0, y1, y2]) rfl ⟨rfl, HK0.out.trans HKW.out (fun b hb => .inr (by omega))⟩

set_option maxHeartbeats 4000000 in
theorem rfind_yes (w : World) (v : Value) (t : List It) (p : ByteArray) (x : It) (h : IRow Any w v t) (hl : t.length ≤ 100000) (hn : look t p = some x) :
    Calls Tryz.prog 40 #[v, .string p] w fun e w' => ∃ u, e = .returned (.tuple #[.agg #[.string x.1, .bool x.2.1, u], .bool true]) ∧ ByP Any w' u x.2.2 ∧ Kp No w w' := by
  have HB0 := hid (zero_blk w 41)
  have HK0 : Hid (Kp No w (w.alloc (.cells #[.string ⟨#[]⟩, .bool false, .slice none 0 0] 41))) := (Kp.refl No w).alloc _
  obtain ⟨g, o, cap, rfl, hc⟩ := h.cells (by rintro rfl; simp [look] at hn)
  have HC := hid hc
  have HSO := hid hn
  obtain ⟨n, hN⟩ : ∃ n, t.length = n := ⟨_, rfl⟩
  have HNN := hid hN
  rw [hN] at hl ⊢
  clear h hn hN hc
  go_enter Tryz.func40, Tryz.ntmps40
  go_wp2_with fail
  go_loopw [6] (fun x wr => ∃ i : Nat, x = .int .i64 i ∧ i ≤ n ∧ Hid (NoneTo t p i) ∧ wr = (w.alloc (.cells #[.string ⟨#[]⟩, .bool false, .slice none 0 0] 41))) (fun x _ => n - (intOf x).toNat)
  case atStart => exact ⟨0, rfl, Nat.zero_le _, fun j y hj => absurd hj (Nat.not_lt_zero _), rfl⟩
  case round =>
    obtain ⟨i, rfl, hi, HT, rfl⟩ := hrel
    by_cases hlt : i < n
    · have hltI : (i : Int) < (n : Int) := by omega
      obtain ⟨y, hy⟩ : ∃ y, t[i]? = some y := ⟨_, List.getElem?_eq_getElem (by rw [HNN.out]; omega)⟩
      obtain ⟨u, c0, c1, c2, hu⟩ := HC.out _ HK0.out i y hy
      have hst := str_eq y.1 p
      by_cases hp : y.1 = p
      · rw [decide_eq_true hp] at hst
        have e := some_look HT.out hy hp
        rw [HSO.out] at e
        cases e
        obtain ⟨au, cu, hau⟩ := hu.form
        subst hau
        have HU := hid hu
        have hB := HB0.out _ (Kp.refl No _)
        obtain ⟨q0, q1, q2⟩ := rets2 _ _ _ _ _ _ hB
        have f0 := hB.frozen 0
        have f1 := hB.frozen 1
        have f2 := hB.frozen 2
        have HW := hid (((hB.setCell 0 (.string x.1)).setCell 1 (.bool x.2.1)).setCell 2 (.slice au x.2.2.length cu))
        have HKW := hid (Kp.set3 (w.alloc (.cells #[.string ⟨#[]⟩, .bool false, .slice none 0 0] 41)) w.heap.size (.string x.1) (.bool x.2.1) (.slice au x.2.2.length cu))
        have HUW : Hid (ByP Any w (.slice au x.2.2.length cu) x.2.2) := by
          obtain ⟨u2, d0, d1, d2, hu2⟩ := HC.out w (Kp.refl _ _) i x hy
          have := (HK0.out.cell (p := ⟨g, o + i * 3 + 2, none⟩) (World.block_lt_of_cell? _ _ d2) (fun h => h)).symm.trans c2
          rw [d2] at this
          cases this
          exact hu2
        generalize (w.alloc (.cells #[.string ⟨#[]⟩, .bool false, .slice none 0 0] 41)) = W0 at *
        clear hB hy hu hp
        go_wp2
        generalize (((W0.setCell ⟨w.heap.size, 0, none⟩ (.string x.1)).setCell ⟨w.heap.size, 1, none⟩ (.bool x.2.1)).setCell ⟨w.heap.size, 2, none⟩ (.slice au x.2.2.length cu)) = w9 at *
        obtain ⟨y0, y1, y2⟩ := rets2 _ _ _ _ _ _ HW.out
        have HE : Hid (Kp No w w9) := HK0.out.trans HKW.out (fun b hb => .inr (by omega))
        clear q0 q1 q2 f0 f1 f2
        exact bodyPost_ret (v := .tuple #[.agg #[.string x.1, .bool x.2.1, .slice au x.2.2.length cu], .bool true]) (by simp [results, Tryz.results40, go_sem, y0, y1, y2]) rfl ⟨_, rfl, HUW.out.kept HE.out, HE.out⟩
      · rw [decide_eq_false hp] at hst
        have HS := hid (none_step HT.out hy hp)
        clear hy c1 c2 hu hp
        go_wp2
        go_roundw
        case rel => exact ⟨i + 1, by go_num, by omega, HS.out, by first | rfl | trivial⟩
        case measure => simp [intOf] <;> omega
    · exfalso
      have := none_look HT.out (by rw [HNN.out]; omega)
      rw [HSO.out] at this
      cases this

set_option maxHeartbeats 4000000 in
theorem rdir_any (w : World) (v : Value) (t : List It) (p : ByteArray) (h : IRow Any w v t) (hl : t.length ≤ 100000) (hp : p.size ≤ 1000000) :
    Calls Tryz.prog 41 #[v, .string p] w fun e w' => e = .returned (.int .i64 (homeF t p)) ∧ Kp No w w' := by
  have HS := fun W => rsplit_any p hp W
  have HF : Hid (homeF t p = if (splitS p).1 = ⟨#[]⟩ then 0 else match look t (splitS p).1 with | none => 5 | some x => if x.2.1 then 0 else 7) := rfl
  generalize (splitS p).1 = d at *
  generalize (splitS p).2 = e at *
  cases hx : look t d with
  | none =>
    have HN := hid (fun (V : World) (k : Kp No w V) => rfind_no V v t d (h.kept k) hl hx)
    rw [HF.out, hx]
    clear HF h hx
    by_cases hd : d = ⟨#[]⟩
    · subst hd
      rw [if_pos rfl]
      go_enter Tryz.func41, Tryz.ntmps41
      go_wp2_with (first | (go_at_call 60; refine (HS _).mono ?_; rintro e w1 ⟨rfl, hk⟩; have HK := hid hk; clear hk) | (go_at_call 40; refine (HN.out _ HK.out).mono ?_; rintro e w2 ⟨rfl, hk⟩; have HK2 := hid (HK.out.andNone hk); clear hk))
      go_ret
      exact ⟨rfl, HK2.out.alloc _⟩
    · have b0 := isEmpty_no hd
      rw [if_neg hd]
      go_enter Tryz.func41, Tryz.ntmps41
      go_wp2_with (first | (go_at_call 60; refine (HS _).mono ?_; rintro e w1 ⟨rfl, hk⟩; have HK := hid hk; clear hk) | (go_at_call 40; refine (HN.out _ HK.out).mono ?_; rintro e w2 ⟨rfl, hk⟩; have HK2 := hid (HK.out.andNone hk); clear hk))
      go_ret
      exact ⟨rfl, HK2.out.alloc _⟩
  | some x =>
    have HN := hid (fun (V : World) (k : Kp No w V) => rfind_yes V v t d x (h.kept k) hl hx)
    rw [HF.out, hx]
    clear HF h hx
    obtain ⟨xs, xd, xb⟩ := x
    by_cases hd : d = ⟨#[]⟩
    · subst hd
      rw [if_pos rfl]
      go_enter Tryz.func41, Tryz.ntmps41
      go_wp2_with (first | (go_at_call 60; refine (HS _).mono ?_; rintro e w1 ⟨rfl, hk⟩; have HK := hid hk; clear hk) | (go_at_call 40; refine (HN.out _ HK.out).mono ?_; rintro e w2 ⟨u, rfl, hb, hk⟩; obtain ⟨au, cu, hau⟩ := hb.form; subst hau; have HK2 := hid (HK.out.andNone hk); clear hk hb))
      go_ret
      exact ⟨rfl, HK2.out.alloc _⟩
    · have b0 := isEmpty_no hd
      rw [if_neg hd]
      cases xd <;>
      · simp only [if_true, if_false, Bool.false_eq_true]
        go_enter Tryz.func41, Tryz.ntmps41
        go_wp2_with (first | (go_at_call 60; refine (HS _).mono ?_; rintro e w1 ⟨rfl, hk⟩; have HK := hid hk; clear hk) | (go_at_call 40; refine (HN.out _ HK.out).mono ?_; rintro e w2 ⟨u, rfl, hb, hk⟩; obtain ⟨au, cu, hau⟩ := hb.form; subst hau; have HK2 := hid (HK.out.andNone hk); clear hk hb))
        go_ret
        exact ⟨rfl, HK2.out.alloc _⟩

end Go.Proofs.YtdooiflmjeibdaaGreatDoor.Tr
end

section
/-
  Bytes that are the same; items that are the same; Light; Bytes.
-/
namespace Go.Proofs.YtdooiflmjeibdaaGreatDoor.Tr
open Go.RowKit

def u8s (bs : List Nat) : Tx := bs.map UInt8.ofNat
theorem u8s_inj : ∀ (a b : List Nat), (∀ x ∈ a, x < 256) → (∀ x ∈ b, x < 256) → u8s a = u8s b → a = b
  | [], [], _, _, _ => rfl
  | [], _ :: _, _, _, h => by simp [u8s] at h
  | _ :: _, [], _, _, h => by simp [u8s] at h
  | x :: a, y :: b, ha, hb, h => by
    simp only [u8s, List.map_cons, List.cons.injEq] at h
    have h1 := congrArg UInt8.toNat h.1
    have hx := ha x (List.mem_cons_self ..)
    have hy := hb y (List.mem_cons_self ..)
    rw [UInt8.toNat_ofNat', UInt8.toNat_ofNat', Nat.mod_eq_of_lt (by omega), Nat.mod_eq_of_lt (by omega)] at h1
    rw [h1, u8s_inj a b (fun z hz => ha z (List.mem_cons_of_mem _ hz)) (fun z hz => hb z (List.mem_cons_of_mem _ hz)) h.2]
theorem conv_by {w : World} {v : Value} {bs : List Nat} (h : ByP Any w v bs) : (convert 23 9 v).run Tryz.prog w = .ok (.string ⟨(u8s bs).toArray⟩) w := by
  obtain ⟨a, cap, rfl, _, _, h4, _, h6, h7⟩ := h
  cases a with
  | none =>
    obtain ⟨rfl, rfl⟩ := h4 rfl
    exact Lib.run_convert_nil_bytes w 23 9 5 0 Tryz.underlying23 Tryz.underlying5 Tryz.underlying9
  | some ad =>
    have hl : (u8s bs).length = bs.length := by simp [u8s]
    have := run_convert_bytes_back (P := Tryz.prog) w 23 9 5 ad cap (u8s bs) Tryz.underlying23 Tryz.underlying5 Tryz.underlying9 (fun j hj => by
      have hj' : j < bs.length := by omega
      obtain ⟨g, o, e, _, _, hc⟩ := h7 (by rintro rfl; simp at hj')
      cases e
      rw [addr_add, hc j hj']
      have h256 := h6 _ (List.getElem_mem hj')
      simp only [u8s, List.getElem_map]
      rw [UInt8.toNat_ofNat', Nat.mod_eq_of_lt (by omega), getD_at hj'])
    rw [hl] at this
    exact this
theorem u8s_eq {a b : List Nat} (ha : ∀ x ∈ a, x < 256) (hb : ∀ x ∈ b, x < 256) : (u8s a == u8s b) = decide (a = b) := by
  rw [Bool.eq_iff_iff, beq_iff_eq, decide_eq_true_eq]
  exact ⟨fun h => u8s_inj a b ha hb h, fun h => by rw [h]⟩


set_option maxHeartbeats 4000000 in
/-- Bytes of the first layer's document. -/
theorem rb01_any (w : World) (v u : Value) (a b : List Nat) (hv : ByP Any w v a) (hu : ByP Any w u b) (hl : a.length ≤ 1000000) : Calls Tryz.prog 48 #[v, u] w fun e w' => e = .returned (.bool (decide (a = b))) ∧ Kp No w w' := by
  have HV := hid hv
  have HU := hid hu
  have HD : Hid (∀ q : Bool, (q = true ↔ a = b) → decide (a = b) = q) := fun q hq => by
    rw [Bool.eq_iff_iff, decide_eq_true_eq]
    exact hq.symm
  generalize decide (a = b) = r at *
  obtain ⟨n, hn⟩ : ∃ n, a.length = n := ⟨_, rfl⟩
  obtain ⟨m, hm⟩ : ∃ m, b.length = m := ⟨_, rfl⟩
  have HN := hid hn
  have HM := hid hm
  obtain ⟨a1, c1, rfl, _, _, _, _, h6, h7⟩ := hv
  obtain ⟨a2, c2, rfl, _, _, _, _, g6, g7⟩ := hu
  have H7 := hid h7
  have G7 := hid g7
  have H6 := hid h6
  have G6 := hid g6
  rw [hn] at hl H7 ⊢
  rw [hm] at G7 ⊢
  clear h6 h7 g6 g7 hn hm HV HU
  by_cases hnm : n = m
  · subst hnm
    have e0 : ((n : Int) != (n : Int)) = false := by simp
    go_enter Tryz.func48, Tryz.ntmps48
    go_wp2_with fail
    go_loopw [5] (fun x wr => ∃ i : Nat, x = .int .i64 i ∧ i ≤ n ∧ Hid ((∀ j, j < i → a.getD j 0 = b.getD j 0) ∧ Kp No w wr)) (fun x _ => n - (intOf x).toNat)
    case atStart => exact ⟨0, rfl, Nat.zero_le _, fun j h => absurd h (Nat.not_lt_zero _), Kp.refl _ _⟩
    case round =>
      obtain ⟨i, rfl, hi, HS⟩ := hrel
      by_cases hlt : i < n
      · have hltI : (i : Int) < (n : Int) := by omega
        have hi0 : (0 : Int) ≤ (i : Int) := by omega
        obtain ⟨g, o, rfl, _, hg, hc⟩ := H7.out (by intro e; have := HN.out; rw [e] at this; simp at this; omega)
        obtain ⟨g', o', rfl, _, hg', hc'⟩ := G7.out (by intro e; have := HM.out; rw [e] at this; simp at this; omega)
        have x0 : wr.cell? ⟨g, o + i, none⟩ = some (.int .u8 (a.getD i 0 : Nat)) := (HS.out.2.cell (p := ⟨g, o + i, none⟩) hg (fun h => h)).trans (hc i hlt)
        have y0 : wr.cell? ⟨g', o' + i, none⟩ = some (.int .u8 (b.getD i 0 : Nat)) := (HS.out.2.cell (p := ⟨g', o' + i, none⟩) hg' (fun h => h)).trans (hc' i hlt)
        have HX : Hid (∃ x y, a.getD i 0 = x ∧ b.getD i 0 = y) := ⟨_, _, rfl, rfl⟩
        obtain ⟨x, y, hx, hy⟩ := HX.out
        have HXX := hid hx
        have HYY := hid hy
        rw [hx] at x0
        rw [hy] at y0
        clear hc hc' hx hy HX
        by_cases hxy : x = y
        · subst hxy
          go_wp2_with fail
          go_quiet (fail)
          go_wp2
          go_roundw
          case rel => exact ⟨i + 1, by go_num, by omega, fun j hj => by
            by_cases e : j = i
            · rw [e, HXX.out, HYY.out]
            · exact HS.out.1 j (by omega), HS.out.2.drewN nq⟩
          case measure => simp [intOf] <;> omega
        · have hne : ((x : Int) != (y : Int)) = true := by simp; omega
          go_wp2_with fail
          go_quiet (fail)
          go_wp2
          go_ret
          refine ⟨?_, HS.out.2.drewN nq⟩
          rw [HD.out false ⟨fun h => (by cases h), fun h => (by rw [h] at HXX; exact absurd (HXX.out.symm.trans HYY.out) hxy)⟩]
          rfl
      · have hltI : ¬ (i : Int) < (n : Int) := by omega
        go_wp2
        go_ret
        refine ⟨?_, HS.out.2⟩
        rw [HD.out true ⟨fun _ => ?_, fun _ => rfl⟩]
        · rfl
        · apply List.ext_getElem (by rw [HN.out, HM.out])
          intro j hj1 hj2
          have := HS.out.1 j (by have := HN.out; omega)
          rwa [getD_at hj1, getD_at hj2] at this
  · have e0 : ((n : Int) != (m : Int)) = true := by simp; omega
    rw [HD.out false ⟨fun h => (by cases h), fun h => (by have h1 := HN.out; rw [h, HM.out] at h1; exact absurd h1.symm hnm)⟩]
    go_enter Tryz.func48, Tryz.ntmps48
    go_wp2
    go_ret
    exact ⟨rfl, Kp.refl _ _⟩

theorem two_box (w : World) (x y : It) (u v : Value) (t : TypeId) : ∀ V, Kp No ((w.alloc (.cells (itC x u).toArray t)).alloc (.cells (itC y v).toArray t)) V →
    (V.cell? ⟨w.heap.size, 0, none⟩ = some (.string x.1) ∧ V.cell? ⟨w.heap.size, 1, none⟩ = some (.bool x.2.1) ∧ V.cell? ⟨w.heap.size, 2, none⟩ = some u) ∧ (V.cell? ⟨w.heap.size + 1, 0, none⟩ = some (.string y.1) ∧ V.cell? ⟨w.heap.size + 1, 1, none⟩ = some (.bool y.2.1) ∧ V.cell? ⟨w.heap.size + 1, 2, none⟩ = some v) := fun V k => by
  refine ⟨box_it w x u t V (((Kp.refl No _).alloc _).andNone k), ?_⟩
  have := box_it (w.alloc (.cells (itC x u).toArray t)) y v t V k
  simpa using this
theorem item_eq (x y : It) : decide (x = y) = (decide (x.1 = y.1) && (x.2.1 == y.2.1) && decide (x.2.2 = y.2.2)) := by
  obtain ⟨a, b, c⟩ := x
  obtain ⟨d, e, f⟩ := y
  rw [Bool.eq_iff_iff]
  simp [Bool.and_eq_true, and_assoc]

set_option maxHeartbeats 4000000 in
theorem rsameitem_any (w : World) (x y : It) (u v : Value) (hu : ByP Any w u x.2.2) (hv : ByP Any w v y.2.2) (hx : ShortI x) :
    Calls Tryz.prog 22 #[.agg #[.string x.1, .bool x.2.1, u], .agg #[.string y.1, .bool y.2.1, v]] w fun e w' => e = .returned (.bool (decide (x = y))) ∧ Kp No w w' := by
  have HB := hid (fun (V : World) (k : Kp No w V) => rb01_any V u v x.2.2 y.2.2 (hu.kept k) (hv.kept k) (by have := hx.2; omega))
  rw [item_eq]
  obtain ⟨s, d, bs⟩ := x
  obtain ⟨s', d', bs'⟩ := y
  have h1 := str_eq s s'
  simp only at HB
  obtain ⟨a1, c1, rfl⟩ := hu.form
  obtain ⟨a2, c2, rfl⟩ := hv.form
  have HTB := hid (two_box w (s, d, bs) (s', d', bs') (.slice a1 bs.length c1) (.slice a2 bs'.length c2) 41)
  have HK0 : Hid (Kp No w ((w.alloc (.cells (itC (s, d, bs) (.slice a1 bs.length c1)).toArray 41)).alloc (.cells (itC (s', d', bs') (.slice a2 bs'.length c2)).toArray 41))) := ((Kp.refl No w).alloc _).alloc _
  clear hu hv hx
  generalize decide (s = s') = q1 at *
  generalize decide (bs = bs') = q3 at *
  cases q1
  · go_enter Tryz.func22, Tryz.ntmps22
    go_wp2
    go_ret
    exact ⟨rfl, HK0.out⟩
  · by_cases hd : d = d'
    · subst hd
      have hdd : (d == d) = true := by simp
      rw [hdd]
      go_enter Tryz.func22, Tryz.ntmps22
      go_wp2_with (go_at_call 48; refine (HB.out _ HK0.out).mono ?_; rintro e w1 ⟨rfl, hk⟩; have HK := hid (HK0.out.andNone hk); clear hk)
      go_ret
      refine ⟨?_, HK.out⟩
      simp
    · have hdd : (d == d') = false := by simpa using hd
      rw [hdd]
      go_enter Tryz.func22, Tryz.ntmps22
      go_wp2
      go_ret
      exact ⟨rfl, HK0.out⟩


end Go.Proofs.YtdooiflmjeibdaaGreatDoor.Tr
end

section
/-
  Same, Bytes, Light.
-/
namespace Go.Proofs.YtdooiflmjeibdaaGreatDoor.Tr
open Go.RowKit

/-- Up to i both are alike. -/
def SameTo (a b : List It) (i : Nat) : Prop := ∀ j, j < i → a[j]? = b[j]?
theorem sameTo_done {a b : List It} {i : Nat} (h : SameTo a b i) (ha : a.length ≤ i) (hb : b.length = a.length) : a = b := by
  apply List.ext_getElem?
  intro j
  by_cases hj : j < i
  · exact h j hj
  · rw [List.getElem?_eq_none (by omega), List.getElem?_eq_none (by omega)]
theorem sameTo_step {a b : List It} {i : Nat} {x : It} (h : SameTo a b i) (hx : a[i]? = some x) (hy : b[i]? = some x) : SameTo a b (i + 1) := fun j hj => by
  by_cases e : j = i
  · rw [e, hx, hy]
  · exact h j (by omega)
theorem same_no {a b : List It} {i : Nat} {x y : It} (hx : a[i]? = some x) (hy : b[i]? = some y) (hne : x ≠ y) : a ≠ b := by
  rintro rfl
  rw [hx] at hy
  exact hne (Option.some.inj hy)



set_option maxHeartbeats 4000000 in
theorem rsame_any (w : World) (v q : Value) (a b : List It) (hv : IRow Any w v a) (hq : IRow Any w q b) (hl : a.length ≤ 100000) (hs : ∀ x ∈ a, ShortI x) :
    Calls Tryz.prog 10 #[v, q] w fun e w' => e = .returned (.bool (decide (a = b))) ∧ Kp No w w' := by
  have HD : Hid (∀ q : Bool, (q = true ↔ a = b) → decide (a = b) = q) := fun q hq => by
    rw [Bool.eq_iff_iff, decide_eq_true_eq]
    exact hq.symm
  generalize decide (a = b) = r at *
  have ha := hid (fun (hne : a ≠ []) => hv.cells hne)
  have hb := hid (fun (hne : b ≠ []) => hq.cells hne)
  obtain ⟨a1, c1, rfl, _⟩ := hv.form
  obtain ⟨a2, c2, rfl, _⟩ := hq.form
  have HSH := hid hs
  obtain ⟨n, hn⟩ : ∃ n, a.length = n := ⟨_, rfl⟩
  obtain ⟨m, hm⟩ : ∃ m, b.length = m := ⟨_, rfl⟩
  have HN := hid hn
  have HM := hid hm
  rw [hn] at hl ha ⊢
  rw [hm] at hb ⊢
  clear hv hq hn hm hs
  by_cases hnm : n = m
  · subst hnm
    have e0 : ((n : Int) != (n : Int)) = false := by simp
    go_enter Tryz.func10, Tryz.ntmps10
    go_wp2_with fail
    go_loopw [5] (fun x wr => ∃ i : Nat, x = .int .i64 i ∧ i ≤ n ∧ Hid (SameTo a b i ∧ Kp No w wr)) (fun x _ => n - (intOf x).toNat)
    case atStart => exact ⟨0, rfl, Nat.zero_le _, fun j h => absurd h (Nat.not_lt_zero _), Kp.refl _ _⟩
    case round =>
      obtain ⟨i, rfl, hi, HS⟩ := hrel
      by_cases hlt : i < n
      · have hltI : (i : Int) < (n : Int) := by omega
        have hi0 : (0 : Int) ≤ (i : Int) := by omega
        obtain ⟨x, hx⟩ : ∃ x, a[i]? = some x := ⟨_, List.getElem?_eq_getElem (by rw [HN.out]; omega)⟩
        obtain ⟨y, hy⟩ : ∃ y, b[i]? = some y := ⟨_, List.getElem?_eq_getElem (by rw [HM.out]; omega)⟩
        obtain ⟨g, o, c', e, hca⟩ := ha.out (by rintro rfl; simp at hx)
        cases e
        obtain ⟨g', o', c'', e, hcb⟩ := hb.out (by rintro rfl; simp at hy)
        cases e
        obtain ⟨u, x0, x1, x2, hu⟩ := hca _ HS.out.2 i x hx
        obtain ⟨u', y0, y1, y2, hu'⟩ := hcb _ HS.out.2 i y hy
        have HX := hid hx
        have HY := hid hy
        have HSX := hid (HSH.out x (List.mem_of_getElem? hx))
        have x0' : ∀ V, Kp No wr V → V.cell? ⟨g, o + i * 3, none⟩ = some (.string x.1) := fun V k => (k.cell (p := ⟨g, o + i * 3, none⟩) (World.block_lt_of_cell? _ _ x0) (fun h => h)).trans x0
        have x1' : ∀ V, Kp No wr V → V.cell? ⟨g, o + i * 3 + 1, none⟩ = some (.bool x.2.1) := fun V k => (k.cell (p := ⟨g, o + i * 3 + 1, none⟩) (World.block_lt_of_cell? _ _ x1) (fun h => h)).trans x1
        have x2' : ∀ V, Kp No wr V → V.cell? ⟨g, o + i * 3 + 2, none⟩ = some u := fun V k => (k.cell (p := ⟨g, o + i * 3 + 2, none⟩) (World.block_lt_of_cell? _ _ x2) (fun h => h)).trans x2
        have y0' : ∀ V, Kp No wr V → V.cell? ⟨g', o' + i * 3, none⟩ = some (.string y.1) := fun V k => (k.cell (p := ⟨g', o' + i * 3, none⟩) (World.block_lt_of_cell? _ _ y0) (fun h => h)).trans y0
        have y1' : ∀ V, Kp No wr V → V.cell? ⟨g', o' + i * 3 + 1, none⟩ = some (.bool y.2.1) := fun V k => (k.cell (p := ⟨g', o' + i * 3 + 1, none⟩) (World.block_lt_of_cell? _ _ y1) (fun h => h)).trans y1
        have y2' : ∀ V, Kp No wr V → V.cell? ⟨g', o' + i * 3 + 2, none⟩ = some u' := fun V k => (k.cell (p := ⟨g', o' + i * 3 + 2, none⟩) (World.block_lt_of_cell? _ _ y2) (fun h => h)).trans y2
        have HCALL : Hid (∀ V, Kp No wr V → Calls Tryz.prog 22 #[.agg #[.string x.1, .bool x.2.1, u], .agg #[.string y.1, .bool y.2.1, u']] V fun e w' => e = .returned (.bool (decide (x = y))) ∧ Kp No V w') := fun V k => rsameitem_any V x y _ _ (hu.kept k) (hu'.kept k) HSX.out
        clear hca hcb hx hy hu hu' x0 x1 x2 y0 y1 y2
        by_cases hxy : x = y
        · simp only [decide_eq_true hxy] at HCALL
          have HXY := hid hxy
          clear hxy
          go_wp2_with fail
          go_region_held3 (fun V => Kp No wr V) (first | (with_reducible exact Kp.refl _ _) | (with_reducible exact (Kp.refl _ _).drew) | (with_reducible exact HK2.out)) (first | (go_at_call 22; refine (HCALL.out _ (Kp.refl _ _).drew).mono ?_; rintro e w2 ⟨rfl, hk⟩; have HK2 : Hid (Kp No wr w2) := (Kp.refl _ _).drew.andNone hk; clear hk))
          clear x0' x1' x2' y0' y1' y2'
          go_wp2
          go_roundw
          case rel => exact ⟨i + 1, by go_num, by omega, sameTo_step HS.out.1 HX.out (by rw [HXY.out]; exact HY.out), HS.out.2.andNone HK2.out⟩
          case measure => simp [intOf] <;> omega
        · simp only [decide_eq_false hxy] at HCALL
          go_wp2_with fail
          go_region_held3 (fun V => Kp No wr V) (first | (with_reducible exact Kp.refl _ _) | (with_reducible exact (Kp.refl _ _).drew) | (with_reducible exact HK2.out)) (first | (go_at_call 22; refine (HCALL.out _ (Kp.refl _ _).drew).mono ?_; rintro e w2 ⟨rfl, hk⟩; have HK2 : Hid (Kp No wr w2) := (Kp.refl _ _).drew.andNone hk; clear hk))
          clear x0' x1' x2' y0' y1' y2'
          go_wp2
          go_ret
          refine ⟨?_, HS.out.2.andNone HK2.out⟩
          rw [HD.out false ⟨fun h => (by cases h), fun h => absurd h (same_no HX.out HY.out hxy)⟩]
          rfl
      · have hltI : ¬ (i : Int) < (n : Int) := by omega
        go_wp2
        go_ret
        refine ⟨?_, HS.out.2⟩
        rw [HD.out true ⟨fun _ => sameTo_done HS.out.1 (by rw [HN.out]; omega) (by rw [HN.out, HM.out]), fun _ => rfl⟩]
        rfl
  · have e0 : ((n : Int) != (m : Int)) = true := by simp; omega
    rw [HD.out false ⟨fun h => (by cases h), fun h => (by have h1 := HN.out; rw [h, HM.out] at h1; exact absurd h1.symm hnm)⟩]
    go_enter Tryz.func10, Tryz.ntmps10
    go_wp2
    go_ret
    exact ⟨rfl, Kp.refl _ _⟩

end Go.Proofs.YtdooiflmjeibdaaGreatDoor.Tr
end

section
/-
  Bytes, Light; Under and without, of the document.
-/
namespace Go.Proofs.YtdooiflmjeibdaaGreatDoor.Tr
open Go.RowKit

def lightI (x : It) : Bool := decide (x.1.size ≤ 250) && decide (x.2.2.length ≤ 2100)
def lightB (t : List It) (n : Nat) : Bool := decide (t.length ≤ n) && t.all lightI
theorem bytesN_take {t : List It} {i : Nat} {x : It} (hx : t[i]? = some x) : bytesN (t.take (i + 1)) = bytesN (t.take i) + x.2.2.length := by
  rw [take_next hx, bytesN, bytesN]
  simp
theorem bytesN_le {t : List It} (h : ∀ x ∈ t, x.2.2.length ≤ 10000) : bytesN t ≤ t.length * 10000 := by
  induction t with
  | nil => simp [bytesN]
  | cons x r ih =>
    have h1 := ih (fun y hy => h y (List.mem_cons_of_mem _ hy))
    have h2 := h x (List.mem_cons_self ..)
    simp only [bytesN, List.map_cons, List.sum_cons, List.length_cons] at h1 ⊢
    omega
theorem bytesN_take_le {t : List It} (h : ∀ x ∈ t, x.2.2.length ≤ 10000) (hl : t.length ≤ 1000) (i : Nat) : bytesN (t.take i) ≤ 10000000 := by
  have h1 := bytesN_le (t := t.take i) (fun x hx => h x (List.mem_of_mem_take hx))
  have h2 := List.length_take_le i t
  have : (t.take i).length * 10000 ≤ 1000 * 10000 := Nat.mul_le_mul_right _ (by have := List.length_take_le' i t; omega)
  omega



set_option maxHeartbeats 4000000 in
theorem light_any (w : World) (v : Value) (t : List It) (k : Nat) (hk : k ≤ 1000) (h : IRow Any w v t) :
    Calls Tryz.prog 5 #[v, .int .i64 (k : Int)] w fun e w' => e = .returned (.bool (lightB t k)) ∧ Kp No w w' := by
  have HL : Hid (lightB t k = (decide (t.length ≤ k) && t.all lightI)) := rfl
  generalize lightB t k = q at *
  have hcl := hid (fun (hne : t ≠ []) => h.cells hne)
  obtain ⟨a, cap, rfl, h2, h3, h4, h5⟩ := h
  obtain ⟨n, hn⟩ : ∃ n, t.length = n := ⟨_, rfl⟩
  have HN := hid hn
  rw [hn] at hcl h2 HL ⊢
  clear hn h4 h5
  unfold maxLen at h3
  by_cases hkn : n ≤ k
  · have hkI : ¬ (k : Int) < (n : Int) := by omega
    rw [decide_eq_true hkn, Bool.true_and] at HL
    go_enter Tryz.func5, Tryz.ntmps5
    go_wp2_with fail
    go_loopw [5] (fun x wr => ∃ i : Nat, x = .int .i64 i ∧ i ≤ n ∧ Hid (∀ j y, j < i → t[j]? = some y → lightI y = true) ∧ wr = w) (fun x _ => n - (intOf x).toNat)
    case atStart => exact ⟨0, rfl, Nat.zero_le _, fun j y hj => absurd hj (Nat.not_lt_zero _), rfl⟩
    case round =>
      obtain ⟨i, rfl, hi, HS, rfl⟩ := hrel
      by_cases hlt : i < n
      · have hltI : (i : Int) < (n : Int) := by omega
        have hi0 : (0 : Int) ≤ (i : Int) := by omega
        obtain ⟨x, hx⟩ : ∃ x, t[i]? = some x := ⟨_, List.getElem?_eq_getElem (by rw [HN.out]; omega)⟩
        obtain ⟨g, o, c', e, hc⟩ := hcl.out (by rintro rfl; simp at hx)
        cases e
        obtain ⟨u, c0, c1, c2, hb⟩ := hc _ (Kp.refl _ _) i x hx
        obtain ⟨au, cu, rfl, _⟩ := hb
        have HX := hid hx
        have HLI : Hid (lightI x = (decide (x.1.size ≤ 250) && decide (x.2.2.length ≤ 2100))) := rfl
        have HNO : Hid (lightI x = false → q = false) := fun e => by rw [HL.out]; exact List.all_eq_false.2 ⟨x, List.mem_of_getElem? HX.out, by rw [e]; simp⟩
        clear hx hc
        by_cases h250 : x.1.size ≤ 250
        · have h250I : ¬ (250 : Int) < (x.1.size : Int) := by omega
          by_cases h21 : x.2.2.length ≤ 2100
          · have h21I : ¬ (2100 : Int) < (x.2.2.length : Int) := by omega
            have HOK : Hid (lightI x = true) := by unfold Hid; rw [HLI.out, decide_eq_true h250, decide_eq_true h21]; rfl
            go_wp2
            go_roundw
            case rel => exact ⟨i + 1, by go_num, by omega, fun j y hj hy => by
              by_cases e : j = i
              · subst e
                have := HX.out
                rw [hy] at this
                cases this
                exact HOK.out
              · exact HS.out j y (by omega) hy, by first | rfl | trivial⟩
            case measure => simp [intOf] <;> omega
          · have h21I : (2100 : Int) < (x.2.2.length : Int) := by omega
            go_wp2
            go_ret
            refine ⟨?_, Kp.refl _ _⟩
            rw [HNO.out (by rw [HLI.out, decide_eq_false h21, Bool.and_false])]
            rfl
        · have h250I : (250 : Int) < (x.1.size : Int) := by omega
          go_wp2
          go_ret
          refine ⟨?_, Kp.refl _ _⟩
          rw [HNO.out (by rw [HLI.out, decide_eq_false h250, Bool.false_and])]
          rfl
      · have hltI : ¬ (i : Int) < (n : Int) := by omega
        have e : q = true := by
          rw [HL.out]
          refine List.all_eq_true.2 (fun x hx => ?_)
          obtain ⟨j, hj⟩ := List.mem_iff_getElem?.1 hx
          exact HS.out j x (by have := (List.getElem?_eq_some_iff.1 hj).1; have := HN.out; omega) hj
        go_wp2
        go_ret
        refine ⟨?_, Kp.refl _ _⟩
        first | rfl | (rw [e]; rfl)
  · have hkI : (k : Int) < (n : Int) := by omega
    rw [decide_eq_false hkn, Bool.false_and] at HL
    rw [HL.out]
    go_enter Tryz.func5, Tryz.ntmps5
    go_wp2
    go_ret
    exact ⟨rfl, Kp.refl _ _⟩
theorem light_short {t : List It} {k : Nat} (h : lightB t k = true) : t.length ≤ k ∧ ∀ x ∈ t, x.1.size ≤ 250 ∧ x.2.2.length ≤ 2100 := by
  simp only [lightB, Bool.and_eq_true, decide_eq_true_eq] at h
  refine ⟨h.1, fun x hx => ?_⟩
  have := List.all_eq_true.1 h.2 x hx
  simpa [lightI] using this

/-! ### Rows of the document's own: their items' bytes lie below B -/
def ROwn (B : Nat) (w : World) (v : Value) (xs : List It) : Prop :=
  B ≤ w.heap.size ∧ (∀ b, v.ownBlock = some b → B ≤ b) ∧ ∃ us : List Value, us.length = xs.length ∧ Row w 41 3 v xs.length (cellsI xs us) ∧ ∀ (i : Nat) (x : It) (u : Value), xs[i]? = some x → us[i]? = some u → ByP (fun g => g < B) w u x.2.2 ∧ u.oneCell' = true
theorem ROwn.nil {B : Nat} {w : World} (h : B ≤ w.heap.size) : ROwn B w (.slice none 0 0) [] := ⟨h, by simp [Value.ownBlock], [], rfl, Row.nil _ _ _, fun i x u h => by simp at h⟩
theorem ROwn.form {B : Nat} {w : World} {v : Value} {xs : List It} (h : ROwn B w v xs) : ∃ a cap, v = .slice a xs.length cap := by
  obtain ⟨_, _, us, _, h, _⟩ := h
  obtain ⟨a, cap, e, _⟩ := Row.shape h
  exact ⟨a, cap, e⟩
theorem ROwn.kept {B : Nat} {w w' : World} {v : Value} {xs : List It} (h : ROwn B w v xs) (k : Kp No w w') : ROwn B w' v xs := by
  obtain ⟨h0, h1, us, hl, hr, hb⟩ := h
  exact ⟨Nat.le_trans h0 k.size, h1, us, hl, Row.kept hr k, fun i x u hx hu => ⟨(hb i x u hx hu).1.kept k, (hb i x u hx hu).2⟩⟩
theorem ROwn.row {B : Nat} {w : World} {v : Value} {xs : List It} (h : ROwn B w v xs) : IRow Any w v xs := by
  obtain ⟨_, _, us, hl, hr, hb⟩ := h
  have hr' := hr
  rcases hr.2 with ⟨rfl, h0⟩ | ⟨g, cap, cur, rfl, hg, hh, hn, hc, hs, ht⟩
  · have : xs = [] := List.length_eq_zero_iff.1 h0
    subst this
    exact IRow.nil _ _
  · refine ⟨_, cap, rfl, hn, hc, by simp, fun _ => ⟨g, 0, rfl, trivial, (Array.getElem?_eq_some_iff.1 hh).1, fun i x hi => ?_⟩⟩
    have hil := (List.getElem?_eq_some_iff.1 hi).1
    obtain ⟨u, hu⟩ : ∃ u, us[i]? = some u := ⟨_, List.getElem?_eq_getElem (by omega)⟩
    have hc' := fun r (hr3 : r < 3) => (Row.cellAt hr' (i * 3 + r) (by omega)).trans (cellsI_at xs us i x u r hi hu hr3)
    refine ⟨u, ?_, ?_, ?_, (hb i x u hi hu).1.any⟩
    · rw [Nat.zero_add]; exact hc' 0 (by omega)
    · rw [Nat.zero_add]; exact hc' 1 (by omega)
    · rw [Nat.zero_add]; exact hc' 2 (by omega)
theorem ROwn.lt {B : Nat} {w : World} {v : Value} {xs : List It} (h : ROwn B w v xs) : ∀ b, v.ownBlock = some b → b < w.heap.size := by
  obtain ⟨_, _, us, _, hr, _⟩ := h
  exact Row.lt hr

/-- append of one item to a row of the document's own. -/
theorem app_itemR {ops : Array Oper} {rest : List Oper} {o : Oper} {a : Act} {Q : Exit → Act → World → Prop} {B : Nat} (w w0 : World) (hgd : o.guard = none) (s q : Operand) (ty : TypeId) (hty : Tryz.prog.underlying ty = some (.slice 41))
    (ho : o.op = .call { callee := .builtin .append, args := #[s, q], argTypes := #[ty, ty] }) (v : Value) (xs : List It) (x : It) (u : Value) (hs : a.eval s = v) (hw : w = w0.alloc (.cells #[.string x.1, .bool x.2.1, u] 41)) (hx : a.eval q = .slice (some ⟨w0.heap.size, 0, none⟩) 1 1)
    (hown : ROwn B w0 v xs) (hu : ByP (fun g => g < B) w0 u x.2.2) (h1 : u.oneCell' = true) (hlen : xs.length + 1 ≤ 1000000)
    (h : ∀ ad cap w', ROwn B w' (.slice ad (xs.length + 1) cap) (xs ++ [x]) → (∀ w00, Kp No w00 w0 → (∀ b, v.ownBlock = some b → w00.heap.size ≤ b) → (∀ b, (Value.slice ad (xs.length + 1) cap).ownBlock = some b → w00.heap.size ≤ b) ∧ Kp No w00 w') → wpList Tryz.prog ops Q rest (a.put o.dst (.slice ad (xs.length + 1) cap)) w') : wpList Tryz.prog ops Q (o :: rest) a w := by
  subst hw
  have hk : Kp No w0 (w0.alloc (.cells #[.string x.1, .bool x.2.1, u] 41)) := (Kp.refl _ _).alloc _
  obtain ⟨hB, hvB, us, hl, hr, hb⟩ := hown
  refine app_row _ hgd s q ty 41 (.agg #[.string ⟨#[]⟩, .bool false, .slice none 0 0]) 3 48 ho hty Tryz.infoItem rfl (by decide) v _ xs.length 1 (cellsI xs us) (itC x u) hs hx (Row.kept hr hk) (Src.one w0 (itC x u) 3 _ rfl (itC_one h1)) (by omega) (by decide) ?_
  intro ad cap w' g1 g2 g3
  have kg := Kp.ofGrown g2
  have k2 : Kp (fun b => v.ownBlock = some b) w0 w' := (hk.ofNo (M := fun b => v.ownBlock = some b)).trans kg (fun b e => .inl e)
  have hL : ∀ b, v.ownBlock = some b → b < w0.heap.size → ¬ b < B := fun b e _ hlt => by have := hvB b e; omega
  refine h ad cap w' ⟨Nat.le_trans hB k2.size, fun b e => ?_, us ++ [u], by simp [hl], ?_, fun i y p hy hp => ?_⟩ (fun w00 k00 h00 => ?_)
  · rcases g3 with e3 | e3
    · exact hvB b (e3 ▸ e)
    · rw [e3] at e
      cases e
      have := hk.size
      omega
  · rw [cellsI_snoc _ _ _ _ hl, List.length_append]
    exact g1
  · by_cases hlt : i < xs.length
    · rw [List.getElem?_append_left hlt] at hy
      rw [List.getElem?_append_left (by omega)] at hp
      exact ⟨(hb i y p hy hp).1.kp k2 hL, (hb i y p hy hp).2⟩
    · have e : i = xs.length := by
        have := (List.getElem?_eq_some_iff.1 hy).1
        simp at this
        omega
      subst e
      rw [List.getElem?_append_right (Nat.le_refl _)] at hy
      rw [List.getElem?_append_right (by omega)] at hp
      simp [hl] at hy hp
      subst hy hp
      exact ⟨hu.kp k2 hL, h1⟩
  · refine ⟨fun b e => ?_, k00.trans k2 (fun b e => .inr (h00 b e))⟩
    rcases g3 with e3 | e3
    · exact h00 b (e3 ▸ e)
    · rw [e3] at e
      cases e
      have := (k00.andNone hk).size
      omega

end Go.Proofs.YtdooiflmjeibdaaGreatDoor.Tr
end

section
/-
  Under and without, of the document.
-/
namespace Go.Proofs.YtdooiflmjeibdaaGreatDoor.Tr
open Go.RowKit

theorem IRow.cellsP {P : Nat → Prop} {w : World} {v : Value} {t : List It} (h : IRow P w v t) (hne : t ≠ []) : ∃ g o cap, v = .slice (some ⟨g, o, none⟩) t.length cap ∧ ∀ V, Kp No w V → ∀ i x, t[i]? = some x → ∃ u, V.cell? ⟨g, o + i * 3, none⟩ = some (.string x.1) ∧ V.cell? ⟨g, o + i * 3 + 1, none⟩ = some (.bool x.2.1) ∧ V.cell? ⟨g, o + i * 3 + 2, none⟩ = some u ∧ ByP P V u x.2.2 := by
  obtain ⟨a, cap, rfl, h1, h2, h3, h4⟩ := h
  obtain ⟨g, o, rfl, hg, hl, hc⟩ := h4 hne
  refine ⟨g, o, cap, rfl, fun V k i x hx => ?_⟩
  obtain ⟨u, c0, c1, c2, hb⟩ := (hc i x hx).kp k (fun _ h => h.elim) hg hl
  exact ⟨u, c0, c1, c2, hb⟩
theorem IRow.below {w : World} {v : Value} {t : List It} (h : IRow Any w v t) : IRow (fun g => g < w.heap.size) w v t := h.mono (fun _ hx _ => hx)

set_option maxHeartbeats 4000000 in
theorem runder_any (w : World) (v : Value) (t : List It) (p : ByteArray) (B : Nat) (h : IRow (fun g => g < B) w v t) (hB : B ≤ w.heap.size) (hl : t.length ≤ 100000) :
    Calls Tryz.prog 45 #[v, .string p] w fun e w' => ∃ a n c, e = .returned (.slice a n c) ∧ ROwn B w' (.slice a n c) (underL t p) ∧ (∀ b, (Value.slice a n c).ownBlock = some b → w.heap.size ≤ b) ∧ Kp No w w' := by
  have hcl := hid (fun (hne : t ≠ []) => h.cellsP hne)
  obtain ⟨a, cap, rfl, _⟩ := h.form
  obtain ⟨n, hn⟩ : ∃ n, t.length = n := ⟨_, rfl⟩
  have HN := hid hn
  rw [hn] at hl hcl ⊢
  clear hn h
  go_enter Tryz.func45, Tryz.ntmps45
  go_wp2_with fail
  go_loopw [5, 6] (fun v5 x wr => ∃ (i : Nat) (a1 : Option Addr) (n1 c1 : Nat), v5 = .slice a1 n1 c1 ∧ x = .int .i64 i ∧ i ≤ n ∧ Hid (ROwn B wr (.slice a1 n1 c1) (underL (t.take i) p) ∧ (∀ b, (Value.slice a1 n1 c1).ownBlock = some b → w.heap.size ≤ b) ∧ Kp No w wr)) (fun _ x _ => n - (intOf x).toNat)
  case atStart => exact ⟨0, none, 0, 0, rfl, rfl, Nat.zero_le _, ROwn.nil hB, by simp [Value.ownBlock], Kp.refl _ _⟩
  case round =>
    obtain ⟨i, a1, n1, c1, rfl, rfl, hi, HT⟩ := hrel
    by_cases hlt : i < n
    · have hltI : (i : Int) < (n : Int) := by omega
      have hi0 : (0 : Int) ≤ (i : Int) := by omega
      obtain ⟨x, hx⟩ : ∃ x, t[i]? = some x := ⟨_, List.getElem?_eq_getElem (by rw [HN.out]; omega)⟩
      have HX := hid hx
      obtain ⟨g, o, c', e, hc⟩ := hcl.out (by rintro rfl; simp at hx)
      cases e
      obtain ⟨u, k0, k1, k2, hb⟩ := hc _ HT.out.2.2 i x hx
      obtain ⟨au, cu, hu⟩ := hb.form
      subst hu
      have HU := hid hb
      have HLEN : Hid ((underL (t.take i) p).length + 1 ≤ 1000000) := by
        have h1 := List.length_filter_le (fun x : It => withinB (tx p) (tx x.1)) (t.take i)
        have h3 := List.length_take_le i t
        unfold Hid underL
        omega
      clear hx hb
      have HWI := hid (fun W => rwithin_any p x.1 W)
      cases hp : withinB (tx p) (tx x.1) with
      | true =>
        have HP := hid hp
        simp only [hp] at HWI
        clear hp
        go_wp2_with (first | (go_at_call 47; refine (HWI.out _).mono ?_; rintro e w1 ⟨rfl, hw1⟩; subst hw1) | (at_builtin; refine app_itemR _ w1 rfl _ _ 22 Tryz.underlying22 rfl _ _ x (.slice au x.2.2.length cu) rfl rfl rfl HT.out.1 HU.out rfl HLEN.out ?_; intro ad cap2 w3 hown hk))
        have HR := hid (hk w HT.out.2.2 HT.out.2.1)
        have HO := hid hown
        clear hown hk
        go_roundw
        case rel => exact ⟨i + 1, ad, _, cap2, rfl, by go_num, by omega, by
          have h := under_yes HX.out HP.out
          rw [Hid, h.1]
          exact ⟨HO.out, HR.out.1, HR.out.2⟩⟩
        case measure => simp [intOf] <;> omega
      | false =>
        have HP := hid hp
        simp only [hp] at HWI
        clear hp
        go_wp2_with (first | (go_at_call 47; refine (HWI.out _).mono ?_; rintro e w1 ⟨rfl, hw1⟩; subst hw1))
        go_roundw
        case rel => exact ⟨i + 1, a1, n1, c1, rfl, by go_num, by omega, by
          have h := under_no HX.out HP.out
          rw [Hid, h.1]
          exact HT.out⟩
        case measure => simp [intOf] <;> omega
    · have hltI : ¬ (i : Int) < (n : Int) := by omega
      go_wp2
      go_ret
      refine ⟨a1, n1, c1, rfl, ?_, HT.out.2⟩
      have := HT.out.1
      rwa [List.take_of_length_le (by rw [HN.out]; omega)] at this

set_option maxHeartbeats 4000000 in
theorem rwithout_any (w : World) (v : Value) (t : List It) (p : ByteArray) (B : Nat) (h : IRow (fun g => g < B) w v t) (hB : B ≤ w.heap.size) (hl : t.length ≤ 100000) :
    Calls Tryz.prog 46 #[v, .string p] w fun e w' => ∃ a n c, e = .returned (.slice a n c) ∧ ROwn B w' (.slice a n c) (outL t p) ∧ (∀ b, (Value.slice a n c).ownBlock = some b → w.heap.size ≤ b) ∧ Kp No w w' := by
  have hcl := hid (fun (hne : t ≠ []) => h.cellsP hne)
  obtain ⟨a, cap, rfl, _⟩ := h.form
  obtain ⟨n, hn⟩ : ∃ n, t.length = n := ⟨_, rfl⟩
  have HN := hid hn
  rw [hn] at hl hcl ⊢
  clear hn h
  go_enter Tryz.func46, Tryz.ntmps46
  go_wp2_with fail
  go_loopw [5, 6] (fun v5 x wr => ∃ (i : Nat) (a1 : Option Addr) (n1 c1 : Nat), v5 = .slice a1 n1 c1 ∧ x = .int .i64 i ∧ i ≤ n ∧ Hid (ROwn B wr (.slice a1 n1 c1) (outL (t.take i) p) ∧ (∀ b, (Value.slice a1 n1 c1).ownBlock = some b → w.heap.size ≤ b) ∧ Kp No w wr)) (fun _ x _ => n - (intOf x).toNat)
  case atStart => exact ⟨0, none, 0, 0, rfl, rfl, Nat.zero_le _, ROwn.nil hB, by simp [Value.ownBlock], Kp.refl _ _⟩
  case round =>
    obtain ⟨i, a1, n1, c1, rfl, rfl, hi, HT⟩ := hrel
    by_cases hlt : i < n
    · have hltI : (i : Int) < (n : Int) := by omega
      have hi0 : (0 : Int) ≤ (i : Int) := by omega
      obtain ⟨x, hx⟩ : ∃ x, t[i]? = some x := ⟨_, List.getElem?_eq_getElem (by rw [HN.out]; omega)⟩
      have HX := hid hx
      obtain ⟨g, o, c', e, hc⟩ := hcl.out (by rintro rfl; simp at hx)
      cases e
      obtain ⟨u, k0, k1, k2, hb⟩ := hc _ HT.out.2.2 i x hx
      obtain ⟨au, cu, hu⟩ := hb.form
      subst hu
      have HU := hid hb
      have HLEN : Hid ((outL (t.take i) p).length + 1 ≤ 1000000) := by
        have h1 := List.length_filter_le (fun x : It => !withinB (tx p) (tx x.1)) (t.take i)
        have h3 := List.length_take_le i t
        unfold Hid outL
        omega
      clear hx hb
      have HWI := hid (fun W => rwithin_any p x.1 W)
      cases hp : withinB (tx p) (tx x.1) with
      | false =>
        have HP := hid hp
        simp only [hp] at HWI
        clear hp
        go_wp2_with (first | (go_at_call 47; refine (HWI.out _).mono ?_; rintro e w1 ⟨rfl, hw1⟩; subst hw1) | (at_builtin; refine app_itemR _ w1 rfl _ _ 22 Tryz.underlying22 rfl _ _ x (.slice au x.2.2.length cu) rfl rfl rfl HT.out.1 HU.out rfl HLEN.out ?_; intro ad cap2 w3 hown hk))
        have HR := hid (hk w HT.out.2.2 HT.out.2.1)
        have HO := hid hown
        clear hown hk
        go_roundw
        case rel => exact ⟨i + 1, ad, _, cap2, rfl, by go_num, by omega, by
          have h := under_no HX.out HP.out
          rw [Hid, h.2]
          exact ⟨HO.out, HR.out.1, HR.out.2⟩⟩
        case measure => simp [intOf] <;> omega
      | true =>
        have HP := hid hp
        simp only [hp] at HWI
        clear hp
        go_wp2_with (first | (go_at_call 47; refine (HWI.out _).mono ?_; rintro e w1 ⟨rfl, hw1⟩; subst hw1))
        go_roundw
        case rel => exact ⟨i + 1, a1, n1, c1, rfl, by go_num, by omega, by
          have h := under_yes HX.out HP.out
          rw [Hid, h.2]
          exact HT.out⟩
        case measure => simp [intOf] <;> omega
    · have hltI : ¬ (i : Int) < (n : Int) := by omega
      go_wp2
      go_ret
      refine ⟨a1, n1, c1, rfl, ?_, HT.out.2⟩
      have := HT.out.1
      rwa [List.take_of_length_le (by rw [HN.out]; omega)] at this

end Go.Proofs.YtdooiflmjeibdaaGreatDoor.Tr
end
