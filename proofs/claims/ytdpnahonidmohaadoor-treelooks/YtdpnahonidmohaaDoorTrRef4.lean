/-
  Bytes, Light; Under and without, of the document.
-/
import Derived.Test.YtdpnahonidmohaaDoorTrRef3
namespace Go.Proofs.YtdpnahonidmohaaDoor.Tr
open Go.RowKit

def lightI (x : It) : Bool := decide (x.1.size ≤ 250) && decide (x.2.2.length ≤ 2100)
def lightB (t : List It) (n : Nat) : Bool := decide (t.length ≤ n) && t.all lightI
theorem bytesN_take {t : List It} {i : Nat} {x : It} (hx : t[i]? = some x) : bytesN (t.take (i + 1)) = bytesN (t.take i) + x.2.2.length := by
  rw [take_next hx, bytesN, bytesN]
  simp
theorem bytesN_le {t : List It} (h : ∀ x ∈ t, x.2.2.length ≤ 10000) : bytesN t ≤ t.length * 10000 := by
  induction t with
  | nil => simp [bytesN]
  | cons x r ih =>
    have h1 := ih (fun y hy => h y (List.mem_cons_of_mem _ hy))
    have h2 := h x (List.mem_cons_self ..)
    simp only [bytesN, List.map_cons, List.sum_cons, List.length_cons] at h1 ⊢
    omega
theorem bytesN_take_le {t : List It} (h : ∀ x ∈ t, x.2.2.length ≤ 10000) (hl : t.length ≤ 1000) (i : Nat) : bytesN (t.take i) ≤ 10000000 := by
  have h1 := bytesN_le (t := t.take i) (fun x hx => h x (List.mem_of_mem_take hx))
  have h2 := List.length_take_le i t
  have : (t.take i).length * 10000 ≤ 1000 * 10000 := Nat.mul_le_mul_right _ (by have := List.length_take_le' i t; omega)
  omega

set_option maxHeartbeats 4000000 in
theorem bytes_any (w : World) (v : Value) (t : List It) (h : IRow Any w v t) (hl : t.length ≤ 1000) (hs : ∀ x ∈ t, ShortI x) :
    Calls Tryd.prog 14 #[v] w fun e w' => e = .returned (.int .i64 (bytesN t : Nat)) ∧ Kp No w w' := by
  have hcl := hid (fun (hne : t ≠ []) => h.cells hne)
  have HLE := hid (bytesN_take_le (fun x hx => (hs x hx).2) hl)
  have HSH := hid hs
  obtain ⟨a, cap, rfl, _⟩ := h.form
  obtain ⟨n, hn⟩ : ∃ n, t.length = n := ⟨_, rfl⟩
  have HN := hid hn
  rw [hn] at hl hcl ⊢
  clear hn h hs
  go_enter Tryd.func14, Tryd.ntmps14
  go_wp2_with fail
  go_loopw [3, 8] (fun s x wr => ∃ i : Nat, s = .int .i64 (bytesN (t.take i) : Nat) ∧ x = .int .i64 i ∧ i ≤ n ∧ Hid (Kp No w wr)) (fun _ x _ => n - (intOf x).toNat)
  case atStart => exact ⟨0, rfl, rfl, Nat.zero_le _, Kp.refl _ _⟩
  case round =>
    obtain ⟨i, rfl, rfl, hi, HK⟩ := hrel
    by_cases hlt : i < n
    · have hltI : (i : Int) < (n : Int) := by omega
      have hi0 : (0 : Int) ≤ (i : Int) := by omega
      obtain ⟨x, hx⟩ : ∃ x, t[i]? = some x := ⟨_, List.getElem?_eq_getElem (by rw [HN.out]; omega)⟩
      obtain ⟨g, o, c', e, hc⟩ := hcl.out (by rintro rfl; simp at hx)
      cases e
      obtain ⟨u, c0, c1, c2, hb⟩ := hc _ HK.out i x hx
      obtain ⟨au, cu, rfl⟩ := hb.form
      have HT := hid (bytesN_take hx)
      have h1 := HLE.out i
      have h2 : x.2.2.length ≤ 10000 := (HSH.out x (List.mem_of_getElem? hx)).2
      clear hx hc hb
      generalize bytesN (t.take i) = s at *
      have hwr : IntKind.i64.wrap ((s : Int) + (x.2.2.length : Int)) = ((s + x.2.2.length : Nat) : Int) := by rw [IntKind.wrap_i64]; omega
      go_wp2
      go_roundw
      case rel => exact ⟨i + 1, by rw [HT.out]; go_num, by go_num, by omega, HK.out.alloc _⟩
      case measure => simp [intOf] <;> omega
    · have hltI : ¬ (i : Int) < (n : Int) := by omega
      have e : t.take i = t := List.take_of_length_le (by rw [HN.out]; omega)
      rw [e]
      go_wp2
      go_ret
      exact ⟨rfl, HK.out⟩

set_option maxHeartbeats 4000000 in
theorem rbytes_any (w : World) (v : Value) (t : List It) (h : IRow Any w v t) (hl : t.length ≤ 1000) (hs : ∀ x ∈ t, ShortI x) :
    Calls Tryd.prog 15 #[v] w fun e w' => e = .returned (.int .i64 (bytesN t : Nat)) ∧ Kp No w w' := by
  have hcl := hid (fun (hne : t ≠ []) => h.cells hne)
  have HLE := hid (bytesN_take_le (fun x hx => (hs x hx).2) hl)
  have HSH := hid hs
  obtain ⟨a, cap, rfl, _⟩ := h.form
  obtain ⟨n, hn⟩ : ∃ n, t.length = n := ⟨_, rfl⟩
  have HN := hid hn
  rw [hn] at hl hcl ⊢
  clear hn h hs
  go_enter Tryd.func15, Tryd.ntmps15
  go_wp2_with fail
  go_loopw [3, 4] (fun s x wr => ∃ i : Nat, s = .int .i64 (bytesN (t.take i) : Nat) ∧ x = .int .i64 i ∧ i ≤ n ∧ Hid (Kp No w wr)) (fun _ x _ => n - (intOf x).toNat)
  case atStart => exact ⟨0, rfl, rfl, Nat.zero_le _, Kp.refl _ _⟩
  case round =>
    obtain ⟨i, rfl, rfl, hi, HK⟩ := hrel
    by_cases hlt : i < n
    · have hltI : (i : Int) < (n : Int) := by omega
      have hi0 : (0 : Int) ≤ (i : Int) := by omega
      obtain ⟨x, hx⟩ : ∃ x, t[i]? = some x := ⟨_, List.getElem?_eq_getElem (by rw [HN.out]; omega)⟩
      obtain ⟨g, o, c', e, hc⟩ := hcl.out (by rintro rfl; simp at hx)
      cases e
      obtain ⟨u, c0, c1, c2, hb⟩ := hc _ HK.out i x hx
      obtain ⟨au, cu, rfl⟩ := hb.form
      have HT := hid (bytesN_take hx)
      have h1 := HLE.out i
      have h2 : x.2.2.length ≤ 10000 := (HSH.out x (List.mem_of_getElem? hx)).2
      clear hx hc hb
      generalize bytesN (t.take i) = s at *
      have hwr : IntKind.i64.wrap ((s : Int) + (x.2.2.length : Int)) = ((s + x.2.2.length : Nat) : Int) := by rw [IntKind.wrap_i64]; omega
      go_wp2
      go_roundw
      case rel => exact ⟨i + 1, by rw [HT.out]; go_num, by go_num, by omega, HK.out⟩
      case measure => simp [intOf] <;> omega
    · have hltI : ¬ (i : Int) < (n : Int) := by omega
      have e : t.take i = t := List.take_of_length_le (by rw [HN.out]; omega)
      rw [e]
      go_wp2
      go_ret
      exact ⟨rfl, HK.out⟩

set_option maxHeartbeats 4000000 in
theorem light_any (w : World) (v : Value) (t : List It) (k : Nat) (hk : k ≤ 1000) (h : IRow Any w v t) :
    Calls Tryd.prog 6 #[v, .int .i64 (k : Int)] w fun e w' => e = .returned (.bool (lightB t k)) ∧ Kp No w w' := by
  have HL : Hid (lightB t k = (decide (t.length ≤ k) && t.all lightI)) := rfl
  generalize lightB t k = q at *
  have hcl := hid (fun (hne : t ≠ []) => h.cells hne)
  obtain ⟨a, cap, rfl, h2, h3, h4, h5⟩ := h
  obtain ⟨n, hn⟩ : ∃ n, t.length = n := ⟨_, rfl⟩
  have HN := hid hn
  rw [hn] at hcl h2 HL ⊢
  clear hn h4 h5
  unfold maxLen at h3
  by_cases hkn : n ≤ k
  · have hkI : ¬ (k : Int) < (n : Int) := by omega
    rw [decide_eq_true hkn, Bool.true_and] at HL
    go_enter Tryd.func6, Tryd.ntmps6
    go_wp2_with fail
    go_loopw [5] (fun x wr => ∃ i : Nat, x = .int .i64 i ∧ i ≤ n ∧ Hid (∀ j y, j < i → t[j]? = some y → lightI y = true) ∧ wr = w) (fun x _ => n - (intOf x).toNat)
    case atStart => exact ⟨0, rfl, Nat.zero_le _, fun j y hj => absurd hj (Nat.not_lt_zero _), rfl⟩
    case round =>
      obtain ⟨i, rfl, hi, HS, rfl⟩ := hrel
      by_cases hlt : i < n
      · have hltI : (i : Int) < (n : Int) := by omega
        have hi0 : (0 : Int) ≤ (i : Int) := by omega
        obtain ⟨x, hx⟩ : ∃ x, t[i]? = some x := ⟨_, List.getElem?_eq_getElem (by rw [HN.out]; omega)⟩
        obtain ⟨g, o, c', e, hc⟩ := hcl.out (by rintro rfl; simp at hx)
        cases e
        obtain ⟨u, c0, c1, c2, hb⟩ := hc _ (Kp.refl _ _) i x hx
        obtain ⟨au, cu, rfl, _⟩ := hb
        have HX := hid hx
        have HLI : Hid (lightI x = (decide (x.1.size ≤ 250) && decide (x.2.2.length ≤ 2100))) := rfl
        have HNO : Hid (lightI x = false → q = false) := fun e => by rw [HL.out]; exact List.all_eq_false.2 ⟨x, List.mem_of_getElem? HX.out, by rw [e]; simp⟩
        clear hx hc
        by_cases h250 : x.1.size ≤ 250
        · have h250I : ¬ (250 : Int) < (x.1.size : Int) := by omega
          by_cases h21 : x.2.2.length ≤ 2100
          · have h21I : ¬ (2100 : Int) < (x.2.2.length : Int) := by omega
            have HOK : Hid (lightI x = true) := by unfold Hid; rw [HLI.out, decide_eq_true h250, decide_eq_true h21]; rfl
            go_wp2
            go_roundw
            case rel => exact ⟨i + 1, by go_num, by omega, fun j y hj hy => by
              by_cases e : j = i
              · subst e
                have := HX.out
                rw [hy] at this
                cases this
                exact HOK.out
              · exact HS.out j y (by omega) hy, by first | rfl | trivial⟩
            case measure => simp [intOf] <;> omega
          · have h21I : (2100 : Int) < (x.2.2.length : Int) := by omega
            go_wp2
            go_ret
            refine ⟨?_, Kp.refl _ _⟩
            rw [HNO.out (by rw [HLI.out, decide_eq_false h21, Bool.and_false])]
            rfl
        · have h250I : (250 : Int) < (x.1.size : Int) := by omega
          go_wp2
          go_ret
          refine ⟨?_, Kp.refl _ _⟩
          rw [HNO.out (by rw [HLI.out, decide_eq_false h250, Bool.false_and])]
          rfl
      · have hltI : ¬ (i : Int) < (n : Int) := by omega
        have e : q = true := by
          rw [HL.out]
          refine List.all_eq_true.2 (fun x hx => ?_)
          obtain ⟨j, hj⟩ := List.mem_iff_getElem?.1 hx
          exact HS.out j x (by have := (List.getElem?_eq_some_iff.1 hj).1; have := HN.out; omega) hj
        go_wp2
        go_ret
        refine ⟨?_, Kp.refl _ _⟩
        first | rfl | (rw [e]; rfl)
  · have hkI : (k : Int) < (n : Int) := by omega
    rw [decide_eq_false hkn, Bool.false_and] at HL
    rw [HL.out]
    go_enter Tryd.func6, Tryd.ntmps6
    go_wp2
    go_ret
    exact ⟨rfl, Kp.refl _ _⟩
theorem light_short {t : List It} {k : Nat} (h : lightB t k = true) : t.length ≤ k ∧ ∀ x ∈ t, x.1.size ≤ 250 ∧ x.2.2.length ≤ 2100 := by
  simp only [lightB, Bool.and_eq_true, decide_eq_true_eq] at h
  refine ⟨h.1, fun x hx => ?_⟩
  have := List.all_eq_true.1 h.2 x hx
  simpa [lightI] using this

/-! ### Rows of the document's own: their items' bytes lie below B -/
def ROwn (B : Nat) (w : World) (v : Value) (xs : List It) : Prop :=
  B ≤ w.heap.size ∧ (∀ b, v.ownBlock = some b → B ≤ b) ∧ ∃ us : List Value, us.length = xs.length ∧ Row w 27 3 v xs.length (cellsI xs us) ∧ ∀ (i : Nat) (x : It) (u : Value), xs[i]? = some x → us[i]? = some u → ByP (fun g => g < B) w u x.2.2 ∧ u.oneCell' = true
theorem ROwn.nil {B : Nat} {w : World} (h : B ≤ w.heap.size) : ROwn B w (.slice none 0 0) [] := ⟨h, by simp [Value.ownBlock], [], rfl, Row.nil _ _ _, fun i x u h => by simp at h⟩
theorem ROwn.form {B : Nat} {w : World} {v : Value} {xs : List It} (h : ROwn B w v xs) : ∃ a cap, v = .slice a xs.length cap := by
  obtain ⟨_, _, us, _, h, _⟩ := h
  obtain ⟨a, cap, e, _⟩ := Row.shape h
  exact ⟨a, cap, e⟩
theorem ROwn.kept {B : Nat} {w w' : World} {v : Value} {xs : List It} (h : ROwn B w v xs) (k : Kp No w w') : ROwn B w' v xs := by
  obtain ⟨h0, h1, us, hl, hr, hb⟩ := h
  exact ⟨Nat.le_trans h0 k.size, h1, us, hl, Row.kept hr k, fun i x u hx hu => ⟨(hb i x u hx hu).1.kept k, (hb i x u hx hu).2⟩⟩
theorem ROwn.row {B : Nat} {w : World} {v : Value} {xs : List It} (h : ROwn B w v xs) : IRow Any w v xs := by
  obtain ⟨_, _, us, hl, hr, hb⟩ := h
  have hr' := hr
  rcases hr.2 with ⟨rfl, h0⟩ | ⟨g, cap, cur, rfl, hg, hh, hn, hc, hs, ht⟩
  · have : xs = [] := List.length_eq_zero_iff.1 h0
    subst this
    exact IRow.nil _ _
  · refine ⟨_, cap, rfl, hn, hc, by simp, fun _ => ⟨g, 0, rfl, trivial, (Array.getElem?_eq_some_iff.1 hh).1, fun i x hi => ?_⟩⟩
    have hil := (List.getElem?_eq_some_iff.1 hi).1
    obtain ⟨u, hu⟩ : ∃ u, us[i]? = some u := ⟨_, List.getElem?_eq_getElem (by omega)⟩
    have hc' := fun r (hr3 : r < 3) => (Row.cellAt hr' (i * 3 + r) (by omega)).trans (cellsI_at xs us i x u r hi hu hr3)
    refine ⟨u, ?_, ?_, ?_, (hb i x u hi hu).1.any⟩
    · rw [Nat.zero_add]; exact hc' 0 (by omega)
    · rw [Nat.zero_add]; exact hc' 1 (by omega)
    · rw [Nat.zero_add]; exact hc' 2 (by omega)
theorem ROwn.lt {B : Nat} {w : World} {v : Value} {xs : List It} (h : ROwn B w v xs) : ∀ b, v.ownBlock = some b → b < w.heap.size := by
  obtain ⟨_, _, us, _, hr, _⟩ := h
  exact Row.lt hr

/-- append of one item to a row of the document's own. -/
theorem app_itemR {ops : Array Oper} {rest : List Oper} {o : Oper} {a : Act} {Q : Exit → Act → World → Prop} {B : Nat} (w w0 : World) (hgd : o.guard = none) (s q : Operand) (ty : TypeId) (hty : Tryd.prog.underlying ty = some (.slice 27))
    (ho : o.op = .call { callee := .builtin .append, args := #[s, q], argTypes := #[ty, ty] }) (v : Value) (xs : List It) (x : It) (u : Value) (hs : a.eval s = v) (hw : w = w0.alloc (.cells #[.string x.1, .bool x.2.1, u] 27)) (hx : a.eval q = .slice (some ⟨w0.heap.size, 0, none⟩) 1 1)
    (hown : ROwn B w0 v xs) (hu : ByP (fun g => g < B) w0 u x.2.2) (h1 : u.oneCell' = true) (hlen : xs.length + 1 ≤ 1000000)
    (h : ∀ ad cap w', ROwn B w' (.slice ad (xs.length + 1) cap) (xs ++ [x]) → (∀ w00, Kp No w00 w0 → (∀ b, v.ownBlock = some b → w00.heap.size ≤ b) → (∀ b, (Value.slice ad (xs.length + 1) cap).ownBlock = some b → w00.heap.size ≤ b) ∧ Kp No w00 w') → wpList Tryd.prog ops Q rest (a.put o.dst (.slice ad (xs.length + 1) cap)) w') : wpList Tryd.prog ops Q (o :: rest) a w := by
  subst hw
  have hk : Kp No w0 (w0.alloc (.cells #[.string x.1, .bool x.2.1, u] 27)) := (Kp.refl _ _).alloc _
  obtain ⟨hB, hvB, us, hl, hr, hb⟩ := hown
  refine app_row _ hgd s q ty 27 (.agg #[.string ⟨#[]⟩, .bool false, .slice none 0 0]) 3 48 ho hty Tryd.infoItem rfl (by decide) v _ xs.length 1 (cellsI xs us) (itC x u) hs hx (Row.kept hr hk) (Src.one w0 (itC x u) 3 _ rfl (itC_one h1)) (by omega) (by decide) ?_
  intro ad cap w' g1 g2 g3
  have kg := Kp.ofGrown g2
  have k2 : Kp (fun b => v.ownBlock = some b) w0 w' := (hk.ofNo (M := fun b => v.ownBlock = some b)).trans kg (fun b e => .inl e)
  have hL : ∀ b, v.ownBlock = some b → b < w0.heap.size → ¬ b < B := fun b e _ hlt => by have := hvB b e; omega
  refine h ad cap w' ⟨Nat.le_trans hB k2.size, fun b e => ?_, us ++ [u], by simp [hl], ?_, fun i y p hy hp => ?_⟩ (fun w00 k00 h00 => ?_)
  · rcases g3 with e3 | e3
    · exact hvB b (e3 ▸ e)
    · rw [e3] at e
      cases e
      have := hk.size
      omega
  · rw [cellsI_snoc _ _ _ _ hl, List.length_append]
    exact g1
  · by_cases hlt : i < xs.length
    · rw [List.getElem?_append_left hlt] at hy
      rw [List.getElem?_append_left (by omega)] at hp
      exact ⟨(hb i y p hy hp).1.kp k2 hL, (hb i y p hy hp).2⟩
    · have e : i = xs.length := by
        have := (List.getElem?_eq_some_iff.1 hy).1
        simp at this
        omega
      subst e
      rw [List.getElem?_append_right (Nat.le_refl _)] at hy
      rw [List.getElem?_append_right (by omega)] at hp
      simp [hl] at hy hp
      subst hy hp
      exact ⟨hu.kp k2 hL, h1⟩
  · refine ⟨fun b e => ?_, k00.trans k2 (fun b e => .inr (h00 b e))⟩
    rcases g3 with e3 | e3
    · exact h00 b (e3 ▸ e)
    · rw [e3] at e
      cases e
      have := (k00.andNone hk).size
      omega

end Go.Proofs.YtdpnahonidmohaaDoor.Tr
