/- Of the proof: the texts TrPutM, TrWrite, TrKeepM, TrDo, TrShortM, TrChgM, TrRPut, one behind the other. -/
import Derived.Test.YtdooiflmjeibdaaGreatDoorAbb
import Derived.Test.YtdooiflmjeibdaaGreatDoorB4
import Derived.Test.YtdooiflmjeibdaaGreatDoorB3
section
/-
  What Mkdir, Write and Remove leave right: purely.
-/
namespace Go.Proofs.YtdooiflmjeibdaaGreatDoor.Tr
open Go.RowKit

theorem putR_mem (x : It) (z : It) : ∀ (l : List It) (inn : Bool), z ∈ putR x l inn ↔ (inn = false ∧ z = x) ∨ (z ∈ l ∧ z.1 ≠ x.1)
  | [], inn => by cases inn <;> simp [putR]
  | y :: r, inn => by
    rw [putR, List.mem_append, List.mem_append, putR_mem x z r]
    by_cases hy : y.1 = x.1
    · rw [if_pos hy]
      have : ∀ h : z = y, ¬ z.1 ≠ x.1 := fun h => by rw [h]; exact fun e => e hy
      cases inn <;> cases bytesBefore (tx y.1) (tx x.1) <;> simp <;> grind
    · rw [if_neg hy]
      cases inn <;> cases bytesBefore (tx y.1) (tx x.1) <;> simp <;> grind
theorem put_mem {t : List It} {x z : It} : z ∈ putL t x ↔ z = x ∨ (z ∈ t ∧ z.1 ≠ x.1) := by
  rw [putL, putR_mem]
  simp
theorem putR_len (x : It) : ∀ (l : List It) (inn : Bool), (putR x l inn).length + l.countP (fun y => decide (y.1 = x.1)) = l.length + (if inn then 0 else 1)
  | [], inn => by cases inn <;> simp [putR]
  | y :: r, inn => by
    have h := putR_len x r (inn || !bytesBefore (tx y.1) (tx x.1))
    rw [putR, List.length_append, List.length_append, List.countP_cons, List.length_cons]
    by_cases hy : y.1 = x.1
    · rw [if_pos hy]
      have hb : bytesBefore (tx y.1) (tx x.1) = false := by rw [hy]; exact bb_irr _
      rw [hb] at h ⊢
      cases inn <;> simp [hy] at h ⊢ <;> omega
    · rw [if_neg hy]
      cases inn <;> cases hb : bytesBefore (tx y.1) (tx x.1) <;> rw [hb] at h <;> simp [hy] at h ⊢ <;> omega
theorem putR_rises (x : It) : ∀ (l : List It) (inn : Bool), Rises l → (inn = true → ∀ y ∈ l, bytesBefore (tx y.1) (tx x.1) = false) → Rises (putR x l inn)
  | [], inn, _, _ => by cases inn <;> simp [putR, Rises]
  | y :: r, inn, h, hi => by
    obtain ⟨h1, h2⟩ := List.pairwise_cons.1 h
    have after : bytesBefore (tx y.1) (tx x.1) = false → ∀ z ∈ r, bytesBefore (tx x.1) (tx z.1) = true := fun hb z hz => by
      by_cases hy : y.1 = x.1
      · rw [← hy]; exact h1 z hz
      · cases hxy : bytesBefore (tx x.1) (tx y.1) with
        | true => exact bb_trans _ _ _ hxy (h1 z hz)
        | false => exact absurd (ba_eq.2 (bb_tri _ _ hb hxy)) hy
    have keep : bytesBefore (tx y.1) (tx x.1) = false → Rises ((if y.1 = x.1 then [] else [y]) ++ putR x r true) := fun hb => by
      have ih := putR_rises x r true h2 (fun _ z hz => bb_asym (after hb z hz))
      split
      · exact ih
      · refine List.pairwise_cons.2 ⟨fun z hz => ?_, ih⟩
        rcases (putR_mem x z r true).1 hz with ⟨e, _⟩ | ⟨hz, _⟩
        · cases e
        · exact h1 z hz
    rw [putR]
    cases inn with
    | true => simpa using keep (hi rfl y (List.mem_cons_self ..))
    | false =>
      cases hb : bytesBefore (tx y.1) (tx x.1) with
      | true =>
        have hy : y.1 ≠ x.1 := fun e => by rw [e, bb_irr] at hb; cases hb
        rw [if_neg hy]
        refine List.pairwise_cons.2 ⟨fun z hz => ?_, putR_rises x r false h2 (fun e => by cases e)⟩
        rcases (putR_mem x z r false).1 hz with ⟨_, rfl⟩ | ⟨hz, _⟩
        · exact hb
        · exact h1 z hz
      | false =>
        refine List.pairwise_cons.2 ⟨fun z hz => ?_, keep hb⟩
        rcases List.mem_append.1 hz with hz | hz
        · split at hz
          · cases hz
          · rename_i hy
            rw [List.mem_singleton.1 hz]
            cases hxy : bytesBefore (tx x.1) (tx y.1) with
            | true => rfl
            | false => exact absurd (ba_eq.2 (bb_tri _ _ hb hxy)) hy
        · rcases (putR_mem x z r true).1 hz with ⟨e, _⟩ | ⟨hz, _⟩
          · cases e
          · exact after hb z hz

theorem put_rises {t : List It} {x : It} (h : Rises t) : Rises (putL t x) := putR_rises x t false h (fun e => by cases e)
theorem put_look {t : List It} {x : It} (h : Rises t) (p : ByteArray) : look (putL t x) p = if p = x.1 then some x else look t p := by
  by_cases hp : p = x.1
  · rw [if_pos hp, hp]
    exact look_rises (put_rises h) (put_mem.2 (.inl rfl))
  · rw [if_neg hp]
    cases hy : look t p with
    | some y =>
      obtain ⟨hm, he⟩ := look_mem hy
      have := look_rises (put_rises (x := x) h) (put_mem.2 (.inr ⟨hm, by rw [he]; exact hp⟩))
      rwa [he] at this
    | none =>
      refine look_none' (fun z hz e => ?_)
      rcases put_mem.1 hz with rfl | ⟨hz, _⟩
      · exact hp e.symm
      · exact look_none hy z hz e
/-- What Mkdir and Write make is right. -/
theorem put_right {t : List It} {x : It} (hr : rightB t = true) (hp : pathB (tx x.1) = true) (hh : homeF t x.1 = 0) (hs : ¬ (if x.2.1 then 0 else 2000) < x.2.2.length)
    (hl : look t x.1 = none → t.length < 60) (hd : ∀ y, look t x.1 = some y → y.2.1 = x.2.1) : rightB (putL t x) = true := by
  have hri := rises_pair t (right_rises hr).1
  have hlen : (putL t x).length ≤ 60 := by
    have h1 := putR_len x t false
    have h2 := (right_rises hr).2
    rw [putL]
    cases hx : look t x.1 with
    | none => have := hl hx; simp at h1; omega
    | some y =>
      obtain ⟨hm, he⟩ := look_mem hx
      have h3 : 0 < t.countP (fun y => decide (y.1 = x.1)) := List.countP_pos_iff.2 ⟨y, hm, decide_eq_true he⟩
      simp at h1
      omega
  have home : ∀ s, homeF t s = 0 → homeF (putL t x) s = 0 := by
    intro s h
    unfold homeF at h ⊢
    by_cases he : (splitS s).1 = ⟨#[]⟩
    · rw [if_pos he]
    · rw [if_neg he] at h ⊢
      rw [put_look hri]
      by_cases e : (splitS s).1 = x.1
      · rw [if_pos e]
        rw [e] at h
        cases hy : look t x.1 with
        | none => rw [hy] at h; simp at h
        | some y =>
          rw [hy] at h
          have := hd y hy
          simp only at h ⊢
          rw [← this]
          exact h
      · rw [if_neg e]
        exact h
  refine right_mk hlen (put_rises hri) (fun z hz => ?_)
  rcases put_mem.1 hz with rfl | ⟨hz, _⟩
  · exact ⟨hp, home _ hh, hs⟩
  · obtain ⟨h1, h2⟩ := right_each hr hz
    exact ⟨h1, home _ h2, right_size hr hz⟩
/-- What Remove leaves is right. -/
theorem out_right {t : List It} {p : ByteArray} (hr : rightB t = true) (hp : tx p ≠ []) : rightB (outL t p) = true := by
  have hri := rises_pair t (right_rises hr).1
  have hmo : ∀ z ∈ outL t p, z ∈ t ∧ withinB (tx p) (tx z.1) = false := fun z hz => ⟨(List.mem_filter.1 hz).1, by simpa using (List.mem_filter.1 hz).2⟩
  have hro : Rises (outL t p) := hri.filter _
  refine right_mk (Nat.le_trans (List.length_filter_le _ _) (right_rises hr).2) hro (fun z hz => ?_)
  obtain ⟨h1, h2⟩ := right_each hr (hmo z hz).1
  have h3 := right_size hr (hmo z hz).1
  refine ⟨h1, ?_, h3⟩
  unfold homeF at h2 ⊢
  by_cases he : (splitS z.1).1 = ⟨#[]⟩
  · rw [if_pos he]
  · rw [if_neg he] at h2 ⊢
    cases hy : look t (splitS z.1).1 with
    | none => rw [hy] at h2; simp at h2
    | some y =>
      rw [hy] at h2
      obtain ⟨hm, hye⟩ := look_mem hy
      have hyo : y ∈ outL t p := List.mem_filter.2 ⟨hm, by
        cases hw : withinB (tx p) (tx y.1) with
        | false => rfl
        | true =>
          rw [hye] at hw
          have h4 := (hmo z hz).2
          rw [within_up hp h1 he hw] at h4
          cases h4⟩
      have := look_rises hro hyo
      rw [hye] at this
      rw [this]
      exact h2
/-- What is removed is not found. -/
theorem out_look {t : List It} {p : ByteArray} : look (outL t p) p = none := look_none' (fun z hz e => by
  have h := (List.mem_filter.1 hz).2
  rw [e] at h
  simp [withinB] at h)
theorem parts_len (t : List It) (p : ByteArray) : (outL t p).length + (underL t p).length = t.length := by
  rw [← List.length_append, (parts_perm t p).length_eq]

end Go.Proofs.YtdooiflmjeibdaaGreatDoor.Tr
end

section
/-
  Write.
-/
namespace Go.Proofs.YtdooiflmjeibdaaGreatDoor.Tr
open Go.RowKit

theorem dirAt_none {t : List It} {p : ByteArray} (h : look t p = none) : dirAt t p = false := by unfold dirAt; rw [h]
theorem dirAt_some {t : List It} {p : ByteArray} {x : It} (h : look t p = some x) : dirAt t p = x.2.1 := by unfold dirAt; rw [h]

set_option maxHeartbeats 4000000 in
theorem write_no (w : World) (v vb : Value) (t : List It) (p : ByteArray) (h : IRow Any w v t) (hl : t.length ≤ 1000) (hs : ∀ y ∈ t, ShortI y) (hp : p.size ≤ 10000) (hf : barsF t p ≠ 0) :
    Calls Tryz.prog 13 #[v, .string p, vb] w fun e w' => Chd w (barsF t p, []) e w' := by
  have HB := hid (bars_any w v t p h hl hs (by omega))
  have hf' : (barsF t p != 0) = true := by simpa using hf
  generalize barsF t p = f at *
  clear h hs
  go_enter Tryz.func13, Tryz.ntmps13
  go_wp2_with (go_at_call 26; refine HB.out.mono ?_; rintro e w1 ⟨rfl, hk⟩; have HK := hid hk; clear hk)
  go_ret2
  exact Chd.no rfl HK.out

set_option maxHeartbeats 4000000 in
theorem write_dir (w : World) (v vb : Value) (t : List It) (p : ByteArray) (x : It) (h : IRow Any w v t) (hl : t.length ≤ 1000) (hs : ∀ y ∈ t, ShortI y) (hp : p.size ≤ 10000) (hf : barsF t p = 0) (hx : look t p = some x) (hd : x.2.1 = true) :
    Calls Tryz.prog 13 #[v, .string p, vb] w fun e w' => Chd w (8, []) e w' := by
  have HB := hid (bars_any w v t p h hl hs (by omega))
  rw [hf] at HB
  have hr := right_rises (bars_right hf)
  have HA := hid (fun (V : World) (k : Kp No w V) => at_yes V v t p x (h.kept k) (by omega) hr.1 hx)
  obtain ⟨g, o, cap, rfl, hc⟩ := h.cells (by rintro rfl; simp [look] at hx)
  have HC := hid hc
  obtain ⟨n, hn⟩ : ∃ n, t.length = n := ⟨_, rfl⟩
  rw [hn] at HA HB ⊢
  clear h hs hx hr hf hc
  go_enter Tryz.func13, Tryz.ntmps13
  go_wp2_with (first | (go_at_call 26; refine HB.out.mono ?_; rintro e w1 ⟨rfl, hk⟩; have HK := hid hk; clear hk) | (go_at_call 29; refine (HA.out _ HK.out).mono ?_; rintro e w2 ⟨i, rfl, ⟨hi, hxi⟩, hk⟩; have HK2 := hid (HK.out.andNone hk); obtain ⟨u, c0, c1, c2, _⟩ := HC.out _ HK2.out i x hxi; rw [hd] at c1; have hiI : (i : Int) < (n : Int) := (by omega); clear hk))
  go_ret2
  exact Chd.no rfl HK2.out

set_option maxHeartbeats 4000000 in
/-- of a file that is there, or of nothing: too many bytes. -/
theorem write_large (w : World) (v vb : Value) (t : List It) (p : ByteArray) (b : List Nat) (h : IRow Any w v t) (hl : t.length ≤ 1000) (hs : ∀ y ∈ t, ShortI y) (hp : p.size ≤ 10000) (hf : barsF t p = 0) (hd : dirAt t p = false) (hb : ByP Any w vb b) (h2 : 2000 < b.length) :
    Calls Tryz.prog 13 #[v, .string p, vb] w fun e w' => Chd w (2, []) e w' := by
  have HB := hid (bars_any w v t p h hl hs (by omega))
  rw [hf] at HB
  have hr := right_rises (bars_right hf)
  obtain ⟨ab, cb, rfl⟩ := hb.form
  have h2I : (2000 : Int) < (b.length : Int) := by omega
  clear hb
  generalize b.length = m at *
  cases hx : look t p with
  | none =>
    have HA := hid (fun (V : World) (k : Kp No w V) => at_no V v t p (h.kept k) (by omega) hr.1 hx)
    clear h hs hx hr hf hd
    go_enter Tryz.func13, Tryz.ntmps13
    go_wp2_with (first | (go_at_call 26; refine HB.out.mono ?_; rintro e w1 ⟨rfl, hk⟩; have HK := hid hk; clear hk) | (go_at_call 29; refine (HA.out _ HK.out).mono ?_; rintro e w2 ⟨i, rfl, _, hk⟩; have HK2 := hid (HK.out.andNone hk); clear hk))
    go_ret2
    exact Chd.no rfl HK2.out
  | some x =>
    have hdx : x.2.1 = false := (dirAt_some hx).symm.trans hd
    have HA := hid (fun (V : World) (k : Kp No w V) => at_yes V v t p x (h.kept k) (by omega) hr.1 hx)
    obtain ⟨g, o, cap, rfl, hc⟩ := h.cells (by rintro rfl; simp [look] at hx)
    have HC := hid hc
    obtain ⟨n, hn⟩ : ∃ n, t.length = n := ⟨_, rfl⟩
    rw [hn] at HA HB ⊢
    clear h hs hx hr hf hc hd
    go_enter Tryz.func13, Tryz.ntmps13
    go_wp2_with (first | (go_at_call 26; refine HB.out.mono ?_; rintro e w1 ⟨rfl, hk⟩; have HK := hid hk; clear hk) | (go_at_call 29; refine (HA.out _ HK.out).mono ?_; rintro e w2 ⟨i, rfl, ⟨hi, hxi⟩, hk⟩; have HK2 := hid (HK.out.andNone hk); obtain ⟨u, c0, c1, c2, _⟩ := HC.out _ HK2.out i x hxi; rw [hdx] at c1; have hiI : (i : Int) < (n : Int) := (by omega); clear hk))
    go_ret2
    exact Chd.no rfl HK2.out

set_option maxHeartbeats 4000000 in
theorem write_full (w : World) (v vb : Value) (t : List It) (p : ByteArray) (b : List Nat) (h : IRow Any w v t) (hs : ∀ y ∈ t, ShortI y) (hp : p.size ≤ 10000) (hf : barsF t p = 0) (hb : ByP Any w vb b) (h2 : ¬ 2000 < b.length) (hx : look t p = none) (h60 : 60 ≤ t.length) :
    Calls Tryz.prog 13 #[v, .string p, vb] w fun e w' => Chd w (2, []) e w' := by
  have hr := right_rises (bars_right hf)
  have HB := hid (bars_any w v t p h (by omega) hs (by omega))
  rw [hf] at HB
  have HA := hid (fun (V : World) (k : Kp No w V) => at_no V v t p (h.kept k) (by omega) hr.1 hx)
  have HW := hid (fun (V : World) (k : Kp No w V) => with_full V v vb t (p, false, b) (h.kept k) hs hr.1 (by omega) hx)
  obtain ⟨ab, cb, rfl⟩ := hb.form
  have h2I : ¬ (2000 : Int) < (b.length : Int) := by omega
  simp only at HW
  clear h hs hx hr hf hb
  generalize b.length = m at *
  go_enter Tryz.func13, Tryz.ntmps13
  go_wp2_with (first | (go_at_call 26; refine HB.out.mono ?_; rintro e w1 ⟨rfl, hk⟩; have HK := hid hk; clear hk) | (go_at_call 29; refine (HA.out _ HK.out).mono ?_; rintro e w2 ⟨i, rfl, _, hk⟩; have HK2 := hid (HK.out.andNone hk); clear hk) | (go_at_call 28; refine (HW.out _ HK2.out).mono ?_; rintro e w3 ⟨rfl, hk⟩; have HK3 := hid (HK2.out.andNone hk); clear hk))
  go_ret2
  exact Chd.no rfl HK3.out

set_option maxHeartbeats 4000000 in
theorem write_ok (w : World) (v vb : Value) (t : List It) (p : ByteArray) (b : List Nat) (h : IRow Any w v t) (hs : ∀ y ∈ t, ShortI y) (hp : p.size ≤ 10000) (hf : barsF t p = 0) (hd : dirAt t p = false) (hb : ByP Any w vb b) (h2 : ¬ 2000 < b.length) (h60 : look t p = none → t.length < 60) :
    Calls Tryz.prog 13 #[v, .string p, vb] w fun e w' => Chd w (0, putL t (p, false, b)) e w' := by
  have hr := right_rises (bars_right hf)
  have HB := hid (bars_any w v t p h (by omega) hs (by omega))
  rw [hf] at HB
  have HBY := hid hb
  have hsh : ShortI (p, false, b) := ⟨hp, by show b.length ≤ 10000; omega⟩
  cases hx : look t p with
  | none =>
    have HA := hid (fun (V : World) (k : Kp No w V) => at_no V v t p (h.kept k) (by omega) hr.1 hx)
    have HW := hid (fun (V : World) (k : Kp No w V) => with_ins V v vb t (p, false, b) (h.kept k) hs hr.1 (h60 hx) hx (HBY.out.kept k) hsh)
    obtain ⟨ab, cb, rfl⟩ := hb.form
    have h2I : ¬ (2000 : Int) < (b.length : Int) := by omega
    simp only at HW
    clear h hs hx hr hf hb hd h60 hsh HBY
    generalize putL t (p, false, b) = ys at *
    generalize b.length = m at *
    go_enter Tryz.func13, Tryz.ntmps13
    go_wp2_with (first | (go_at_call 26; refine HB.out.mono ?_; rintro e w1 ⟨rfl, hk⟩; have HK := hid hk; clear hk) | (go_at_call 29; refine (HA.out _ HK.out).mono ?_; rintro e w2 ⟨i, rfl, _, hk⟩; have HK2 := hid (HK.out.andNone hk); clear hk) | (go_at_call 28; refine (HW.out _ HK2.out).mono ?_; rintro e w3 ⟨v', rfl, ho, hbb, hk⟩; have HO := hid ho; have HBB := hid hbb; have HK3 := hid (HK2.out.andNone hk); have HZ := hid HK2.out.size; clear ho hbb hk))
    go_ret2
    exact Chd.mk v' rfl HO.out (fun b e => Nat.le_trans HZ.out (HBB.out b e)) HK3.out
  | some x =>
    have hdx : x.2.1 = false := (dirAt_some hx).symm.trans hd
    have HA := hid (fun (V : World) (k : Kp No w V) => at_yes V v t p x (h.kept k) (by omega) hr.1 hx)
    have HW := hid (fun (V : World) (k : Kp No w V) => with_set V v vb t (p, false, b) x (h.kept k) hs hr.1 hr.2 hx (HBY.out.kept k) hsh)
    obtain ⟨ab, cb, rfl⟩ := hb.form
    have h2I : ¬ (2000 : Int) < (b.length : Int) := by omega
    obtain ⟨g, o, cap, rfl, hc⟩ := h.cells (by rintro rfl; simp [look] at hx)
    have HC := hid hc
    obtain ⟨n, hn⟩ : ∃ n, t.length = n := ⟨_, rfl⟩
    simp only at HW
    rw [hn] at HA HB HW ⊢
    clear h hs hx hr hf hb hd h60 hsh HBY hc
    generalize putL t (p, false, b) = ys at *
    generalize b.length = m at *
    go_enter Tryz.func13, Tryz.ntmps13
    go_wp2_with (first | (go_at_call 26; refine HB.out.mono ?_; rintro e w1 ⟨rfl, hk⟩; have HK := hid hk; clear hk) | (go_at_call 29; refine (HA.out _ HK.out).mono ?_; rintro e w2 ⟨i, rfl, ⟨hi, hxi⟩, hk⟩; have HK2 := hid (HK.out.andNone hk); obtain ⟨u, c0, c1, c2, _⟩ := HC.out _ HK2.out i x hxi; rw [hdx] at c1; have hiI : (i : Int) < (n : Int) := (by omega); clear hk) | (go_at_call 28; refine (HW.out _ HK2.out).mono ?_; rintro e w3 ⟨v', rfl, ho, hbb, hk⟩; have HO := hid ho; have HBB := hid hbb; have HK3 := hid (HK2.out.andNone hk); have HZ := hid HK2.out.size; clear ho hbb hk))
    go_ret2
    exact Chd.mk v' rfl HO.out (fun b e => Nat.le_trans HZ.out (HBB.out b e)) HK3.out

/-- Write. -/
theorem write_any (w : World) (v vb : Value) (t : List It) (p : ByteArray) (b : List Nat) (h : IRow Any w v t) (hl : t.length ≤ 1000) (hs : ∀ y ∈ t, ShortI y) (hp : p.size ≤ 10000) (hb : ByP Any w vb b) :
    Calls Tryz.prog 13 #[v, .string p, vb] w fun e w' => Chd w (writeR t p b) e w' := by
  unfold writeR
  by_cases hf : barsF t p = 0
  · rw [if_pos hf]
    cases hd : dirAt t p with
    | true =>
      rw [if_pos rfl]
      cases hx : look t p with
      | none => rw [dirAt_none hx] at hd; cases hd
      | some x => exact write_dir w v vb t p x h hl hs hp hf hx ((dirAt_some hx).symm.trans hd)
    | false =>
      rw [if_neg (by simp)]
      by_cases h2 : 2000 < b.length
      · rw [if_pos h2]
        exact write_large w v vb t p b h hl hs hp hf hd hb h2
      · rw [if_neg h2]
        cases hx : look t p with
        | none =>
          by_cases h60 : 60 ≤ t.length
          · rw [if_pos (by simpa using h60)]
            exact write_full w v vb t p b h hs hp hf hb h2 hx h60
          · rw [if_neg (by simpa using h60)]
            exact write_ok w v vb t p b h hs hp hf hd hb h2 (fun _ => by omega)
        | some x =>
          rw [if_neg (by simp)]
          exact write_ok w v vb t p b h hs hp hf hd hb h2 (fun e => by rw [hx] at e; cases e)
  · rw [if_neg hf]
    exact write_no w v vb t p h hl hs hp hf

end Go.Proofs.YtdooiflmjeibdaaGreatDoor.Tr
end

section
/-
  Each change keeps a tree right: purely.
-/
namespace Go.Proofs.YtdooiflmjeibdaaGreatDoor.Tr
open Go.RowKit

theorem bars_facts {t : List It} {p : ByteArray} (h : barsF t p = 0) : rightB t = true ∧ pathB (tx p) = true ∧ homeF t p = 0 := by
  have hr := bars_right h
  unfold barsF at h
  rw [hr, if_pos rfl] at h
  cases hp : pathB (tx p) with
  | false => rw [hp] at h; simp at h
  | true => rw [hp, if_pos rfl] at h; exact ⟨hr, rfl, h⟩
theorem mkdir_right {t : List It} {p : ByteArray} (h : (mkdirR t p).1 = 0) : rightB (mkdirR t p).2 = true := by
  unfold mkdirR at h ⊢
  by_cases hb : barsF t p = 0
  · rw [if_pos hb] at h ⊢
    obtain ⟨hr, hp, hh⟩ := bars_facts hb
    cases hx : look t p with
    | some x => rw [hx] at h; simp at h
    | none =>
      rw [hx] at h
      simp only [Option.isSome_none, Bool.false_eq_true, if_false] at h ⊢
      by_cases h6 : 60 ≤ t.length
      · rw [if_pos h6] at h; simp at h
      · rw [if_neg h6]
        exact put_right hr hp hh (by simp) (fun _ => by omega) (fun y hy => by rw [hx] at hy; cases hy)
  · rw [if_neg hb] at h
    exact absurd h hb
theorem write_right {t : List It} {p : ByteArray} {b : List Nat} (h : (writeR t p b).1 = 0) : rightB (writeR t p b).2 = true ∧ (writeR t p b).2 = putL t (p, false, b) ∧ rightB t = true := by
  unfold writeR at h ⊢
  by_cases hb : barsF t p = 0
  · rw [if_pos hb] at h ⊢
    obtain ⟨hr, hp, hh⟩ := bars_facts hb
    cases hd : dirAt t p with
    | true => rw [hd] at h; simp at h
    | false =>
      rw [hd] at h
      simp only [Bool.false_eq_true, if_false] at h ⊢
      by_cases h2 : 2000 < b.length
      · rw [if_pos h2] at h; simp at h
      · rw [if_neg h2] at h ⊢
        cases h3 : (look t p).isNone && decide (60 ≤ t.length) with
        | true => rw [h3] at h; simp at h
        | false =>
          rw [if_neg (by simp)]
          refine ⟨put_right hr hp hh (by simpa using h2) (fun e => ?_) (fun y hy => ?_), rfl, hr⟩
          · have e' : look t p = none := e
            rw [e'] at h3
            simp at h3
            exact h3
          · have hy' : look t p = some y := hy
            exact (dirAt_some hy').symm.trans hd
  · rw [if_neg hb] at h
    exact absurd h hb
theorem asked_facts {t : List It} {p : ByteArray} (h : askedF t [p] = 0) : rightB t = true ∧ pathB (tx p) = true := by
  have hr := asked_right h
  unfold askedF at h
  rw [hr, if_pos rfl] at h
  refine ⟨hr, ?_⟩
  split at h
  · rename_i hh
    simpa using hh
  · simp at h
theorem remove_right {t : List It} {p : ByteArray} {deep : Bool} (h : (removeR t p deep).1 = 0) : rightB (removeR t p deep).2 = true ∧ (removeR t p deep).2 = outL t p := by
  unfold removeR at h ⊢
  by_cases ha : askedF t [p] = 0
  · rw [if_pos ha] at h ⊢
    obtain ⟨hr, hp⟩ := asked_facts ha
    by_cases hu : underL t p = []
    · rw [if_pos hu] at h; simp at h
    · rw [if_neg hu] at h ⊢
      by_cases hd : 1 < (underL t p).length ∧ deep = false
      · rw [if_pos hd] at h; simp at h
      · rw [if_neg hd]
        exact ⟨out_right hr (path_ne hp), rfl⟩
  · rw [if_neg ha] at h
    exact absurd h ha
theorem rename_right {t : List It} {p q : ByteArray} {r : Int × List It} (h : RenR t p q r) (h0 : r.1 = 0) : rightB r.2 = true ∧ staysF t p q = 0 := by
  unfold RenR at h
  by_cases hs : staysF t p q = 0
  · rw [if_pos hs] at h
    by_cases ha : (underL t p).all (fun x => pathB (tx (mvP p q x).1)) = true
    · rw [if_pos ha] at h
      obtain ⟨zs, hz, hz2, rfl⟩ := h
      refine ⟨?_, hs⟩
      by_cases hpq : p = q
      · subst hpq
        have hr : rightB t = true ∧ pathB (tx p) = true := by
          unfold staysF at hs
          split at hs
          · rename_i hk
            have hr := asked_right hk
            unfold askedF at hk
            rw [hr, if_pos rfl] at hk
            refine ⟨hr, ?_⟩
            split at hk
            · rename_i hh
              simpa using hh
            · simp at hk
          · rename_i hk
            exact absurd hs hk
        show rightB zs = true
        rw [ren_self hr.1 hr.2 hz hz2]
        exact hr.1
      · exact ren_right hs hpq ha hz hz2
    · rw [if_neg ha] at h
      rw [h] at h0
      simp at h0
  · rw [if_neg hs] at h
    rw [h] at h0
    exact absurd h0 hs

end Go.Proofs.YtdooiflmjeibdaaGreatDoor.Tr
end

section
/-
  Do, of the law: each change of a tree of the call's own.
-/
namespace Go.Proofs.YtdooiflmjeibdaaGreatDoor.Tr
open Go.RowKit

/-- What a change leaves of a tree: a tree of the call's own that is right, if it may be. -/
def Done (w : World) (e : Ending) (w' : World) : Prop := ∃ v' f ys, e = .returned (.tuple #[v', .int .i64 f]) ∧ Kp No w w' ∧ (f = 0 → IOwn w' v' ys ∧ rightB ys = true)
theorem Chd.done {w w' : World} {e : Ending} {r : Int × List It} (h : Chd w r e w') (hr : r.1 = 0 → rightB r.2 = true) : Done w e w' := by
  obtain ⟨v', he, ho, _, k⟩ := h
  exact ⟨v', r.1, r.2, he, k, fun h0 => ⟨ho, hr h0⟩⟩

set_option maxHeartbeats 4000000 in
theorem do_any (w : World) (v vb : Value) (t : List It) (k n : Int) (p q : ByteArray) (b : List Nat) (h : IOwn w v t) (ht : rightB t = true) (hs : ∀ y ∈ t, ShortI y) (hp : p.size ≤ 10000) (hq : q.size ≤ 10000) (hb : ByP Any w vb b) :
    Calls Tryz.prog 8 #[v, .agg #[.int .i64 k, .int .i64 n, .string p, .string q, vb]] w fun e w' => Done w e w' := by
  have hl := (right_rises ht).2
  have hk0 : Kp No w (w.alloc (.cells #[.int .i64 k, .int .i64 n, .string p, .string q, vb] 25)) := (Kp.refl _ _).alloc _
  have hr := h.row.kept hk0
  have HD0 : Hid (∀ w2, Kp No w w2 → Done w (.returned (.tuple #[v, .int .i64 0])) w2) := fun w2 k2 => ⟨v, 0, t, rfl, k2, fun _ => ⟨h.kept k2, ht⟩⟩
  have HM := hid (mkdir_any _ v t p hr (by omega) hs hp)
  have HW := hid (write_any _ v vb t p b hr (by omega) hs hp (hb.kept hk0))
  have HR := hid (remove_any _ v t p (n == 1) hr (by omega) hs hp)
  have HN := hid (rename_any _ v t p q hr (by omega) hs hp hq)
  have up : ∀ (e : Ending) (w' : World), Done (w.alloc (.cells #[.int .i64 k, .int .i64 n, .string p, .string q, vb] 25)) e w' → Done w e w' := by
    rintro e w' ⟨v', f, ys, he, hk, hh⟩
    exact ⟨v', f, ys, he, hk0.andNone hk, hh⟩
  have HUP := hid up
  obtain ⟨ab, cb, rfl⟩ := hb.form
  clear h hs hb ht hr up
  by_cases k0 : k = 0
  · subst k0
    go_enter Tryz.func8, Tryz.ntmps8
    go_wp2_with (go_at_call 12; refine HM.out.mono ?_; rintro e w2 hc; have HC := hid (HUP.out _ _ (hc.done mkdir_right)); obtain ⟨v', rfl, _⟩ := hc)
    go_ret2
    exact HC.out
  by_cases k1 : k = 1
  · subst k1
    go_enter Tryz.func8, Tryz.ntmps8
    go_wp2_with (go_at_call 13; refine HW.out.mono ?_; rintro e w2 hc; have HC := hid (HUP.out _ _ (hc.done (fun h => (write_right h).1))); obtain ⟨v', rfl, _⟩ := hc)
    go_ret2
    exact HC.out
  by_cases k2 : k = 2
  · subst k2
    go_enter Tryz.func8, Tryz.ntmps8
    go_wp2_with (go_at_call 16; refine HR.out.mono ?_; rintro e w2 hc; have HC := hid (HUP.out _ _ (hc.done (fun h => (remove_right h).1))); obtain ⟨v', rfl, _⟩ := hc)
    go_ret2
    exact HC.out
  by_cases k3 : k = 3
  · subst k3
    go_enter Tryz.func8, Tryz.ntmps8
    go_wp2_with (go_at_call 17; refine HN.out.mono ?_; rintro e w2 ⟨r, hr, hc⟩; have HC := hid (HUP.out _ _ (hc.done (fun h => (rename_right hr h).1))); obtain ⟨v', rfl, _⟩ := hc)
    go_ret2
    exact HC.out
  have b0 : (k == 0) = false := by simpa using k0
  have b1 : (k == 1) = false := by simpa using k1
  have b2 : (k == 2) = false := by simpa using k2
  have b3 : (k == 3) = false := by simpa using k3
  go_enter Tryz.func8, Tryz.ntmps8
  go_wp2
  go_ret2
  exact HD0.out _ hk0

end Go.Proofs.YtdooiflmjeibdaaGreatDoor.Tr
end

section
/-
  What is right is short.
-/
namespace Go.Proofs.YtdooiflmjeibdaaGreatDoor.Tr
open Go.RowKit

theorem cuts_sum (s : Tx) : ((cuts s).map List.length).sum + (cuts s).length = s.length + 1 := by
  induction s with
  | nil => simp [cuts]
  | cons c r ih =>
    rw [cuts]
    split
    · simp only [List.map_cons, List.sum_cons, List.length_cons, List.length_nil]
      omega
    · cases h : cuts r with
      | nil => exact absurd h (cuts_ne r)
      | cons a l =>
        rw [h] at ih
        simp only [ahd, List.map_cons, List.sum_cons, List.length_cons, List.length_append, List.length_nil] at ih ⊢
        omega
theorem sum_le (l : List Tx) (h : ∀ x ∈ l, x.length ≤ 20) : (l.map List.length).sum ≤ 20 * l.length := by
  induction l with
  | nil => simp
  | cons a l ih =>
    have h1 := h a (List.mem_cons_self ..)
    have h2 := ih (fun x hx => h x (List.mem_cons_of_mem _ hx))
    simp only [List.map_cons, List.sum_cons, List.length_cons]
    omega
/-- A path has at most 125 bytes. -/
theorem path_size {s : Tx} (h : pathB s = true) : s.length ≤ 125 := by
  simp only [pathB, Bool.and_eq_true, decide_eq_true_eq, List.all_eq_true] at h
  have h1 := cuts_sum s
  have h2 := sum_le (cuts s) (fun x hx => by
    have := h.2 x hx
    simp only [partB, Bool.and_eq_true, decide_eq_true_eq] at this
    exact this.1.1.1.2)
  have h3 := h.1
  omega
theorem right_short {t : List It} (h : rightB t = true) : ∀ y ∈ t, ShortI y := fun y hy => by
  have h1 := path_size (right_each h hy).1
  have h2 := right_size h hy
  rw [tx_len] at h1
  refine ⟨by omega, ?_⟩
  split at h2 <;> omega
theorem right_nil : rightB [] = true := by decide

end Go.Proofs.YtdooiflmjeibdaaGreatDoor.Tr
end

section
/-
  What each change makes of a tree, as one function: purely.
-/
namespace Go.Proofs.YtdooiflmjeibdaaGreatDoor.Tr
open Go.RowKit

theorem putR_perm (x : It) : ∀ l : List It, (∀ y ∈ l, y.1 ≠ x.1) → (putR x l false).Perm (x :: l)
  | [], _ => by simp [putR]
  | y :: r, h => by
    have hy := h y (List.mem_cons_self ..)
    have hr := fun z hz => h z (List.mem_cons_of_mem _ hz)
    cases hb : bytesBefore (tx y.1) (tx x.1) with
    | true =>
      have e : putR x (y :: r) false = y :: putR x r false := by rw [putR, if_neg hy, hb]; rfl
      rw [e]
      exact ((putR_perm x r hr).cons y).trans (List.Perm.swap ..)
    | false =>
      have e : putR x (y :: r) false = x :: y :: putR x r true := by rw [putR, if_neg hy, hb]; rfl
      rw [e, putR_true x r hr]
theorem fold_perm : ∀ (l o : List It), (∀ x ∈ l, ∀ y ∈ o, y.1 ≠ x.1) → l.Pairwise (fun a b => a.1 ≠ b.1) → (l.foldl putL o).Perm (o ++ l)
  | [], o, _, _ => by simp
  | x :: r, o, h, hp => by
    obtain ⟨h1, h2⟩ := List.pairwise_cons.1 hp
    have e := putR_perm x o (h x (List.mem_cons_self ..))
    rw [List.foldl_cons]
    refine (fold_perm r (putL o x) (fun z hz y hy => ?_) h2).trans ?_
    · rcases List.mem_cons.1 (e.mem_iff.1 hy) with rfl | hy'
      · exact h1 z hz
      · exact h z (List.mem_cons_of_mem _ hz) y hy'
    · exact (e.append_right r).trans (List.perm_middle.symm)
theorem fold_rises : ∀ (l o : List It), Rises o → Rises (l.foldl putL o)
  | [], _, h => h
  | _ :: r, _, h => fold_rises r _ (put_rises h)
theorem fold_mem {z : It} : ∀ (l o : List It), z ∈ l.foldl putL o → z ∈ o ∨ z ∈ l
  | [], _, h => .inl h
  | x :: r, o, h => by
    rcases fold_mem r _ h with h1 | h1
    · rcases put_mem.1 h1 with rfl | ⟨h2, _⟩
      · exact .inr (List.mem_cons_self ..)
      · exact .inl h2
    · exact .inr (List.mem_cons_of_mem _ h1)
theorem put_len (t : List It) (x : It) : (putL t x).length ≤ t.length + 1 := by
  have h := putR_len x t false
  unfold putL
  simp only [Bool.false_eq_true, if_false] at h
  omega
theorem fold_len : ∀ (l o : List It), (l.foldl putL o).length ≤ o.length + l.length
  | [], _ => by simp
  | x :: r, o => by
    have h1 := fold_len r (putL o x)
    have h2 := put_len o x
    rw [List.foldl_cons, List.length_cons]
    omega

/-- What Rename makes of a tree. -/
def renF (t : List It) (p q : ByteArray) : Int × List It :=
  if staysF t p q = 0 then (if (underL t p).all (fun x => pathB (tx (mvP p q x).1)) then (0, ((underL t p).map (mvP p q)).foldl putL (outL t p)) else (10, [])) else (staysF t p q, [])
theorem stays_right {t : List It} {p q : ByteArray} (h : staysF t p q = 0) : rightB t = true := by
  unfold staysF at h
  by_cases ha : askedF t [p, q] = 0
  · exact asked_right ha
  · rw [if_neg ha] at h
    exact absurd h ha
theorem ren_fun {t : List It} {p q : ByteArray} {r : Int × List It} (h : RenR t p q r) : r = renF t p q := by
  have h' := h
  unfold RenR at h
  unfold renF
  by_cases hf : staysF t p q = 0
  · rw [if_pos hf] at h ⊢
    by_cases ha : (underL t p).all (fun x => pathB (tx (mvP p q x).1)) = true
    · rw [if_pos ha] at h ⊢
      obtain ⟨zs, hz, hs, rfl⟩ := h
      have rz := rises_pair _ (right_rises (rename_right h' rfl).1).1
      have rt := rises_pair _ (right_rises (stays_right hf)).1
      have dz : zs.Pairwise (fun a b : It => a.1 ≠ b.1) := List.Pairwise.imp (fun {a b} hab e => by rw [e, bb_irr] at hab; cases hab) rz
      have d := (hz.pairwise_iff (fun {a b} h e => h e.symm)).1 dz
      obtain ⟨_, d2, d3⟩ := List.pairwise_append.1 d
      exact congrArg (Prod.mk 0) (srt_unique (hz.trans (fold_perm _ _ (fun x hx y hy => d3 y hy x hx) d2).symm) hs (fold_rises _ _ (List.Pairwise.filter _ rt)))
    · rw [if_neg ha] at h ⊢
      exact h
  · rw [if_neg hf] at h ⊢
    exact h

/-- What a change makes of a tree: the fault, and the tree. -/
def chF (t : List It) (k n : Int) (p q : ByteArray) (b : List Nat) : Int × List It :=
  if k = 0 then mkdirR t p else if k = 1 then writeR t p b else if k = 2 then removeR t p (n == 1) else if k = 3 then renF t p q else (0, t)
theorem mv_short {t : List It} {p q : ByteArray} (ht : ∀ y ∈ t, ShortI y) {x : It} (hx : x ∈ t) (h : pathB (tx (mvP p q x).1) = true) : ShortI (mvP p q x) := by
  have h1 := path_size h
  rw [tx_len] at h1
  exact ⟨by omega, (ht x hx).2⟩
theorem ren_short {t : List It} {p q : ByteArray} (ht : ∀ y ∈ t, ShortI y) : ∀ y ∈ (renF t p q).2, ShortI y := by
  unfold renF
  split
  · split
    · rename_i _ ha
      intro y hy
      rcases fold_mem _ _ hy with h | h
      · exact ht y (List.mem_filter.1 h).1
      · obtain ⟨x, hx, rfl⟩ := List.mem_map.1 h
        exact mv_short ht (List.mem_filter.1 hx).1 (List.all_eq_true.1 ha x hx)
    · simp
  · simp
theorem put_short {t : List It} {x : It} (ht : ∀ y ∈ t, ShortI y) (hx : ShortI x) : ∀ y ∈ putL t x, ShortI y := fun y hy => by
  rcases put_mem.1 hy with rfl | ⟨h, _⟩
  · exact hx
  · exact ht y h
theorem ch_short {t : List It} {k n : Int} {p q : ByteArray} {b : List Nat} (ht : ∀ y ∈ t, ShortI y) (hp : p.size ≤ 10000) (hb : b.length ≤ 10000) : ∀ y ∈ (chF t k n p q b).2, ShortI y := by
  have nil : ∀ y ∈ ([] : List It), ShortI y := fun y hy => by cases hy
  unfold chF
  split
  · unfold mkdirR
    split
    · split
      · exact nil
      · split
        · exact nil
        · exact put_short ht ⟨hp, by simp⟩
    · exact nil
  · split
    · unfold writeR
      split
      · split
        · exact nil
        · split
          · exact nil
          · split
            · exact nil
            · exact put_short ht ⟨hp, hb⟩
      · exact nil
    · split
      · unfold removeR
        split
        · split
          · exact nil
          · split
            · exact nil
            · exact fun y hy => ht y (List.mem_filter.1 hy).1
        · exact nil
      · split
        · exact ren_short ht
        · exact ht
theorem ch_len {t : List It} {k n : Int} {p q : ByteArray} {b : List Nat} : (chF t k n p q b).2.length ≤ t.length + 1 := by
  have hn : ([] : List It).length ≤ t.length + 1 := by simp
  unfold chF
  split
  · unfold mkdirR
    split
    · split
      · exact hn
      · split
        · exact hn
        · exact put_len _ _
    · exact hn
  · split
    · unfold writeR
      split
      · split
        · exact hn
        · split
          · exact hn
          · split
            · exact hn
            · exact put_len _ _
      · exact hn
    · split
      · unfold removeR
        split
        · split
          · exact hn
          · split
            · exact hn
            · exact Nat.le_succ_of_le (List.length_filter_le _ _)
        · exact hn
      · split
        · unfold renF
          split
          · split
            · have h1 := fold_len ((underL t p).map (mvP p q)) (outL t p)
              have h2 := parts_len t p
              rw [List.length_map] at h1
              show (((underL t p).map (mvP p q)).foldl putL (outL t p)).length ≤ _
              omega
            · exact hn
          · exact hn
        · exact Nat.le_succ _

end Go.Proofs.YtdooiflmjeibdaaGreatDoor.Tr
end

section
/-
  put, of the document: a tree with an item.
-/
namespace Go.Proofs.YtdooiflmjeibdaaGreatDoor.Tr
open Go.RowKit

theorem putR_step (x y : It) (r : List It) (inn : Bool) : putR x (y :: r) inn = (if !inn && !bytesBefore (tx y.1) (tx x.1) then [x] else []) ++ (if y.1 = x.1 then [] else [y]) ++ putR x r (inn || !bytesBefore (tx y.1) (tx x.1)) := rfl
theorem drop_next {t : List It} {i : Nat} {y : It} (hy : t[i]? = some y) : t.drop i = y :: t.drop (i + 1) := by
  obtain ⟨h, rfl⟩ := List.getElem?_eq_some_iff.1 hy
  exact List.drop_eq_getElem_cons h
/-- The item x lies at that place in every world behind W, its bytes below B. -/
def Lies (B : Nat) (W : World) (g o : Nat) (x : It) (u : Value) : Prop := ∀ V, Kp No W V → V.cell? ⟨g, o, none⟩ = some (.string x.1) ∧ V.cell? ⟨g, o + 1, none⟩ = some (.bool x.2.1) ∧ V.cell? ⟨g, o + 2, none⟩ = some u ∧ ByP (fun g => g < B) V u x.2.2
theorem Lies.mk' {B : Nat} {W : World} {g o : Nat} {x : It} {u : Value} (h0 : W.cell? ⟨g, o, none⟩ = some (.string x.1)) (h1 : W.cell? ⟨g, o + 1, none⟩ = some (.bool x.2.1)) (h2 : W.cell? ⟨g, o + 2, none⟩ = some u) (hb : ByP (fun g => g < B) W u x.2.2) : Lies B W g o x u := fun V k => by
  have hg : g < W.heap.size := World.block_lt_of_cell? W _ h0
  exact ⟨(k.cell (p := ⟨g, o, none⟩) hg (fun h => h)).trans h0, (k.cell (p := ⟨g, o + 1, none⟩) hg (fun h => h)).trans h1, (k.cell (p := ⟨g, o + 2, none⟩) hg (fun h => h)).trans h2, hb.kept k⟩

set_option maxHeartbeats 8000000 in
theorem rput_B (w : World) (v u : Value) (t : List It) (x : It) (B : Nat) (h : IRow (fun g => g < B) w v t) (hu : ByP (fun g => g < B) w u x.2.2) (hB : B ≤ w.heap.size) (hl : t.length ≤ 10000) (hs : ∀ y ∈ t, y.1.size ≤ 20000000) (hx : x.1.size ≤ 20000000) :
    Calls Tryz.prog 44 #[v, .agg #[.string x.1, .bool x.2.1, u]] w fun e w' => ∃ v', e = .returned v' ∧ IRow Any w' v' (putL t x) ∧ Kp No w w' := by
  have HSZ := hid hs
  obtain ⟨au, cu, rfl⟩ := hu.form
  have hW1 : Kp No w (w.alloc (.cells #[.string x.1, .bool x.2.1, .slice au x.2.2.length cu] 41)) := (Kp.refl _ _).alloc _
  have HBX : Hid (Lies B (w.alloc (.cells #[.string x.1, .bool x.2.1, .slice au x.2.2.length cu] 41)) w.heap.size 0 x (.slice au x.2.2.length cu)) := by
    obtain ⟨b0, b1, b2⟩ := box_it w x (.slice au x.2.2.length cu) 41 _ (Kp.refl _ _)
    exact Lies.mk' b0 b1 b2 (hu.kept hW1)
  have hcl := hid (fun (hne : t ≠ []) => (h.kept hW1).cellsP hne)
  have HB1 : Hid (B ≤ (w.alloc (.cells #[.string x.1, .bool x.2.1, .slice au x.2.2.length cu] 41)).heap.size) := Nat.le_trans hB hW1.size
  have HW1 := hid hW1
  obtain ⟨a, cap, rfl, _⟩ := h.form
  have HP : Hid (∀ L i inn, putR x t false = L ++ putR x (t.drop i) inn → L.length + 2 ≤ 1000000) := fun L i inn e => by
    have h1 := put_len t x
    unfold putL at h1
    rw [e, List.length_append] at h1
    omega
  have HQ : Hid (putL t x = putR x t false) := rfl
  obtain ⟨n, hn⟩ : ∃ n, t.length = n := ⟨_, rfl⟩
  have HN := hid hn
  have HXS := hid hx
  rw [hn] at hl hcl
  generalize putL t x = pl at *
  rw [hn]
  clear hn h hs hu hB hx hW1
  go_enter Tryz.func44, Tryz.ntmps44
  go_wp2_with fail
  generalize w.alloc (.cells #[.string x.1, .bool x.2.1, .slice au x.2.2.length cu] 41) = W1 at *
  go_loopw [5, 6, 7] (fun v5 v6 z wr => ∃ (i : Nat) (a1 : Option Addr) (n1 c1 : Nat) (inn : Bool) (L : List It), v5 = .slice a1 n1 c1 ∧ v6 = .bool inn ∧ z = .int .i64 i ∧ i ≤ n ∧ Hid (ROwn B wr (.slice a1 n1 c1) L ∧ (∀ b, (Value.slice a1 n1 c1).ownBlock = some b → W1.heap.size ≤ b) ∧ Kp No W1 wr) ∧ Hid (n1 = L.length) ∧ Hid (putR x t false = L ++ putR x (t.drop i) inn)) (fun _ _ z _ => n - (intOf z).toNat)
  case atStart => exact ⟨0, none, 0, 0, false, [], rfl, rfl, rfl, Nat.zero_le _, ⟨ROwn.nil HB1.out, by simp [Value.ownBlock], Kp.refl _ _⟩, rfl, rfl⟩
  case round =>
    obtain ⟨i, a1, n1, c1, inn, L, rfl, rfl, rfl, hi, HT, HN1, HL⟩ := hrel
    obtain ⟨b0, b1, b2, bx⟩ := HBX.out _ HT.out.2.2
    have BX := hid bx
    simp only [Nat.zero_add] at b1 b2
    clear bx
    by_cases hlt : i < n
    · have hltI : (i : Int) < (n : Int) := by omega
      have hi0 : (0 : Int) ≤ (i : Int) := by omega
      obtain ⟨y, hy⟩ : ∃ y, t[i]? = some y := ⟨_, List.getElem?_eq_getElem (by rw [HN.out]; omega)⟩
      have HY := hid hy
      obtain ⟨g, o, c', e, hc⟩ := hcl.out (by rintro rfl; simp at hy)
      cases e
      obtain ⟨uy, k0, k1, k2, hb⟩ := hc _ (Kp.refl _ _) i y hy
      obtain ⟨ay, cy, e⟩ := hb.form
      subst e
      have HCY := hid (Lies.mk' k0 k1 k2 hb)
      clear k0 k1 k2
      obtain ⟨k0, k1, k2, ky⟩ := HCY.out _ HT.out.2.2
      have KY := hid ky
      clear ky
      have HLS := hid (fun W => rLess_any y.1 x.1 (HSZ.out y (List.mem_of_getElem? hy)) HXS.out W)
      have HLEN := hid (HP.out L i inn HL.out)
      have HST := hid (HL.out.trans (by rw [drop_next hy, putR_step]))
      clear hy hb hc
      cases inn with
      | true =>
        by_cases hxy : y.1 = x.1
        · have heq : (y.1.toList == x.1.toList) = true := by rw [hxy]; simp
          have HXY := hid hxy
          clear hxy
          go_wp2_with fail
          go_quiet (fail)
          go_wp2_with fail
          go_quiet (fail)
          go_wp2
          go_roundw
          case rel => exact ⟨i + 1, a1, n1, c1, true, L, rfl, rfl, by go_num, by omega, ⟨HT.out.1.kept ((Kp.refl No wr).drewN _), HT.out.2.1, HT.out.2.2.drewN _⟩, HN1.out, by
            have h := HST.out
            rw [if_pos HXY.out] at h
            simpa [Hid] using h⟩
          case measure => simp [intOf] <;> omega
        · have heq : (y.1.toList == x.1.toList) = false := by
            have := str_eq y.1 x.1
            rwa [decide_eq_false hxy] at this
          have HXY := hid hxy
          clear hxy
          go_wp2_with fail
          go_quiet (fail)
          go_wp2_with fail
          go_quiet (fail)
          go_wp2_with (at_builtin; refine app_itemR _ _ rfl _ _ 22 Tryz.underlying22 rfl _ _ y (.slice ay y.2.2.length cy) rfl rfl rfl (HT.out.1.kept ((Kp.refl No wr).drewN _)) (KY.out.kept ((Kp.refl No wr).drewN _)) rfl (by have := HLEN.out; omega) ?_; intro ad cad w3 hownad hkad)
          have HR := hid (hkad W1 (HT.out.2.2.drewN _) HT.out.2.1)
          have HO := hid hownad
          clear hownad hkad
          go_roundw
          case rel => exact ⟨i + 1, ad, _, cad, true, L ++ [y], rfl, rfl, by go_num, by omega, ⟨HO.out, HR.out.1, HR.out.2⟩, by simp [Hid], by
            have h := HST.out
            rw [if_neg HXY.out] at h
            simpa [Hid] using h⟩
          case measure => simp [intOf] <;> omega
      | false =>
        cases hbb : bytesBefore (tx y.1) (tx x.1) with
        | true =>
          have hxy : ¬ y.1 = x.1 := fun e => by rw [e, bb_irr] at hbb; cases hbb
          have heq : (y.1.toList == x.1.toList) = false := by
            have := str_eq y.1 x.1
            rwa [decide_eq_false hxy] at this
          have HXY := hid hxy
          clear hxy
          have HBB := hid hbb
          rw [show bytesBefore y.1.data.toList x.1.data.toList = true from hbb] at HLS
          have k0' : ∀ V, Kp No wr V → V.cell? ⟨g, o + i * 3, none⟩ = some (.string y.1) := fun V k => (HCY.out _ (HT.out.2.2.andNone k)).1
          have b0' : ∀ V, Kp No wr V → V.cell? ⟨w.heap.size, 0, none⟩ = some (.string x.1) := fun V k => (HBX.out _ (HT.out.2.2.andNone k)).1
          clear k0 k1 k2 b0 b1 b2 BX KY hbb
          go_wp2_with fail
          go_region_held3 (fun V => Kp No wr V) (first | (with_reducible exact Kp.refl _ _) | (with_reducible exact (Kp.refl _ _).drew) | (with_reducible exact HK1.out)) (first | (go_at_call 61; refine (HLS.out _).mono ?_; rintro e w1 ⟨rfl, hk⟩; have HK1 : Hid (Kp No wr w1) := (Kp.refl _ _).drew.andNone hk; clear hk))
          clear k0' b0'
          obtain ⟨b0, b1, b2, bx⟩ := HBX.out _ (HT.out.2.2.andNone HK1.out)
          obtain ⟨k0, k1, k2, ky⟩ := HCY.out _ (HT.out.2.2.andNone HK1.out)
          have BX := hid bx
          have KY := hid ky
          simp only [Nat.zero_add] at b1 b2
          clear bx ky
          go_wp2_with fail
          go_quiet (fail)
          go_wp2_with (at_builtin; refine app_itemR _ _ rfl _ _ 22 Tryz.underlying22 rfl _ _ y (.slice ay y.2.2.length cy) rfl rfl rfl ((HT.out.1.kept HK1.out).kept ((Kp.refl No w1).drewN _)) (KY.out.kept ((Kp.refl No w1).drewN _)) rfl (by have := HLEN.out; omega) ?_; intro ad cad w3 hownad hkad)
          have HR := hid (hkad W1 ((HT.out.2.2.andNone HK1.out).drewN _) HT.out.2.1)
          have HO := hid hownad
          clear hownad hkad
          go_roundw
          case rel => exact ⟨i + 1, ad, _, cad, false, L ++ [y], rfl, rfl, by go_num, by omega, ⟨HO.out, HR.out.1, HR.out.2⟩, by simp [Hid], by
            have h := HST.out
            rw [if_neg HXY.out, HBB.out] at h
            simpa [Hid] using h⟩
          case measure => simp [intOf] <;> omega
        | false =>
          by_cases hxy : y.1 = x.1
          · have heq : (y.1.toList == x.1.toList) = true := by rw [hxy]; simp
            have HXY := hid hxy
            clear hxy
            have HBB := hid hbb
            rw [show bytesBefore y.1.data.toList x.1.data.toList = false from hbb] at HLS
            have k0' : ∀ V, Kp No wr V → V.cell? ⟨g, o + i * 3, none⟩ = some (.string y.1) := fun V k => (HCY.out _ (HT.out.2.2.andNone k)).1
            have b0' : ∀ V, Kp No wr V → V.cell? ⟨w.heap.size, 0, none⟩ = some (.string x.1) := fun V k => (HBX.out _ (HT.out.2.2.andNone k)).1
            clear k0 k1 k2 b0 b1 b2 BX KY hbb
            go_wp2_with fail
            go_region_held3 (fun V => Kp No wr V) (first | (with_reducible exact Kp.refl _ _) | (with_reducible exact (Kp.refl _ _).drew) | (with_reducible exact HK1.out)) (first | (go_at_call 61; refine (HLS.out _).mono ?_; rintro e w1 ⟨rfl, hk⟩; have HK1 : Hid (Kp No wr w1) := (Kp.refl _ _).drew.andNone hk; clear hk))
            clear k0' b0'
            obtain ⟨b0, b1, b2, bx⟩ := HBX.out _ (HT.out.2.2.andNone HK1.out)
            obtain ⟨k0, k1, k2, ky⟩ := HCY.out _ (HT.out.2.2.andNone HK1.out)
            have BX := hid bx
            have KY := hid ky
            simp only [Nat.zero_add] at b1 b2
            clear bx ky
            go_wp2_with (at_builtin; refine app_itemR _ _ rfl _ _ 22 Tryz.underlying22 rfl _ _ x (.slice au x.2.2.length cu) rfl rfl rfl (HT.out.1.kept HK1.out) (BX.out) rfl (by have := HLEN.out; omega) ?_; intro ad cad w3 hownad hkad)
            have HR := hid (hkad W1 (HT.out.2.2.andNone HK1.out) HT.out.2.1)
            have HO := hid hownad
            clear hownad hkad b0 b1 b2 k0 k1 k2 BX KY
            obtain ⟨b0, b1, b2, bx⟩ := HBX.out _ HR.out.2
            obtain ⟨k0, k1, k2, ky⟩ := HCY.out _ HR.out.2
            have KY := hid ky
            simp only [Nat.zero_add] at b1 b2
            clear bx ky
            go_wp2_with fail
            go_quiet (fail)
            go_wp2
            go_roundw
            case rel => exact ⟨i + 1, ad, _, cad, true, L ++ [x], rfl, rfl, by go_num, by omega, ⟨HO.out.kept ((Kp.refl No w3).drewN _), HR.out.1, HR.out.2.drewN _⟩, by simp [Hid], by
              have h := HST.out
              rw [if_pos HXY.out, HBB.out] at h
              simpa [Hid] using h⟩
            case measure => simp [intOf] <;> omega
          · have heq : (y.1.toList == x.1.toList) = false := by
              have := str_eq y.1 x.1
              rwa [decide_eq_false hxy] at this
            have HXY := hid hxy
            clear hxy
            have HBB := hid hbb
            rw [show bytesBefore y.1.data.toList x.1.data.toList = false from hbb] at HLS
            have k0' : ∀ V, Kp No wr V → V.cell? ⟨g, o + i * 3, none⟩ = some (.string y.1) := fun V k => (HCY.out _ (HT.out.2.2.andNone k)).1
            have b0' : ∀ V, Kp No wr V → V.cell? ⟨w.heap.size, 0, none⟩ = some (.string x.1) := fun V k => (HBX.out _ (HT.out.2.2.andNone k)).1
            clear k0 k1 k2 b0 b1 b2 BX KY hbb
            go_wp2_with fail
            go_region_held3 (fun V => Kp No wr V) (first | (with_reducible exact Kp.refl _ _) | (with_reducible exact (Kp.refl _ _).drew) | (with_reducible exact HK1.out)) (first | (go_at_call 61; refine (HLS.out _).mono ?_; rintro e w1 ⟨rfl, hk⟩; have HK1 : Hid (Kp No wr w1) := (Kp.refl _ _).drew.andNone hk; clear hk))
            clear k0' b0'
            obtain ⟨b0, b1, b2, bx⟩ := HBX.out _ (HT.out.2.2.andNone HK1.out)
            obtain ⟨k0, k1, k2, ky⟩ := HCY.out _ (HT.out.2.2.andNone HK1.out)
            have BX := hid bx
            have KY := hid ky
            simp only [Nat.zero_add] at b1 b2
            clear bx ky
            go_wp2_with (at_builtin; refine app_itemR _ _ rfl _ _ 22 Tryz.underlying22 rfl _ _ x (.slice au x.2.2.length cu) rfl rfl rfl (HT.out.1.kept HK1.out) (BX.out) rfl (by have := HLEN.out; omega) ?_; intro ad cad w3 hownad hkad)
            have HR := hid (hkad W1 (HT.out.2.2.andNone HK1.out) HT.out.2.1)
            have HO := hid hownad
            clear hownad hkad b0 b1 b2 k0 k1 k2 BX KY
            obtain ⟨b0, b1, b2, bx⟩ := HBX.out _ HR.out.2
            obtain ⟨k0, k1, k2, ky⟩ := HCY.out _ HR.out.2
            have KY := hid ky
            simp only [Nat.zero_add] at b1 b2
            clear bx ky
            go_wp2_with fail
            go_quiet (fail)
            go_wp2_with (at_builtin; refine app_itemR _ _ rfl _ _ 22 Tryz.underlying22 rfl _ _ y (.slice ay y.2.2.length cy) rfl rfl rfl (HO.out.kept ((Kp.refl No w3).drewN _)) (KY.out.kept ((Kp.refl No w3).drewN _)) rfl (by have := HLEN.out; simp; omega) ?_; intro ae cae w4 hownae hkae)
            have HR2 := hid (hkae W1 (HR.out.2.drewN _) HR.out.1)
            have HO2 := hid hownae
            clear hownae hkae
            go_roundw
            case rel => exact ⟨i + 1, ae, _, cae, true, L ++ [x] ++ [y], by simp, rfl, by go_num, by omega, ⟨HO2.out, HR2.out.1, HR2.out.2⟩, by simp [Hid], by
              have h := HST.out
              rw [if_neg HXY.out, HBB.out] at h
              simpa [Hid] using h⟩
            case measure => simp [intOf] <;> omega
    · have hltI : ¬ (i : Int) < (n : Int) := by omega
      have HEND : Hid (t.drop i = []) := List.drop_of_length_le (by have := HN.out; omega)
      cases inn with
      | true =>
        go_wp2
        go_ret
        refine ⟨_, rfl, ?_, HW1.out.andNone HT.out.2.2⟩
        have h := HL.out
        rw [HEND.out] at h
        rw [HQ.out, h]
        simpa [putR] using HT.out.1.row
      | false =>
        have HLEN := hid (HP.out L i false HL.out)
        go_wp2_with (at_builtin; refine app_itemR _ _ rfl _ _ 22 Tryz.underlying22 rfl _ _ x (.slice au x.2.2.length cu) rfl rfl rfl (HT.out.1) (BX.out) rfl (by have := HLEN.out; omega) ?_; intro ad cad w3 hownad hkad)
        have HR := hid (hkad W1 HT.out.2.2 HT.out.2.1)
        have HO := hid hownad
        clear hownad hkad
        go_ret
        refine ⟨_, rfl, ?_, HW1.out.andNone HR.out.2⟩
        have h := HL.out
        rw [HEND.out] at h
        rw [HQ.out, h]
        rw [HN1.out]
        simpa [putR] using HO.out.row

end Go.Proofs.YtdooiflmjeibdaaGreatDoor.Tr
end
