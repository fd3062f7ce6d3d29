/-
  apart, Under.
-/
import Derived.Test.YtdooiflmjeibdaaDoorTrOwn
namespace Go.Proofs.YtdooiflmjeibdaaDoor.Tr
open Go.RowKit

/-- The rows that apart builds, in its midst. -/
structure Two (w wr : World) (va vb : Value) (xs ys : List It) : Prop where
  a : IOwn wr va xs
  b : IOwn wr vb ys
  ne : ∀ x, va.ownBlock = some x → vb.ownBlock ≠ some x
  la : ∀ x, va.ownBlock = some x → w.heap.size ≤ x
  lb : ∀ x, vb.ownBlock = some x → w.heap.size ≤ x
  k : Kp No w wr
theorem Two.start (w : World) : Two w w (.slice none 0 0) (.slice none 0 0) [] [] := ⟨IOwn.nil _, IOwn.nil _, by simp [Value.ownBlock], by simp [Value.ownBlock], by simp [Value.ownBlock], Kp.refl _ _⟩
theorem Two.kept {w wr w' : World} {va vb : Value} {xs ys : List It} (h : Two w wr va vb xs ys) (k : Kp No wr w') : Two w w' va vb xs ys := ⟨h.a.kept k, h.b.kept k, h.ne, h.la, h.lb, h.k.andNone k⟩
theorem Two.swap {w wr : World} {va vb : Value} {xs ys : List It} (h : Two w wr va vb xs ys) : Two w wr vb va ys xs := ⟨h.b, h.a, fun x hx hy => h.ne x hy hx, h.lb, h.la, h.k⟩
theorem own_lt {w : World} {v : Value} {xs : List It} (h : IOwn w v xs) : ∀ x, v.ownBlock = some x → x < w.heap.size := fun x hx => (h.ty x hx).lt
/-- An append to the first one. -/
theorem Two.push {w wr w1 w2 : World} {va vb v' : Value} {xs ys zs : List It} (h : Two w wr va vb xs ys) (k : Kp No wr w1) (hg : w1.grownBy w2 va.ownBlock) (hown : IOwn w2 v' zs)
    (hb : v'.ownBlock = va.ownBlock ∨ v'.ownBlock = some w1.heap.size) : Two w w2 v' vb zs ys := by
  have h1 := h.kept k
  have kg : Kp (fun x => va.ownBlock = some x) w1 w2 := Kp.ofGrown hg
  have hb2 := h1.b.kp kg (fun x hx hy => h.ne x hy hx) (fun x hx _ ht => (h1.a.ty x hx).ne ht (by decide) rfl)
  refine ⟨hown, hb2, fun x hx hy => ?_, fun x hx => ?_, h.lb, h1.k.trans kg (fun x hx => .inr (h.la x hx))⟩
  · rcases hb with e | e
    · exact h.ne x (e ▸ hx) hy
    · rw [e] at hx
      simp only [Option.some.injEq] at hx
      have := own_lt h1.b x hy
      omega
  · rcases hb with e | e
    · exact h.la x (e ▸ hx)
    · rw [e] at hx
      simp only [Option.some.injEq] at hx
      have := h1.k.size
      omega
theorem ByP.form {P : Nat → Prop} {w : World} {v : Value} {bs : List Nat} (h : ByP P w v bs) : ∃ a c, v = .slice a bs.length c := by
  obtain ⟨a, c, e, _⟩ := h
  exact ⟨a, c, e⟩
theorem OwnB.one {w : World} {v : Value} {bs : List Nat} (h : OwnB w v bs) : v.oneCell' = true := by
  obtain ⟨a, c, rfl, _⟩ := h.shape
  rfl
theorem under_yes {t : List It} {i : Nat} {x : It} {p : ByteArray} (hx : t[i]? = some x) (h : withinB (tx p) (tx x.1) = true) : underL (t.take (i + 1)) p = underL (t.take i) p ++ [x] ∧ outL (t.take (i + 1)) p = outL (t.take i) p := by
  obtain ⟨hi, rfl⟩ := List.getElem?_eq_some_iff.1 hx
  rw [List.take_succ_eq_append_getElem hi, underL, outL, List.filter_append, List.filter_append, underL, outL]
  simp [h]
theorem under_no {t : List It} {i : Nat} {x : It} {p : ByteArray} (hx : t[i]? = some x) (h : withinB (tx p) (tx x.1) = false) : underL (t.take (i + 1)) p = underL (t.take i) p ∧ outL (t.take (i + 1)) p = outL (t.take i) p ++ [x] := by
  obtain ⟨hi, rfl⟩ := List.getElem?_eq_some_iff.1 hx
  rw [List.take_succ_eq_append_getElem hi, underL, outL, List.filter_append, List.filter_append, underL, outL]
  simp [h]
theorem take_next {t : List It} {i : Nat} {x : It} (hx : t[i]? = some x) : t.take (i + 1) = t.take i ++ [x] := by
  obtain ⟨hi, rfl⟩ := List.getElem?_eq_some_iff.1 hx
  exact List.take_succ_eq_append_getElem hi

set_option maxHeartbeats 4000000 in
theorem apart_any (w : World) (v : Value) (t : List It) (p : ByteArray) (h : IRow Any w v t) (hl : t.length ≤ 100000) (hs : ∀ x ∈ t, ShortI x) :
    Calls Tryd.prog 25 #[v, .string p] w fun e w' => ∃ a n c a' n' c', e = .returned (.tuple #[.slice a n c, .slice a' n' c']) ∧ Two w w' (.slice a n c) (.slice a' n' c') (underL t p) (outL t p) := by
  have HI := hid h
  have HSH := hid hs
  obtain ⟨a, cap, rfl, _⟩ := h.form
  obtain ⟨n, hn⟩ : ∃ n, t.length = n := ⟨_, rfl⟩
  have HN := hid hn
  have hcl := hid (fun (hne : t ≠ []) => h.cells hne)
  rw [hn] at hl HI hcl ⊢
  clear hn h hs
  go_enter Tryd.func25, Tryd.ntmps25
  go_wp2_with fail
  go_loopw [4, 5, 10] (fun v4 v5 x wr => ∃ (i : Nat) (a1 : Option Addr) (n1 c1 : Nat) (a2 : Option Addr) (n2 c2 : Nat), v4 = .slice a1 n1 c1 ∧ v5 = .slice a2 n2 c2 ∧ x = .int .i64 i ∧ i ≤ n ∧ Hid (Two w wr (.slice a1 n1 c1) (.slice a2 n2 c2) (underL (t.take i) p) (outL (t.take i) p))) (fun _ _ x _ => n - (intOf x).toNat)
  case atStart => exact ⟨0, none, 0, 0, none, 0, 0, rfl, rfl, rfl, Nat.zero_le _, Two.start w⟩
  case round =>
    obtain ⟨i, a1, n1, c1, a2, n2, c2, rfl, rfl, rfl, hi, HT⟩ := hrel
    by_cases hlt : i < n
    · have hltI : (i : Int) < (n : Int) := by omega
      have hi0 : (0 : Int) ≤ (i : Int) := by omega
      obtain ⟨x, hx⟩ : ∃ x, t[i]? = some x := ⟨_, List.getElem?_eq_getElem (by rw [HN.out]; omega)⟩
      have HX := hid hx
      have HSX := hid (HSH.out x (List.mem_of_getElem? hx))
      obtain ⟨g, o, c', e, hc⟩ := hcl.out (by rintro rfl; simp at hx)
      cases e
      obtain ⟨u, k0, k1, k2, hb⟩ := hc _ HT.out.k i x hx
      obtain ⟨au, cu, hu⟩ := hb.form
      subst hu
      have HU := hid hb
      have HL2 : Hid (x.2.2.length ≤ 20000000) := by have := HSX.out.2; unfold Hid; omega
      have HLEN : Hid ((underL (t.take i) p).length + 1 ≤ 1000000 ∧ (outL (t.take i) p).length + 1 ≤ 1000000) := by
        have h1 := List.length_filter_le (fun x : It => withinB (tx p) (tx x.1)) (t.take i)
        have h2 := List.length_filter_le (fun x : It => !withinB (tx p) (tx x.1)) (t.take i)
        have h3 := List.length_take_le i t
        unfold Hid underL outL
        omega
      clear hx hb
      have HWI := hid (fun W => within_any x.1 p W)
      cases hp : withinB (tx p) (tx x.1) with
      | true =>
        have HP := hid hp
        simp only [hp] at HWI
        clear hp
        go_wp2_with (first | (go_at_call 39; refine (HWI.out _).mono ?_; rintro e w1 ⟨rfl, rfl⟩) | (go_at_call 23; refine (clone_it _ x _ ((HU.out).kept ((Kp.refl _ _).alloc _)) HL2.out).mono ?_; rintro e w2 ⟨u', rfl, ho, _, hk⟩; have HO := hid ho; have HK2 := hid (((Kp.refl No _).alloc _).andNone hk); clear ho hk) | (at_builtin; refine app_item _ w2 rfl _ _ 27 Tryd.underlying27 rfl _ _ x u' rfl rfl rfl (HT.out.a.kept HK2.out) (HO.out.byU HL2.out HU.out.lt256) HO.out.one (by have := HLEN.out; omega) ?_; intro ad cap2 w3 hown hg hbk))
        have HTN := hid (HT.out.push (HK2.out.andNone ((Kp.refl No _).alloc _)) hg hown hbk)
        clear hown hg hbk
        go_roundw
        case rel => exact ⟨i + 1, ad, _, cap2, a2, n2, c2, rfl, rfl, by go_num, by omega, by
          have h := under_yes HX.out HP.out
          rw [Hid, h.1, h.2]
          exact HTN.out⟩
        case measure => simp [intOf] <;> omega
      | false =>
        have HP := hid hp
        simp only [hp] at HWI
        clear hp
        go_wp2_with (first | (go_at_call 39; refine (HWI.out _).mono ?_; rintro e w1 ⟨rfl, rfl⟩) | (go_at_call 23; refine (clone_it _ x _ ((HU.out).kept ((Kp.refl _ _).alloc _)) HL2.out).mono ?_; rintro e w2 ⟨u', rfl, ho, _, hk⟩; have HO := hid ho; have HK2 := hid (((Kp.refl No _).alloc _).andNone hk); clear ho hk) | (at_builtin; refine app_item _ w2 rfl _ _ 27 Tryd.underlying27 rfl _ _ x u' rfl rfl rfl (HT.out.b.kept HK2.out) (HO.out.byU HL2.out HU.out.lt256) HO.out.one (by have := HLEN.out; omega) ?_; intro ad cap2 w3 hown hg hbk))
        have HTN := hid (HT.out.swap.push (HK2.out.andNone ((Kp.refl No _).alloc _)) hg hown hbk)
        clear hown hg hbk
        go_roundw
        case rel => exact ⟨i + 1, a1, n1, c1, ad, _, cap2, rfl, rfl, by go_num, by omega, by
          have h := under_no HX.out HP.out
          rw [Hid, h.1, h.2]
          exact HTN.out.swap⟩
        case measure => simp [intOf] <;> omega
    · have hltI : ¬ (i : Int) < (n : Int) := by omega
      go_wp2
      go_ret2
      refine ⟨a1, n1, c1, a2, n2, c2, rfl, ?_⟩
      have := HT.out
      rwa [List.take_of_length_le (by rw [HN.out]; omega)] at this

set_option maxHeartbeats 1000000 in
theorem under_any (w : World) (v : Value) (t : List It) (p : ByteArray) (h : IRow Any w v t) (hl : t.length ≤ 100000) (hs : ∀ x ∈ t, ShortI x) :
    Calls Tryd.prog 13 #[v, .string p] w fun e w' => ∃ a n c, e = .returned (.slice a n c) ∧ IOwn w' (.slice a n c) (underL t p) ∧ (∀ x, (Value.slice a n c).ownBlock = some x → w.heap.size ≤ x) ∧ Kp No w w' := by
  have HA := hid (apart_any w v t p h hl hs)
  clear h hs
  go_enter Tryd.func13, Tryd.ntmps13
  go_wp2_with (go_at_call 25; refine HA.out.mono ?_; rintro e w1 ⟨a, n, c, a', n', c', rfl, ht⟩; have HT := hid ht; clear ht)
  go_ret
  exact ⟨a, n, c, rfl, HT.out.a, HT.out.la, HT.out.k⟩

end Go.Proofs.YtdooiflmjeibdaaDoor.Tr
