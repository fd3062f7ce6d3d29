/- Of the proof: the texts NdSymC, NdStable, one behind the other. -/
import Derived.Test.YtenfahecnkdhaaaB4
import Derived.Deep.DeepCutAuto
section
/-
  Two sorted ranges that stand side by side are merged in place.
-/
namespace Go.Proofs.Ytenfahecnkdhaaa.Nd
open Go.RowKit
open Stb (Stab Srt Mrg Lts Les)
open Sim (hid Kp No)

/-- A search by halves among numbers. -/
structure HalfN (P : Nat → Bool) (lo hi i j : Nat) : Prop where
  le1 : lo ≤ i
  le : i ≤ j
  le2 : j ≤ hi
  yes : ∀ t, lo ≤ t → t < i → P t = true
  no : ∀ t, j ≤ t → t < hi → P t = false
theorem HalfN.up {P : Nat → Bool} {lo hi i j c : Nat} (H : HalfN P lo hi i j) (h1 : i ≤ c) (h2 : c < j) (hp : P c = true) (mono : ∀ t u, lo ≤ t → t ≤ u → u < hi → P u = true → P t = true) : HalfN P lo hi (c + 1) j :=
  ⟨by have := H.le1; omega, by omega, H.le2, fun t a b => mono t c a (by omega) (by have := H.le2; omega) hp, H.no⟩
theorem HalfN.dn {P : Nat → Bool} {lo hi i j c : Nat} (H : HalfN P lo hi i j) (h1 : i ≤ c) (h2 : c < j) (hp : P c = false) (mono : ∀ t u, lo ≤ t → t ≤ u → u < hi → P u = true → P t = true) : HalfN P lo hi i c :=
  ⟨H.le1, h1, by have := H.le2; omega, H.yes, fun t a b => by
    cases hpt : P t with
    | false => rfl
    | true => rw [mono c t (by have := H.le1; omega) a b hpt] at hp; cases hp⟩

theorem mrg_nil_right {A : List Ent} (h : Srt ky lexB A) : Mrg ky lexB A [] A := ⟨by rw [List.append_nil]; exact Stab.refl _, h⟩
theorem mrg_nil_left {A : List Ent} (h : Srt ky lexB A) : Mrg ky lexB [] A A := ⟨Stab.refl _, h⟩
theorem srt_le {B : List Ent} (hs : Srt ky lexB B) {t u : Nat} {x y : Ent} (htu : t ≤ u) (hx : B[t]? = some x) (hy : B[u]? = some y) : lexB y.1 x.1 = false := by
  by_cases e : t = u
  · subst e; rw [hx] at hy; cases hy; exact lexB_irr _
  · obtain ⟨hu1, hu2⟩ := List.getElem?_eq_some_iff.1 hy
    obtain ⟨ht1, ht2⟩ := List.getElem?_eq_some_iff.1 hx
    have := List.pairwise_iff_getElem.1 hs t u ht1 hu1 (by omega)
    rw [ht2, hu2] at this
    exact this

/-- What is asked of c: that the one at c stands not behind its fellow. -/
def askP (A B : List Ent) (a m p : Nat) (c : Nat) : Bool := !lexB ((B.getD (p - c - m) zEnt).1) ((A.getD (c - a) zEnt).1)

section
variable {A B : List Ent} {a m b mid lo hi : Nat}
/-- The numbers of a merge. -/
structure Nums (A B : List Ent) (a m b mid lo hi : Nat) : Prop where
  am : a + A.length = m
  mb : m + B.length = b
  mid2 : mid = (a + b) / 2
  A2 : 1 < A.length
  B2 : 1 < B.length
  lohi : (mid < m ∧ lo = mid + m - b ∧ hi = mid) ∨ (m ≤ mid ∧ lo = a ∧ hi = m)
theorem Nums.rng (h : Nums A B a m b mid lo hi) : a ≤ lo ∧ lo ≤ hi ∧ hi ≤ m ∧ hi ≤ mid ∧ a < mid ∧ mid < b := by
  have := h.am; have := h.mb; have := h.mid2; have := h.A2; have := h.B2; have := h.lohi
  omega
theorem Nums.ix (h : Nums A B a m b mid lo hi) {c : Nat} (h1 : lo ≤ c) (h2 : c < hi) : c - a < A.length ∧ m ≤ mid + m - 1 - c ∧ mid + m - 1 - c - m < B.length ∧ a ≤ c ∧ c < m ∧ mid + m - 1 - c < b := by
  have := h.am; have := h.mb; have := h.mid2; have := h.A2; have := h.B2; have := h.lohi
  omega
theorem getD_of {l : List Ent} {i : Nat} (h : i < l.length) : l[i]? = some (l.getD i zEnt) := by rw [List.getD_eq_getElem?_getD, List.getElem?_eq_getElem h]; rfl
theorem Nums.mono (h : Nums A B a m b mid lo hi) (sa : Srt ky lexB A) (sb : Srt ky lexB B) : ∀ t u, lo ≤ t → t ≤ u → u < hi → askP A B a m (mid + m - 1) u = true → askP A B a m (mid + m - 1) t = true := fun t u h1 h2 h3 hp => by
  have i1 := h.ix h1 (Nat.lt_of_le_of_lt h2 h3)
  have i2 := h.ix (Nat.le_trans h1 h2) h3
  have k1 := srt_le sa (t := t - a) (u := u - a) (by omega) (getD_of i1.1) (getD_of i2.1)
  have k2 := srt_le sb (t := mid + m - 1 - u - m) (u := mid + m - 1 - t - m) (by omega) (getD_of i2.2.2.1) (getD_of i1.2.2.1)
  unfold askP at hp ⊢
  have hp' : lexB ((B.getD (mid + m - 1 - u - m) zEnt).1) ((A.getD (u - a) zEnt).1) = false := by simpa using hp
  have := lexOrd.le_le k1 (lexOrd.le_le hp' k2)
  simpa using this
/-- Where the search ends both are cut well. -/
theorem Nums.cut (h : Nums A B a m b mid lo hi) (sa : Srt ky lexB A) (sb : Srt ky lexB B) {s : Nat} (H : HalfN (askP A B a m (mid + m - 1)) lo hi s s) :
    Lts ky lexB (B.take (mid - s)) (A.drop (s - a)) ∧ Les ky lexB (A.take (s - a)) (B.drop (mid - s)) ∧ s - a ≤ A.length ∧ mid - s ≤ B.length ∧ a ≤ s ∧ s ≤ m ∧ s ≤ mid ∧ mid + m - s ≤ b := by
  have r := h.rng
  have am := h.am
  have mb := h.mb
  have hl := h.lohi
  have hm2 := h.mid2
  have hA2 := h.A2
  have hB2 := h.B2
  have l1 := H.le1
  have l2 := H.le2
  refine ⟨fun y hy x hx => ?_, fun x hx y hy => ?_, by omega, by omega, by omega, by omega, by omega, by omega⟩
  · obtain ⟨v, hv⟩ := List.mem_iff_getElem?.1 hy
    obtain ⟨u, hu⟩ := List.mem_iff_getElem?.1 hx
    have hvl : v < mid - s := by have := (List.getElem?_eq_some_iff.1 hv).1; rw [List.length_take] at this; omega
    rw [List.getElem?_take_of_lt hvl] at hv
    rw [List.getElem?_drop] at hu
    have hul := (List.getElem?_eq_some_iff.1 hu).1
    by_cases hs : s < hi
    · have hn := H.no s (Nat.le_refl _) hs
      have ix := h.ix l1 hs
      unfold askP at hn
      have hn' : lexB ((B.getD (mid + m - 1 - s - m) zEnt).1) ((A.getD (s - a) zEnt).1) = true := by simpa using hn
      have k1 := srt_le sb (t := v) (u := mid + m - 1 - s - m) (by omega) hv (getD_of ix.2.2.1)
      have k2 := srt_le sa (t := s - a) (u := s - a + u) (by omega) (getD_of ix.1) hu
      exact lexOrd.le_lt k1 (lexOrd.lt_le hn' k2)
    · omega
  · obtain ⟨u, hu⟩ := List.mem_iff_getElem?.1 hx
    obtain ⟨v, hv⟩ := List.mem_iff_getElem?.1 hy
    have hul : u < s - a := by have := (List.getElem?_eq_some_iff.1 hu).1; rw [List.length_take] at this; omega
    rw [List.getElem?_take_of_lt hul] at hu
    rw [List.getElem?_drop] at hv
    have hvl := (List.getElem?_eq_some_iff.1 hv).1
    by_cases hs : lo < s
    · have hn := H.yes (s - 1) (by omega) (by omega)
      have ix := h.ix (c := s - 1) (by omega) (by omega)
      unfold askP at hn
      have hn' : lexB ((B.getD (mid + m - 1 - (s - 1) - m) zEnt).1) ((A.getD (s - 1 - a) zEnt).1) = false := by simpa using hn
      have k1 := srt_le sa (t := u) (u := s - 1 - a) (by omega) hu (getD_of ix.1)
      have k2 := srt_le sb (t := mid + m - 1 - (s - 1) - m) (u := mid - s + v) (by omega) (getD_of ix.2.2.1) hv
      exact lexOrd.le_le k1 (lexOrd.le_le hn' k2)
    · omega
end

/-- What a call of the merge itself is asked to do. -/
def SymOk (K : Nat) : Prop := ∀ (w : World) (g o : Nat) (L A B R : List Ent) (N cap : Nat), A.length + B.length < K → EOwn w g o (L ++ (A ++ (B ++ R))) → (L ++ (A ++ (B ++ R))).length = N → N ≤ 1000000 → Srt ky lexB A → Srt ky lexB B → A ≠ [] → B ≠ [] →
  Calls Try.prog 86 #[.slice (some ⟨g, o, none⟩) N cap, .int .i64 (L.length : Int), .int .i64 ((L.length + A.length : Nat) : Int), .int .i64 ((L.length + A.length + B.length : Nat) : Int), cmpV] w fun e w' => e = .returned (.tuple #[]) ∧ ∃ M, Mrg ky lexB A B M ∧ At w g o (L ++ (M ++ R)) w'

set_option maxHeartbeats 8000000 in
set_option maxRecDepth 100000 in
theorem symC_any (w : World) (g o : Nat) (L A B R : List Ent) (N cap : Nat) (h : EOwn w g o (L ++ (A ++ (B ++ R)))) (hN : (L ++ (A ++ (B ++ R))).length = N) (hl : N ≤ 1000000) (sa : Srt ky lexB A) (sb : Srt ky lexB B) (hA1 : 1 < A.length) (hB1 : 1 < B.length) (ih : SymOk (A.length + B.length)) :
    Calls Try.prog 86 #[.slice (some ⟨g, o, none⟩) N cap, .int .i64 (L.length : Int), .int .i64 ((L.length + A.length : Nat) : Int), .int .i64 ((L.length + A.length + B.length : Nat) : Int), cmpV] w fun e w' => e = .returned (.tuple #[]) ∧ ∃ M, Mrg ky lexB A B M ∧ At w g o (L ++ (M ++ R)) w' := by
  have H0 := hid (At.start h)
  have hlen : L.length + A.length + B.length + R.length = N := by rw [← hN]; simp; omega
  have HOKA : Hid (∀ z ∈ A, EOk z) := fun z hz => h.1.ok z (by simp [hz])
  have HOKB : Hid (∀ z ∈ B, EOk z) := fun z hz => h.1.ok z (by simp [hz])
  have HDA : Hid (∀ (t : Nat) (z : Ent), A[t]? = some z → (L ++ (A ++ (B ++ R)))[L.length + t]? = some z) := fun t z hz => get_mid hz
  have HDB : Hid (∀ (t : Nat) (z : Ent), B[t]? = some z → (L ++ (A ++ (B ++ R)))[L.length + A.length + t]? = some z) := fun t z hz => by
    have := get_mid (L := L ++ A) (R := R) hz
    simpa [List.append_assoc] using this
  obtain ⟨D, hD⟩ : ∃ D, L ++ (A ++ (B ++ R)) = D := ⟨_, rfl⟩
  rw [hD] at H0 HDA HDB
  have HD := hid hD
  obtain ⟨a, ha⟩ : ∃ a, L.length = a := ⟨_, rfl⟩
  obtain ⟨m, hm⟩ : ∃ m, a + A.length = m := ⟨_, rfl⟩
  obtain ⟨b, hb⟩ : ∃ b, m + B.length = b := ⟨_, rfl⟩
  obtain ⟨mid, hmid⟩ : ∃ mid, (a + b) / 2 = mid := ⟨_, rfl⟩
  obtain ⟨lo, hi, hlohi⟩ : ∃ lo hi, (mid < m ∧ lo = mid + m - b ∧ hi = mid) ∨ (m ≤ mid ∧ lo = a ∧ hi = m) := by
    by_cases hc : mid < m
    · exact ⟨_, _, .inl ⟨hc, rfl, rfl⟩⟩
    · exact ⟨_, _, .inr ⟨by omega, rfl, rfl⟩⟩
  have hNu : Nums A B a m b mid lo hi := ⟨hm, hb, hmid.symm, hA1, hB1, hlohi⟩
  have HNU := hid hNu
  have HMONO := hid (hNu.mono sa sb)
  have HCUT := hid (fun s (H : HalfN (askP A B a m (mid + m - 1)) lo hi s s) => hNu.cut sa sb H)
  have HIX := hid (fun c (h1 : lo ≤ c) (h2 : c < hi) => hNu.ix h1 h2)
  have hr := hNu.rng
  rw [ha, hm, hb]
  rw [ha] at HDA HDB
  rw [hm] at HDB
  have HLA := hid (And.intro ha (And.intro hm hb))
  have HSS := hid (And.intro sa sb)
  have HIH := hid ih
  have hbN : b + R.length = N := by omega
  have HRL := hid hbN
  have hbN2 : b ≤ N := by omega
  obtain ⟨q, hq⟩ : ∃ q, m - a = q := ⟨_, rfl⟩
  obtain ⟨r, hr2⟩ : ∃ r, b - m = r := ⟨_, rfl⟩
  have hw1 : IntKind.i64.wrap ((m : Int) - (a : Int)) = (q : Int) := by rw [IntKind.wrap_i64]; omega
  have hw2 : IntKind.i64.wrap ((b : Int) - (m : Int)) = (r : Int) := by rw [IntKind.wrap_i64]; omega
  have hq1 : ¬ ((q : Int) = 1) := by omega
  have hqb : ((q : Int) == 1) = false := by simp only [beq_eq_false_iff_ne]; exact hq1
  have hr1 : ¬ ((r : Int) = 1) := by omega
  have hrb : ((r : Int) == 1) = false := by simp only [beq_eq_false_iff_ne]; exact hr1
  have hmI : ((a : Int) + (b : Int)) / 2 = (mid : Int) := by omega
  obtain ⟨n, hn⟩ : ∃ n, mid + m = n := ⟨_, rfl⟩
  have hwn : IntKind.i64.wrap ((mid : Int) + (m : Int)) = (n : Int) := by rw [IntKind.wrap_i64]; omega
  obtain ⟨p, hp⟩ : ∃ p, n - 1 = p := ⟨_, rfl⟩
  have hwp : IntKind.i64.wrap ((n : Int) - 1) = (p : Int) := by rw [IntKind.wrap_i64]; omega
  have HNP : Hid (mid + m = n ∧ mid + m - 1 = p) := by rw [Hid]; omega
  have HLH := hid hlohi
  have HNB : Hid (mid < m → IntKind.i64.wrap ((n : Int) - (b : Int)) = (lo : Int)) := fun hc => by
    rw [IntKind.wrap_i64]
    have := HLH.out
    have := hNu.rng
    have := hNu.mid2
    omega
  have habm : a < m ∧ m < b := by omega
  obtain ⟨hr11, hr12, hr13, hr14, hr15, hr16⟩ := hr
  obtain ⟨habm1, habm2⟩ := habm
  clear ha hm hb hmid hlohi hNu h hN hD sa sb ih hlen hbN hq hr2 hn hp hA1 hB1
  unfold cmpV
  go_enter Try.func86, Try.ntmps86
  go_upto_if 140 with fail
  go_cut [20, 21] (fun s20 s21 wx => s20 = .int .i64 (lo : Int) ∧ s21 = .int .i64 (hi : Int) ∧ w = wx)
  case first =>
    by_cases hc : mid < m
    · have hcI : (mid : Int) < (m : Int) := by omega
      have hnb := HNB.out hc
      have e : hi = mid := by have := HLH.out; omega
      subst e
      go_wp2_with fail
      go_meet
      exact ⟨rfl, rfl, rfl⟩
    · have hcI : ¬ (mid : Int) < (m : Int) := by omega
      have e1 : hi = m := by have := HLH.out; omega
      have e2 : lo = a := by have := HLH.out; omega
      subst e1
      subst e2
      go_wp2_with fail
      go_meet
      exact ⟨rfl, rfl, rfl⟩
  case rest =>
  obtain ⟨rfl, rfl, rfl⟩ := hcut
  clear HNB HLH
  go_wp2_with fail
  go_loopw [20, 21] (fun v20 v21 wr => ∃ (i j : Nat), v20 = .int .i64 (i : Int) ∧ v21 = .int .i64 (j : Int) ∧ lo ≤ i ∧ i ≤ j ∧ j ≤ hi ∧ Hid (HalfN (askP A B a m (mid + m - 1)) lo hi i j ∧ At w g o D wr)) (fun v20 v21 _ => (intOf v21).toNat - (intOf v20).toNat)
  case atStart => exact ⟨lo, hi, rfl, rfl, Nat.le_refl _, hr12, Nat.le_refl _, ⟨Nat.le_refl _, hr12, Nat.le_refl _, fun t h1 h2 => (by omega), fun t h1 h2 => (by omega)⟩, H0.out⟩
  case round =>
    obtain ⟨i, j, rfl, rfl, hi1, hij, hj1, HS⟩ := hrel
    by_cases hlt : i < j
    · as_aux_lemma =>
      have hltI : (i : Int) < (j : Int) := by omega
      obtain ⟨c, hc⟩ : ∃ c, (i + j) / 2 = c := ⟨_, rfl⟩
      have hcI : ((i : Int) + (j : Int)) / 2 = (c : Int) := by omega
      have hic : i ≤ c ∧ c < j := by omega
      obtain ⟨hHf, hA⟩ := HS.out
      have ix := HIX.out c (by omega) (by omega)
      have hnp := HNP.out
      obtain ⟨v, hv⟩ : ∃ v, p - c = v := ⟨_, rfl⟩
      have hwv : IntKind.i64.wrap ((p : Int) - (c : Int)) = (v : Int) := by rw [IntKind.wrap_i64]; omega
      have hvN : (v : Int) < (N : Int) := by omega
      have hcN : (c : Int) < (N : Int) := by omega
      obtain ⟨y, hy⟩ : ∃ y, B.getD (p - c - m) zEnt = y := ⟨_, rfl⟩
      obtain ⟨x, hx⟩ : ∃ x, A.getD (c - a) zEnt = x := ⟨_, rfl⟩
      have hyB : B[p - c - m]? = some y := by rw [← hy]; exact getD_of (by rw [← hnp.2]; exact ix.2.2.1)
      have hxA : A[c - a]? = some x := by rw [← hx]; exact getD_of ix.1
      have hDy : D[v]? = some y := by have := HDB.out _ _ hyB; rwa [show m + (p - c - m) = v by omega] at this
      have hDx : D[c]? = some x := by have := HDA.out _ _ hxA; rwa [show a + (c - a) = c by omega] at this
      have hyok := HOKB.out y (List.mem_of_getElem? hyB)
      have hxok := HOKA.out x (List.mem_of_getElem? hxA)
      have HCMP := hid (fun V => compare_any y x V hyok hxok)
      have HCV : Hid (cmpE y.1 x.1 < 0 ↔ lexB y.1 x.1 = true) := cmpE_neg y.1 x.1
      have hask : askP A B a m (mid + m - 1) c = !lexB y.1 x.1 := by rw [hnp.2, askP, hy, hx]
      have HYES : Hid (lexB y.1 x.1 = false → HalfN (askP A B a m (mid + m - 1)) lo hi (c + 1) j) := fun e => hHf.up hic.1 hic.2 (by rw [hask, e]; rfl) HMONO.out
      have HNO : Hid (lexB y.1 x.1 = true → HalfN (askP A B a m (mid + m - 1)) lo hi i c) := fun e => hHf.dn hic.1 hic.2 (by rw [hask, e]; rfl) HMONO.out
      have Hx : Hid (∀ V, Kp No wr V → V.rangeAt g (o + v * 34) (entC y)) := fun V hV => ((hA.kept hV).range hDy).2
      have Hy : Hid (∀ V, Kp No wr V → V.rangeAt g (o + c * 34) (entC x)) := fun V hV => ((hA.kept hV).range hDx).2
      have HIx := hid (inf hyok)
      have HIy := hid (inf hxok)
      have HAA := hid hA
      have hwc : IntKind.i64.wrap ((c : Int) + 1) = ((c + 1 : Nat) : Int) := by rw [IntKind.wrap_i64]; omega
      obtain ⟨cx, hcx⟩ : ∃ cx, entC y = cx := ⟨_, rfl⟩
      obtain ⟨cy, hcy⟩ : ∃ cy, entC x = cy := ⟨_, rfl⟩
      rw [hcx, hcy] at HCMP
      rw [hcx] at Hx HIx
      rw [hcy] at Hy HIy
      obtain ⟨z, hzz⟩ : ∃ z, cmpE y.1 x.1 = z := ⟨_, rfl⟩
      rw [hzz] at HCMP HCV
      clear hcx hcy hzz hHf hA hy hx hyB hxA hDy hDx hyok hxok hc hask hv hnp ix HS
      go_wp2_with fail
      by_cases hz : z < 0
      · have HH2 := hid (HNO.out (HCV.out.1 hz))
        clear HYES HNO HCV
        refine wp_region_held_drew (S := fun V => Kp No wr V) (by kernel_rfl) ((Kp.refl _ _).drew) (fun hHeld => ?_)
        refine wpAnyH_take (i := 0) (oi := { dst := some 158, op := Op.move (Operand.tmp 4), type := 107, pos := "zsortanyfunc.go:441", after := #[], guard := none }) (v := .func (.func 56) #[] #[]) rfl (by kernel_rfl) (by kernel_rfl) (by kernel_rfl) (fun _ _ _ h => h) (Or.inl ⟨by rfl, fun w' hw' => by (clear hw'; go_simp)⟩) hHeld ?_
        simp only [Act.put, List.setIfInBounds_toArray, List.set_cons_zero, List.set_cons_succ]
        refine wpAnyH_take (i := 1) (oi := { dst := some 159, op := Op.move (Operand.tmp 0), type := 40, pos := "zsortanyfunc.go:441", after := #[], guard := none }) (v := .slice (some ⟨g, o, none⟩) N cap) rfl (by kernel_rfl) (by kernel_rfl) (by kernel_rfl) (fun _ _ _ h => h) (Or.inl ⟨by rfl, fun w' hw' => by (clear hw'; go_simp)⟩) hHeld ?_
        simp only [Act.put, List.setIfInBounds_toArray, List.set_cons_zero, List.set_cons_succ]
        refine wpAnyH_take (i := 2) (oi := { dst := some 160, op := Op.move (Operand.tmp 22), type := 3, pos := "zsortanyfunc.go:441", after := #[], guard := none }) (v := .int .i64 (p : Int)) rfl (by kernel_rfl) (by kernel_rfl) (by kernel_rfl) (fun _ _ _ h => h) (Or.inl ⟨by rfl, fun w' hw' => by (clear hw'; go_simp)⟩) hHeld ?_
        simp only [Act.put, List.setIfInBounds_toArray, List.set_cons_zero, List.set_cons_succ]
        refine wpAnyH_take (i := 3) (oi := { dst := some 161, op := Op.move (Operand.tmp 23), type := 3, pos := "zsortanyfunc.go:441", after := #[], guard := none }) (v := .int .i64 (c : Int)) rfl (by kernel_rfl) (by kernel_rfl) (by kernel_rfl) (fun _ _ _ h => h) (Or.inl ⟨by rfl, fun w' hw' => by (clear hw'; go_simp)⟩) hHeld ?_
        simp only [Act.put, List.setIfInBounds_toArray, List.set_cons_zero, List.set_cons_succ]
        refine wpAnyH_take (i := 4) (oi := { dst := some 162, op := Op.binOp BinOp.sub 3 (Operand.tmp 160) (Operand.tmp 161) 3, type := 3, pos := "zsortanyfunc.go:441", after := #[{ on := 2, ground := Ground.data }, { on := 3, ground := Ground.data }], guard := none }) (v := .int .i64 (v : Int)) rfl (by kernel_rfl) (by kernel_rfl) (by kernel_rfl) (fun _ _ _ h => h) (Or.inl ⟨by rfl, fun w' hw' => by (clear hw'; go_simp)⟩) hHeld ?_
        simp only [Act.put, List.setIfInBounds_toArray, List.set_cons_zero, List.set_cons_succ]
        refine wpAnyH_take (i := 5) (oi := { dst := some 163, op := Op.indexAddr 40 (Operand.tmp 159) (Operand.tmp 162), type := 0, pos := "zsortanyfunc.go:441", after := #[{ on := 1, ground := Ground.data }, { on := 4, ground := Ground.data }], guard := none }) (v := .pointer (some ⟨g, o + v * 34, none⟩)) rfl (by kernel_rfl) (by kernel_rfl) (by kernel_rfl) (fun _ _ _ h => h) (Or.inl ⟨by rfl, fun w' hw' => by (clear hw'; go_simp)⟩) hHeld ?_
        simp only [Act.put, List.setIfInBounds_toArray, List.set_cons_zero, List.set_cons_succ]
        refine wpAnyH_take (i := 6) (oi := { dst := some 164, op := Op.load 70 (Operand.tmp 163), type := 70, pos := "zsortanyfunc.go:441", after := #[{ on := 5, ground := Ground.data }], guard := none }) (v := .agg cx.toArray) rfl (by kernel_rfl) (by kernel_rfl) (by kernel_rfl) (fun _ _ _ h => h) (yieldsIf_load_mid (by rfl) _ _ rfl g (o + v * 34) rfl cx _ (Hx.out) Try.underlying70 rfl HIx.out) hHeld ?_
        simp only [Act.put, List.setIfInBounds_toArray, List.set_cons_zero, List.set_cons_succ]
        refine wpAnyH_take (i := 7) (oi := { dst := some 165, op := Op.move (Operand.tmp 0), type := 40, pos := "zsortanyfunc.go:441", after := #[], guard := none }) (v := .slice (some ⟨g, o, none⟩) N cap) rfl (by kernel_rfl) (by kernel_rfl) (by kernel_rfl) (fun _ _ _ h => h) (Or.inl ⟨by rfl, fun w' hw' => by (clear hw'; go_simp)⟩) hHeld ?_
        simp only [Act.put, List.setIfInBounds_toArray, List.set_cons_zero, List.set_cons_succ]
        refine wpAnyH_take (i := 8) (oi := { dst := some 166, op := Op.move (Operand.tmp 23), type := 3, pos := "zsortanyfunc.go:441", after := #[], guard := none }) (v := .int .i64 (c : Int)) rfl (by kernel_rfl) (by kernel_rfl) (by kernel_rfl) (fun _ _ _ h => h) (Or.inl ⟨by rfl, fun w' hw' => by (clear hw'; go_simp)⟩) hHeld ?_
        simp only [Act.put, List.setIfInBounds_toArray, List.set_cons_zero, List.set_cons_succ]
        refine wpAnyH_take (i := 9) (oi := { dst := some 167, op := Op.indexAddr 40 (Operand.tmp 165) (Operand.tmp 166), type := 0, pos := "zsortanyfunc.go:441", after := #[{ on := 7, ground := Ground.data }, { on := 8, ground := Ground.data }], guard := none }) (v := .pointer (some ⟨g, o + c * 34, none⟩)) rfl (by kernel_rfl) (by kernel_rfl) (by kernel_rfl) (fun _ _ _ h => h) (Or.inl ⟨by rfl, fun w' hw' => by (clear hw'; go_simp)⟩) hHeld ?_
        simp only [Act.put, List.setIfInBounds_toArray, List.set_cons_zero, List.set_cons_succ]
        refine wpAnyH_take (i := 10) (oi := { dst := some 168, op := Op.load 70 (Operand.tmp 167), type := 70, pos := "zsortanyfunc.go:441", after := #[{ on := 9, ground := Ground.data }], guard := none }) (v := .agg cy.toArray) rfl (by kernel_rfl) (by kernel_rfl) (by kernel_rfl) (fun _ _ _ h => h) (yieldsIf_load_mid (by rfl) _ _ rfl g (o + c * 34) rfl cy _ (Hy.out) Try.underlying70 rfl HIy.out) hHeld ?_
        simp only [Act.put, List.setIfInBounds_toArray, List.set_cons_zero, List.set_cons_succ]
        refine wpAnyH_ready (rs := [11]) (by kernel_rfl) (by simp) ?_
        refine AllReadyH.cons (o := { dst := some 169, op := Op.call { callee := Callee.value (Operand.tmp 158), args := #[Operand.tmp 164, Operand.tmp 168], argTypes := #[70, 70] }, type := 3, pos := "zsortanyfunc.go:441", after := #[{ on := 0, ground := Ground.data }, { on := 6, ground := Ground.data }, { on := 10, ground := Ground.data }], guard := none }) rfl (fun K hK => ?_) AllReadyH.nil
        go_simp
        refine (HCMP.out _).mono ?_
        rintro e w3 ⟨rfl, h3⟩
        have HK3 : Hid (Kp No wr w3) := (Kp.refl No wr).drew.andNone (Kp.below h3)
        clear h3
        go_wp2_with fail
        refine hK.out _ _ (HK3.out) (fun hh => ?_)
        clear hK K hHeld
        have hHeld := hh
        clear hh
        try simp only [Act.put, List.setIfInBounds_toArray, List.set_cons_zero, List.set_cons_succ]
        refine wpAnyH_take (i := 12) (oi := { dst := some 170, op := Op.binOp BinOp.lss 3 (Operand.tmp 169) (Operand.const (Value.int IntKind.i64 0)) 3, type := 4, pos := "zsortanyfunc.go:441", after := #[{ on := 11, ground := Ground.data }], guard := none }) (v := .bool true) rfl (by kernel_rfl) (by kernel_rfl) (by kernel_rfl) (fun _ _ _ h => h) (Or.inl ⟨by rfl, fun w' hw' => by (clear hw'; go_simp)⟩) hHeld ?_
        simp only [Act.put, List.setIfInBounds_toArray, List.set_cons_zero, List.set_cons_succ]
        refine wpAnyH_take (i := 13) (oi := { dst := some 171, op := Op.unOp UnOp.not 4 (Operand.tmp 170), type := 4, pos := "zsortanyfunc.go:441", after := #[{ on := 12, ground := Ground.data }], guard := none }) (v := .bool false) rfl (by kernel_rfl) (by kernel_rfl) (by kernel_rfl) (fun _ _ _ h => h) (Or.inl ⟨by rfl, fun w' hw' => by (clear hw'; go_simp)⟩) hHeld ?_
        simp only [Act.put, List.setIfInBounds_toArray, List.set_cons_zero, List.set_cons_succ]
        refine wpAnyH_done (by kernel_rfl) ?_ _
        have HA3 := hid (HAA.out.kept HK3.out)
        clear hHeld HK3 HCMP Hx Hy HIx HIy HAA
        go_wp2_with fail
        go_round
        case rel => exact ⟨i, c, rfl, rfl, hi1, by omega, by omega, HH2.out, HA3.out⟩
        case measure => simp [intOf]; omega
      · have hls : lexB y.1 x.1 = false := by
          cases hb : lexB y.1 x.1 with
          | false => rfl
          | true => exact absurd (HCV.out.2 hb) hz
        have HH2 := hid (HYES.out hls)
        clear HYES HNO HCV hls
        refine wp_region_held_drew (S := fun V => Kp No wr V) (by kernel_rfl) ((Kp.refl _ _).drew) (fun hHeld => ?_)
        refine wpAnyH_take (i := 0) (oi := { dst := some 158, op := Op.move (Operand.tmp 4), type := 107, pos := "zsortanyfunc.go:441", after := #[], guard := none }) (v := .func (.func 56) #[] #[]) rfl (by kernel_rfl) (by kernel_rfl) (by kernel_rfl) (fun _ _ _ h => h) (Or.inl ⟨by rfl, fun w' hw' => by (clear hw'; go_simp)⟩) hHeld ?_
        simp only [Act.put, List.setIfInBounds_toArray, List.set_cons_zero, List.set_cons_succ]
        refine wpAnyH_take (i := 1) (oi := { dst := some 159, op := Op.move (Operand.tmp 0), type := 40, pos := "zsortanyfunc.go:441", after := #[], guard := none }) (v := .slice (some ⟨g, o, none⟩) N cap) rfl (by kernel_rfl) (by kernel_rfl) (by kernel_rfl) (fun _ _ _ h => h) (Or.inl ⟨by rfl, fun w' hw' => by (clear hw'; go_simp)⟩) hHeld ?_
        simp only [Act.put, List.setIfInBounds_toArray, List.set_cons_zero, List.set_cons_succ]
        refine wpAnyH_take (i := 2) (oi := { dst := some 160, op := Op.move (Operand.tmp 22), type := 3, pos := "zsortanyfunc.go:441", after := #[], guard := none }) (v := .int .i64 (p : Int)) rfl (by kernel_rfl) (by kernel_rfl) (by kernel_rfl) (fun _ _ _ h => h) (Or.inl ⟨by rfl, fun w' hw' => by (clear hw'; go_simp)⟩) hHeld ?_
        simp only [Act.put, List.setIfInBounds_toArray, List.set_cons_zero, List.set_cons_succ]
        refine wpAnyH_take (i := 3) (oi := { dst := some 161, op := Op.move (Operand.tmp 23), type := 3, pos := "zsortanyfunc.go:441", after := #[], guard := none }) (v := .int .i64 (c : Int)) rfl (by kernel_rfl) (by kernel_rfl) (by kernel_rfl) (fun _ _ _ h => h) (Or.inl ⟨by rfl, fun w' hw' => by (clear hw'; go_simp)⟩) hHeld ?_
        simp only [Act.put, List.setIfInBounds_toArray, List.set_cons_zero, List.set_cons_succ]
        refine wpAnyH_take (i := 4) (oi := { dst := some 162, op := Op.binOp BinOp.sub 3 (Operand.tmp 160) (Operand.tmp 161) 3, type := 3, pos := "zsortanyfunc.go:441", after := #[{ on := 2, ground := Ground.data }, { on := 3, ground := Ground.data }], guard := none }) (v := .int .i64 (v : Int)) rfl (by kernel_rfl) (by kernel_rfl) (by kernel_rfl) (fun _ _ _ h => h) (Or.inl ⟨by rfl, fun w' hw' => by (clear hw'; go_simp)⟩) hHeld ?_
        simp only [Act.put, List.setIfInBounds_toArray, List.set_cons_zero, List.set_cons_succ]
        refine wpAnyH_take (i := 5) (oi := { dst := some 163, op := Op.indexAddr 40 (Operand.tmp 159) (Operand.tmp 162), type := 0, pos := "zsortanyfunc.go:441", after := #[{ on := 1, ground := Ground.data }, { on := 4, ground := Ground.data }], guard := none }) (v := .pointer (some ⟨g, o + v * 34, none⟩)) rfl (by kernel_rfl) (by kernel_rfl) (by kernel_rfl) (fun _ _ _ h => h) (Or.inl ⟨by rfl, fun w' hw' => by (clear hw'; go_simp)⟩) hHeld ?_
        simp only [Act.put, List.setIfInBounds_toArray, List.set_cons_zero, List.set_cons_succ]
        refine wpAnyH_take (i := 6) (oi := { dst := some 164, op := Op.load 70 (Operand.tmp 163), type := 70, pos := "zsortanyfunc.go:441", after := #[{ on := 5, ground := Ground.data }], guard := none }) (v := .agg cx.toArray) rfl (by kernel_rfl) (by kernel_rfl) (by kernel_rfl) (fun _ _ _ h => h) (yieldsIf_load_mid (by rfl) _ _ rfl g (o + v * 34) rfl cx _ (Hx.out) Try.underlying70 rfl HIx.out) hHeld ?_
        simp only [Act.put, List.setIfInBounds_toArray, List.set_cons_zero, List.set_cons_succ]
        refine wpAnyH_take (i := 7) (oi := { dst := some 165, op := Op.move (Operand.tmp 0), type := 40, pos := "zsortanyfunc.go:441", after := #[], guard := none }) (v := .slice (some ⟨g, o, none⟩) N cap) rfl (by kernel_rfl) (by kernel_rfl) (by kernel_rfl) (fun _ _ _ h => h) (Or.inl ⟨by rfl, fun w' hw' => by (clear hw'; go_simp)⟩) hHeld ?_
        simp only [Act.put, List.setIfInBounds_toArray, List.set_cons_zero, List.set_cons_succ]
        refine wpAnyH_take (i := 8) (oi := { dst := some 166, op := Op.move (Operand.tmp 23), type := 3, pos := "zsortanyfunc.go:441", after := #[], guard := none }) (v := .int .i64 (c : Int)) rfl (by kernel_rfl) (by kernel_rfl) (by kernel_rfl) (fun _ _ _ h => h) (Or.inl ⟨by rfl, fun w' hw' => by (clear hw'; go_simp)⟩) hHeld ?_
        simp only [Act.put, List.setIfInBounds_toArray, List.set_cons_zero, List.set_cons_succ]
        refine wpAnyH_take (i := 9) (oi := { dst := some 167, op := Op.indexAddr 40 (Operand.tmp 165) (Operand.tmp 166), type := 0, pos := "zsortanyfunc.go:441", after := #[{ on := 7, ground := Ground.data }, { on := 8, ground := Ground.data }], guard := none }) (v := .pointer (some ⟨g, o + c * 34, none⟩)) rfl (by kernel_rfl) (by kernel_rfl) (by kernel_rfl) (fun _ _ _ h => h) (Or.inl ⟨by rfl, fun w' hw' => by (clear hw'; go_simp)⟩) hHeld ?_
        simp only [Act.put, List.setIfInBounds_toArray, List.set_cons_zero, List.set_cons_succ]
        refine wpAnyH_take (i := 10) (oi := { dst := some 168, op := Op.load 70 (Operand.tmp 167), type := 70, pos := "zsortanyfunc.go:441", after := #[{ on := 9, ground := Ground.data }], guard := none }) (v := .agg cy.toArray) rfl (by kernel_rfl) (by kernel_rfl) (by kernel_rfl) (fun _ _ _ h => h) (yieldsIf_load_mid (by rfl) _ _ rfl g (o + c * 34) rfl cy _ (Hy.out) Try.underlying70 rfl HIy.out) hHeld ?_
        simp only [Act.put, List.setIfInBounds_toArray, List.set_cons_zero, List.set_cons_succ]
        refine wpAnyH_ready (rs := [11]) (by kernel_rfl) (by simp) ?_
        refine AllReadyH.cons (o := { dst := some 169, op := Op.call { callee := Callee.value (Operand.tmp 158), args := #[Operand.tmp 164, Operand.tmp 168], argTypes := #[70, 70] }, type := 3, pos := "zsortanyfunc.go:441", after := #[{ on := 0, ground := Ground.data }, { on := 6, ground := Ground.data }, { on := 10, ground := Ground.data }], guard := none }) rfl (fun K hK => ?_) AllReadyH.nil
        go_simp
        refine (HCMP.out _).mono ?_
        rintro e w3 ⟨rfl, h3⟩
        have HK3 : Hid (Kp No wr w3) := (Kp.refl No wr).drew.andNone (Kp.below h3)
        clear h3
        go_wp2_with fail
        refine hK.out _ _ (HK3.out) (fun hh => ?_)
        clear hK K hHeld
        have hHeld := hh
        clear hh
        try simp only [Act.put, List.setIfInBounds_toArray, List.set_cons_zero, List.set_cons_succ]
        refine wpAnyH_take (i := 12) (oi := { dst := some 170, op := Op.binOp BinOp.lss 3 (Operand.tmp 169) (Operand.const (Value.int IntKind.i64 0)) 3, type := 4, pos := "zsortanyfunc.go:441", after := #[{ on := 11, ground := Ground.data }], guard := none }) (v := .bool false) rfl (by kernel_rfl) (by kernel_rfl) (by kernel_rfl) (fun _ _ _ h => h) (Or.inl ⟨by rfl, fun w' hw' => by (clear hw'; go_simp)⟩) hHeld ?_
        simp only [Act.put, List.setIfInBounds_toArray, List.set_cons_zero, List.set_cons_succ]
        refine wpAnyH_take (i := 13) (oi := { dst := some 171, op := Op.unOp UnOp.not 4 (Operand.tmp 170), type := 4, pos := "zsortanyfunc.go:441", after := #[{ on := 12, ground := Ground.data }], guard := none }) (v := .bool true) rfl (by kernel_rfl) (by kernel_rfl) (by kernel_rfl) (fun _ _ _ h => h) (Or.inl ⟨by rfl, fun w' hw' => by (clear hw'; go_simp)⟩) hHeld ?_
        simp only [Act.put, List.setIfInBounds_toArray, List.set_cons_zero, List.set_cons_succ]
        refine wpAnyH_done (by kernel_rfl) ?_ _
        have HA3 := hid (HAA.out.kept HK3.out)
        clear hHeld HK3 HCMP Hx Hy HIx HIy HAA
        go_wp2_with fail
        go_round
        case rel => exact ⟨c + 1, j, by go_num, rfl, by omega, by omega, hj1, HH2.out, HA3.out⟩
        case measure => simp [intOf]; omega
    · as_aux_lemma =>
      have hltI : ¬ (i : Int) < (j : Int) := by omega
      obtain ⟨hHf, hA⟩ := HS.out
      have hji : j = i := by omega
      rw [hji] at hHf
      obtain ⟨cLt, cLe, c1, c2, c3, c4, c5, c6⟩ := HCUT.out i hHf
      obtain ⟨e, he⟩ : ∃ e, n - i = e := ⟨_, rfl⟩
      have hnp := HNP.out
      have hwe : IntKind.i64.wrap ((n : Int) - (i : Int)) = (e : Int) := by rw [IntKind.wrap_i64]; omega
      obtain ⟨A1, hA1⟩ : ∃ A1, A.take (i - a) = A1 := ⟨_, rfl⟩
      obtain ⟨A2, hA2⟩ : ∃ A2, A.drop (i - a) = A2 := ⟨_, rfl⟩
      obtain ⟨B1, hB1⟩ : ∃ B1, B.take (mid - i) = B1 := ⟨_, rfl⟩
      obtain ⟨B2, hB2⟩ : ∃ B2, B.drop (mid - i) = B2 := ⟨_, rfl⟩
      have hAA : A1 ++ A2 = A := by rw [← hA1, ← hA2, List.take_append_drop]
      have hBB : B1 ++ B2 = B := by rw [← hB1, ← hB2, List.take_append_drop]
      rw [hB1, hA2] at cLt
      rw [hA1, hB2] at cLe
      have hla := HLA.out
      have lA1 : A1.length = i - a := by rw [← hA1, List.length_take]; omega
      have lB1 : B1.length = mid - i := by rw [← hB1, List.length_take]; omega
      have lA2 : A2.length = m - i := by rw [← hA2, List.length_drop]; omega
      have lB2 : B2.length = b - e := by rw [← hB2, List.length_drop]; omega
      have hDe : D = (L ++ A1) ++ (A2 ++ (B1 ++ (B2 ++ R))) := by rw [← HD.out, ← hAA, ← hBB]; simp
      obtain ⟨sa, sb⟩ := HSS.out
      have sA1 : Srt ky lexB A1 := (Stb.Srt.append.1 (by rw [hAA]; exact sa)).1
      have sA2 : Srt ky lexB A2 := (Stb.Srt.append.1 (by rw [hAA]; exact sa)).2.1
      have sB1 : Srt ky lexB B1 := (Stb.Srt.append.1 (by rw [hBB]; exact sb)).1
      have sB2 : Srt ky lexB B2 := (Stb.Srt.append.1 (by rw [hBB]; exact sb)).2.1
      have HEND : Hid (∀ M1 M2, Mrg ky lexB A1 B1 M1 → Mrg ky lexB A2 B2 M2 → Mrg ky lexB A B (M1 ++ M2)) := fun M1 M2 h1 h2 => by
        have := Mrg.halves lexOrd cLt cLe (by rw [hAA]; exact sa) (by rw [hBB]; exact sb) h1 h2
        rwa [hAA, hBB] at this
      have HSR := hid (And.intro sA1 (And.intro sA2 (And.intro sB1 sB2)))
      have HLL : Hid (L.length = a ∧ A1.length = i - a ∧ B1.length = mid - i ∧ A2.length = m - i ∧ B2.length = b - e ∧ A.length + B.length = b - a ∧ b + R.length = N) := ⟨hla.1, lA1, lB1, lA2, lB2, by omega, HRL.out⟩
      have HAA := hid hA
      have HDE := hid hDe
      have hee : m ≤ e ∧ e ≤ b ∧ mid ≤ e ∧ (e - m = mid - i) ∧ a ≤ i ∧ i ≤ m ∧ i ≤ mid := by omega
      obtain ⟨he1, he2, he3, he4, he5, he6, he7⟩ := hee
      clear hA1 hA2 hB1 hB2 hAA hBB cLt cLe c1 c2 c3 c4 c5 c6 lA1 lB1 lA2 lB2 hDe sa sb sA1 sA2 sB1 sB2 hHf hA hji he hnp hla HS HCUT HMONO HIX HDA HDB HOKA HOKB HSS HD HRL HNP
      obtain ⟨cb, hcb⟩ : ∃ cb, decide (i < m ∧ m < e) = cb := ⟨_, rfl⟩
      have Hcb := hid hcb
      clear hcb
      go_upto_region 39 with fail
      go_cut [185] (fun s wx => s = .bool cb ∧ wr = wx)
      case first =>
        by_cases k1 : i < m
        · have k1I : (i : Int) < (m : Int) := by omega
          by_cases k2 : m < e
          · have k2I : (m : Int) < (e : Int) := by omega
            have hb : cb = true := by rw [← Hcb.out]; simp [k1, k2]
            go_wp2_with fail
            go_meet
            exact ⟨by rw [hb], rfl⟩
          · have k2I : ¬ (m : Int) < (e : Int) := by omega
            have hb : cb = false := by rw [← Hcb.out]; simp [k2]
            go_wp2_with fail
            go_meet
            exact ⟨by rw [hb], rfl⟩
        · have k1I : ¬ (i : Int) < (m : Int) := by omega
          have hb : cb = false := by rw [← Hcb.out]; simp [k1]
          go_wp2_with fail
          go_meet
          exact ⟨by rw [hb], rfl⟩
      case rest =>
      obtain ⟨rfl, rfl⟩ := hcut
      go_upto_if 185 with fail
      go_cut [24] (fun s24 wx => s24 = .int .i64 (e : Int) ∧ Hid (At w g o (L ++ (A1 ++ (B1 ++ (A2 ++ (B2 ++ R))))) wx))
      case first =>
        cases hb : cb with
        | true =>
          have hc2 : i < m ∧ m < e := by have h := Hcb.out; rw [hb] at h; exact of_decide_eq_true h
          have HROT : Hid (Calls Try.prog 92 #[.slice (some ⟨g, o, none⟩) N cap, .int .i64 (i : Int), .int .i64 (m : Int), .int .i64 (e : Int), .func (.func 56) #[] #[]] wr fun e w' => e = .returned (.tuple #[]) ∧ At wr g o ((L ++ A1) ++ (B1 ++ (A2 ++ (B2 ++ R)))) w') := by
            have hll := HLL.out
            have h := rot_any wr g o (L ++ A1) A2 B1 (B2 ++ R) N cap (.func (.func 56) #[] #[]) (by rw [← HDE.out]; exact HAA.out.2) (by simp only [List.length_append]; omega) (by intro e; rw [e] at hll; simp at hll; omega) (by intro e; rw [e] at hll; simp at hll; omega) hl
            rw [List.length_append, show L.length + A1.length = i by omega, show i + A2.length = m by omega, show m + B1.length = e by omega] at h
            exact h
          clear hc2
          go_wp2_with fail
          refine HROT.out.mono ?_
          rintro e' w2 ⟨rfl, h2⟩
          have H2 := hid (HAA.out.next h2)
          clear h2
          go_wp2_with fail
          go_meet
          exact ⟨rfl, by have := H2.out; rw [Hid]; simpa using this⟩
        | false =>
          have hc2 : ¬ (i < m ∧ m < e) := by have h := Hcb.out; rw [hb] at h; exact of_decide_eq_false h
          have HFIN : Hid (At w g o (L ++ (A1 ++ (B1 ++ (A2 ++ (B2 ++ R))))) wr) := by
            have hll := HLL.out
            have h := HAA.out
            rw [HDE.out] at h
            by_cases k1 : i < m
            · have hB0 : B1 = [] := List.length_eq_zero_iff.1 (by omega)
              rw [Hid]
              rw [hB0] at h ⊢
              simpa using h
            · have hA0 : A2 = [] := List.length_eq_zero_iff.1 (by omega)
              rw [Hid]
              rw [hA0] at h ⊢
              simpa using h
          clear hc2
          go_wp2_with fail
          go_meet
          exact ⟨rfl, HFIN.out⟩
      case rest =>
      as_aux_lemma =>
        obtain ⟨rfl, HA2⟩ := hcut
        clear HAA HDE Hcb
        rename World => w1
        obtain ⟨cc, hcc⟩ : ∃ cc, decide (a < i ∧ i < mid) = cc := ⟨_, rfl⟩
        have Hcc := hid hcc
        clear hcc
        go_upto_region 41 with fail
        go_cut [199] (fun s wx => s = .bool cc ∧ w1 = wx)
        case first =>
          by_cases k1 : a < i
          · have k1I : (a : Int) < (i : Int) := by omega
            by_cases k2 : i < mid
            · have k2I : (i : Int) < (mid : Int) := by omega
              have hb : cc = true := by rw [← Hcc.out]; simp [k1, k2]
              go_wp2_with fail
              go_meet
              exact ⟨by rw [hb], rfl⟩
            · have k2I : ¬ (i : Int) < (mid : Int) := by omega
              have hb : cc = false := by rw [← Hcc.out]; simp [k2]
              go_wp2_with fail
              go_meet
              exact ⟨by rw [hb], rfl⟩
          · have k1I : ¬ (a : Int) < (i : Int) := by omega
            have hb : cc = false := by rw [← Hcc.out]; simp [k1]
            go_wp2_with fail
            go_meet
            exact ⟨by rw [hb], rfl⟩
        case rest =>
        obtain ⟨rfl, rfl⟩ := hcut
        go_upto_if 199 with fail
        go_cut [24] (fun s24 wx => s24 = .int .i64 (e : Int) ∧ Hid (∃ M1, Mrg ky lexB A1 B1 M1 ∧ At w g o (L ++ (M1 ++ (A2 ++ (B2 ++ R)))) wx))
        case first =>
          cases hb : cc with
          | true =>
            have hc2 : a < i ∧ i < mid := by have h := Hcc.out; rw [hb] at h; exact of_decide_eq_true h
            have HREC : Hid (Calls Try.prog 86 #[.slice (some ⟨g, o, none⟩) N cap, .int .i64 (a : Int), .int .i64 (i : Int), .int .i64 (mid : Int), .func (.func 56) #[] #[]] w1 fun e w' => e = .returned (.tuple #[]) ∧ ∃ M, Mrg ky lexB A1 B1 M ∧ At w1 g o (L ++ (M ++ (A2 ++ (B2 ++ R)))) w') := by
              have hll := HLL.out
              have h := HIH.out w1 g o L A1 B1 (A2 ++ (B2 ++ R)) N cap (by omega) HA2.out.2 (by simp only [List.length_append]; omega) hl HSR.out.1 HSR.out.2.2.1 (by intro e; rw [e] at hll; simp at hll; omega) (by intro e; rw [e] at hll; simp at hll; omega)
              rw [hll.1, show a + A1.length = i by omega, show i + B1.length = mid by omega] at h
              exact h
            clear hc2
            go_wp2_with fail
            refine HREC.out.mono ?_
            rintro e' w2 ⟨rfl, M1, hM1, h2⟩
            have H2 := hid (And.intro hM1 (HA2.out.next h2))
            clear h2 hM1
            go_wp2_with fail
            go_meet
            exact ⟨rfl, M1, H2.out⟩
          | false =>
            have hc2 : ¬ (a < i ∧ i < mid) := by have h := Hcc.out; rw [hb] at h; exact of_decide_eq_false h
            have HFIN : Hid (∃ M1, Mrg ky lexB A1 B1 M1 ∧ At w g o (L ++ (M1 ++ (A2 ++ (B2 ++ R)))) w1) := by
              have hll := HLL.out
              have h := HA2.out
              by_cases k1 : a < i
              · have hB0 : B1 = [] := List.length_eq_zero_iff.1 (by omega)
                rw [hB0] at h ⊢
                exact ⟨A1, mrg_nil_right HSR.out.1, by simpa using h⟩
              · have hA0 : A1 = [] := List.length_eq_zero_iff.1 (by omega)
                rw [hA0] at h ⊢
                exact ⟨B1, mrg_nil_left HSR.out.2.2.1, by simpa using h⟩
            clear hc2
            go_wp2_with fail
            go_meet
            exact ⟨rfl, HFIN.out⟩
        case rest =>
        as_aux_lemma =>
          obtain ⟨rfl, HA3⟩ := hcut
          clear HA2 Hcc
          rename World => w1
          obtain ⟨cd, hcd⟩ : ∃ cd, decide (mid < e ∧ e < b) = cd := ⟨_, rfl⟩
          have Hcd := hid hcd
          clear hcd
          go_upto_region 43 with fail
          go_cut [213] (fun s wx => s = .bool cd ∧ w1 = wx)
          case first =>
            by_cases k1 : mid < e
            · have k1I : (mid : Int) < (e : Int) := by omega
              by_cases k2 : e < b
              · have k2I : (e : Int) < (b : Int) := by omega
                have hb : cd = true := by rw [← Hcd.out]; simp [k1, k2]
                go_wp2_with fail
                go_meet
                exact ⟨by rw [hb], rfl⟩
              · have k2I : ¬ (e : Int) < (b : Int) := by omega
                have hb : cd = false := by rw [← Hcd.out]; simp [k2]
                go_wp2_with fail
                go_meet
                exact ⟨by rw [hb], rfl⟩
            · have k1I : ¬ (mid : Int) < (e : Int) := by omega
              have hb : cd = false := by rw [← Hcd.out]; simp [k1]
              go_wp2_with fail
              go_meet
              exact ⟨by rw [hb], rfl⟩
          case rest =>
          obtain ⟨rfl, rfl⟩ := hcut
          obtain ⟨M1, hM1, hA4⟩ := HA3.out
          have HM1 := hid hM1
          have HA4 := hid hA4
          have hM1l : M1.length = mid - a := by
            have h1 := hM1.1.length
            rw [List.length_append] at h1
            have hll := HLL.out
            omega
          have HM1L := hid hM1l
          clear hM1 hA4 hM1l HA3
          cases hb : cd with
          | true =>
            have hc2 : mid < e ∧ e < b := by have h := Hcd.out; rw [hb] at h; exact of_decide_eq_true h
            have HREC : Hid (Calls Try.prog 86 #[.slice (some ⟨g, o, none⟩) N cap, .int .i64 (mid : Int), .int .i64 (e : Int), .int .i64 (b : Int), .func (.func 56) #[] #[]] w1 fun e w' => e = .returned (.tuple #[]) ∧ ∃ M, Mrg ky lexB A2 B2 M ∧ At w1 g o ((L ++ M1) ++ (M ++ R)) w') := by
              have hll := HLL.out
              have hml := HM1L.out
              have h := HIH.out w1 g o (L ++ M1) A2 B2 R N cap (by omega) (by have := HA4.out.2; simpa using this) (by simp only [List.length_append]; omega) hl HSR.out.2.1 HSR.out.2.2.2 (by intro e; rw [e] at hll; simp at hll; omega) (by intro e; rw [e] at hll; simp at hll; omega)
              rw [List.length_append, show L.length + M1.length = mid by omega, show mid + A2.length = e by omega, show e + B2.length = b by omega] at h
              exact h
            clear hc2
            go_wp2_with fail
            refine HREC.out.mono ?_
            rintro e' w2 ⟨rfl, M2, hM2, h2⟩
            have H2 := hid (And.intro hM2 (HA4.out.next h2))
            clear h2 hM2
            go_wp2_with fail
            go_end0
            exact ⟨rfl, M1 ++ M2, HEND.out M1 M2 HM1.out H2.out.1, by have := H2.out.2; simpa using this⟩
          | false =>
            have hc2 : ¬ (mid < e ∧ e < b) := by have h := Hcd.out; rw [hb] at h; exact of_decide_eq_false h
            have HFIN : Hid (∃ M2, Mrg ky lexB A2 B2 M2 ∧ At w g o (L ++ (M1 ++ (M2 ++ R))) w1) := by
              have hll := HLL.out
              have h := HA4.out
              by_cases k1 : mid < e
              · have hB0 : B2 = [] := List.length_eq_zero_iff.1 (by omega)
                rw [hB0] at h ⊢
                exact ⟨A2, mrg_nil_right HSR.out.2.1, by simpa using h⟩
              · have hA0 : A2 = [] := List.length_eq_zero_iff.1 (by omega)
                rw [hA0] at h ⊢
                exact ⟨B2, mrg_nil_left HSR.out.2.2.2, by simpa using h⟩
            clear hc2
            go_wp2_with fail
            go_end0
            obtain ⟨M2, h1, h2⟩ := HFIN.out
            exact ⟨rfl, M1 ++ M2, HEND.out M1 M2 HM1.out h1, by simpa using h2⟩
end Go.Proofs.Ytenfahecnkdhaaa.Nd
end

section
/-
  A row of entries is sorted, each name's entries in their order: slices.SortStableFunc by compare.
-/
namespace Go.Proofs.Ytenfahecnkdhaaa.Nd
open Go.RowKit
open Stb (Stab Srt Mrg)
open Sim (hid Kp No)

theorem SymOk.mono {k K : Nat} (h : SymOk K) (hk : k ≤ K) : SymOk k := fun w g o L A B R N cap hl => h w g o L A B R N cap (by omega)
theorem sym_ok : ∀ K, SymOk K
  | 0 => fun w g o L A B R N cap hl => by omega
  | K + 1 => fun w g o L A B R N cap hl h hN hN2 sa sb hA hB => by
    have ih := sym_ok K
    have ha := List.length_pos_iff.2 hA
    have hb := List.length_pos_iff.2 hB
    by_cases h1 : A.length = 1
    · obtain ⟨x, rfl⟩ := List.length_eq_one_iff.1 h1
      exact symA_any w g o L B R x N cap h hN hN2 sb
    · by_cases h2 : B.length = 1
      · obtain ⟨x, rfl⟩ := List.length_eq_one_iff.1 h2
        exact symB_any w g o L A R x N cap h hN hN2 sa (by omega)
      · exact symC_any w g o L A B R N cap h hN hN2 sa sb (by omega) (by omega) (ih.mono (by omega))

/-- Sorted block by block. -/
def Bl (bs : Nat) (D : List Ent) : Prop := ∀ i, Srt ky lexB ((D.drop (i * bs)).take bs)
theorem Bl.nil (bs : Nat) : Bl bs [] := fun i => by simp [Srt]
theorem Bl.one {bs : Nat} {M : List Ent} (h : Srt ky lexB M) (hl : M.length ≤ bs) : Bl bs M := fun i => by
  by_cases h0 : i = 0
  · subst h0
    rw [Nat.zero_mul, List.drop_zero, List.take_of_length_le hl]
    exact h
  · have : bs ≤ i * bs := Nat.le_mul_of_pos_left bs (by omega)
    rw [List.drop_eq_nil_of_le (by omega)]
    simp [Srt]
theorem Bl.all {bs : Nat} {M : List Ent} (h : Bl bs M) (hl : M.length ≤ bs) : Srt ky lexB M := by
  have := h 0
  rwa [Nat.zero_mul, List.drop_zero, List.take_of_length_le hl] at this
theorem Bl.append {bs k : Nat} {P Q : List Ent} (hP : Bl bs P) (hQ : Bl bs Q) (hl : P.length = k * bs) : Bl bs (P ++ Q) := fun i => by
  by_cases hi : i < k
  · have h1 : (i + 1) * bs ≤ k * bs := Nat.mul_le_mul_right bs hi
    rw [Nat.add_mul, Nat.one_mul] at h1
    rw [List.drop_append_of_le_length (by omega), List.take_append_of_le_length (by rw [List.length_drop]; omega)]
    exact hP i
  · have h1 : i * bs = P.length + (i - k) * bs := by
      rw [hl, ← Nat.add_mul]
      congr 1
      omega
    rw [h1, List.drop_length_add_append]
    exact hQ (i - k)
theorem Bl.drop {bs k : Nat} {P Q : List Ent} (h : Bl bs (P ++ Q)) (hl : P.length = k * bs) : Bl bs Q := fun i => by
  have := h (k + i)
  rwa [Nat.add_mul, ← hl, List.drop_length_add_append] at this
theorem Bl.head {bs : Nat} {A Q : List Ent} (h : Bl bs (A ++ Q)) (hl : A.length = bs) : Srt ky lexB A ∧ Bl bs Q := by
  refine ⟨?_, h.drop (k := 1) (by omega)⟩
  have := h 0
  rwa [Nat.zero_mul, List.drop_zero, List.take_left' hl] at this

set_option maxHeartbeats 4000000 in
set_option maxRecDepth 100000 in
theorem stable_any (w : World) (g o : Nat) (X : List Ent) (N cap : Nat) (h : EOwn w g o X) (hN : X.length = N) (hl : N ≤ 1000000) :
    Calls Try.prog 76 #[.slice (some ⟨g, o, none⟩) N cap, .int .i64 (N : Int), cmpV] w fun e w' => e = .returned (.tuple #[]) ∧ ∃ X', Stab ky X X' ∧ Srt ky lexB X' ∧ At w g o X' w' := by
  have H0 := hid (At.start h)
  have HN := hid hN
  have HINS := hid (fun V (L B R : List Ent) (h : EOwn V g o (L ++ (B ++ R))) (hN : (L ++ (B ++ R)).length = N) => ins_any V g o L B R N cap h hN hl)
  have HSYM := hid (fun V (L A B R : List Ent) (h : EOwn V g o (L ++ (A ++ (B ++ R)))) (hN : (L ++ (A ++ (B ++ R))).length = N) => sym_ok (A.length + B.length + 1) V g o L A B R N cap (by omega) h hN hl)
  unfold cmpV at HINS HSYM ⊢
  clear h hN
  go_enter Try.func76, Try.ntmps76
  go_wp2_with fail
  go_loopw [7, 8] (fun v7 v8 wr => ∃ (a b : Nat), v7 = .int .i64 (a : Int) ∧ v8 = .int .i64 (b : Int) ∧ b = a + 20 ∧ a ≤ N ∧ Hid (∃ P Q k, P.length = a ∧ a = k * 20 ∧ (P ++ Q).length = N ∧ Bl 20 P ∧ Stab ky X (P ++ Q) ∧ At w g o (P ++ Q) wr)) (fun _ v8 _ => N + 20 - (intOf v8).toNat)
  case atStart => exact ⟨0, 20, rfl, rfl, rfl, Nat.zero_le _, [], X, 0, rfl, rfl, HN.out, Bl.nil _, Stab.refl _, H0.out⟩
  case round =>
    obtain ⟨a, b, rfl, rfl, hb, ha, HS⟩ := hrel
    have HB := hid hb
    clear hb
    by_cases hle : b ≤ N
    · have hleI : (b : Int) ≤ (N : Int) := by omega
      obtain ⟨P, Q, k, h1, h2, h3, h4, h5, h6⟩ := HS.out
      have hb := HB.out
      have hQl : 20 ≤ Q.length := by rw [List.length_append] at h3; omega
      have hQ : Q.take 20 ++ Q.drop 20 = Q := List.take_append_drop _ _
      have htl : (Q.take 20).length = 20 := by rw [List.length_take]; omega
      have hi := HINS.out wr P (Q.take 20) (Q.drop 20) (by rw [hQ]; exact h6.2) (by rw [hQ]; exact h3)
      rw [h1, htl, ← hb] at hi
      have HI := hid hi
      have HX := hid (And.intro h1 (And.intro h2 (And.intro h3 (And.intro h4 (And.intro h5 (And.intro h6 (And.intro hQ htl)))))))
      have hwb : IntKind.i64.wrap ((b : Int) + 20) = ((b + 20 : Nat) : Int) := by rw [IntKind.wrap_i64]; omega
      clear hi h1 h2 h3 h4 h5 h6 hQ htl hQl hb HS
      go_wp2_with fail
      refine HI.out.mono ?_
      rintro e w2 ⟨rfl, B', hst, hsr, hat⟩
      have HF : Hid (∃ P Q k, P.length = b ∧ b = k * 20 ∧ (P ++ Q).length = N ∧ Bl 20 P ∧ Stab ky X (P ++ Q) ∧ At w g o (P ++ Q) w2) := by
        obtain ⟨h1, h2, h3, h4, h5, h6, hQ, htl⟩ := HX.out
        have hb := HB.out
        have hBl : B'.length = 20 := by rw [hst.length, htl]
        have e : (P ++ B') ++ Q.drop 20 = P ++ (B' ++ Q.drop 20) := by simp
        refine ⟨P ++ B', Q.drop 20, k + 1, by rw [List.length_append]; omega, by omega, ?_, h4.append (Bl.one hsr (by omega)) (k := k) (by omega), ?_, ?_⟩
        · simp only [List.length_append, List.length_drop] at h3 ⊢
          omega
        · rw [e]
          refine h5.trans ?_
          have := (Stab.refl (key := ky) P).append (hst.append (Stab.refl (key := ky) (Q.drop 20)))
          rwa [hQ] at this
        · rw [e]
          exact h6.next hat
      clear hst hsr hat HX HI
      go_wp2_with fail
      go_round
      case rel => exact ⟨b, b + 20, rfl, by go_num, rfl, hle, HF⟩
      case measure => simp [intOf]; omega
    · have hleI : ¬ (b : Int) ≤ (N : Int) := by omega
      obtain ⟨P, Q, k, h1, h2, h3, h4, h5, h6⟩ := HS.out
      have hb := HB.out
      have hQl : a + Q.length = N := by rw [List.length_append] at h3; omega
      have hi := HINS.out wr P Q [] (by rw [List.append_nil]; exact h6.2) (by rw [List.append_nil]; exact h3)
      rw [h1, hQl] at hi
      have HI := hid hi
      have HX := hid (And.intro h1 (And.intro h2 (And.intro h3 (And.intro h4 (And.intro h5 (And.intro h6 hQl))))))
      clear hi h1 h2 h3 h4 h5 h6 hQl hb HS
      go_wp2_with fail
      refine HI.out.mono ?_
      rintro e w2 ⟨rfl, B', hst, hsr, hat⟩
      have HF : Hid (∃ D, D.length = N ∧ Bl 20 D ∧ Stab ky X D ∧ At w g o D w2) := by
        obtain ⟨h1, h2, h3, h4, h5, h6, hQl⟩ := HX.out
        have hb := HB.out
        rw [List.append_nil] at hat
        refine ⟨P ++ B', by rw [List.length_append, hst.length]; omega, h4.append (Bl.one hsr (by rw [hst.length]; omega)) (k := k) (by omega), h5.trans ((Stab.refl (key := ky) P).append hst), h6.next hat⟩
      clear hst hsr hat HX HI
      go_wp2_with fail
      go_loopw [6, 7, 8, 9] (fun v6 v7 v8 v9 wr => ∃ (bs : Nat), v6 = .int .i64 (bs : Int) ∧ 0 < bs ∧ bs ≤ 4000000 ∧ Hid (∃ D, D.length = N ∧ Bl bs D ∧ Stab ky X D ∧ At w g o D wr)) (fun v6 _ _ _ _ => N - (intOf v6).toNat)
      case atStart => exact ⟨20, rfl, by omega, by omega, HF.out⟩
      case round =>
        obtain ⟨bs, rfl, hbs0, hbs1, HD⟩ := hrel
        by_cases hlt : bs < N
        · have hltI : (bs : Int) < (N : Int) := by omega
          obtain ⟨b2, hb2⟩ : ∃ b2, 2 * bs = b2 := ⟨_, rfl⟩
          have hw2 : IntKind.i64.wrap (2 * (bs : Int)) = (b2 : Int) := by rw [IntKind.wrap_i64]; omega
          have hw2' : IntKind.i64.wrap ((bs : Int) * 2) = (b2 : Int) := by rw [IntKind.wrap_i64]; omega
          have HB2 := hid hb2
          have HD0 : Hid (∃ P Q k, P.length = 0 ∧ 0 = k * b2 ∧ (P ++ Q).length = N ∧ Bl b2 P ∧ Bl bs Q ∧ Stab ky X (P ++ Q) ∧ At w g o (P ++ Q) wr) := by
            obtain ⟨D, d1, d2, d3, d4⟩ := HD.out
            exact ⟨[], D, 0, rfl, by simp, d1, Bl.nil _, d2, d3, d4⟩
          have hb2N : b2 ≤ 2 * N := by omega
          clear hb2 HD HF
          go_wp2_with fail
          go_loopw [7, 8] (fun v7 v8 wr => ∃ (a b : Nat), v7 = .int .i64 (a : Int) ∧ v8 = .int .i64 (b : Int) ∧ b ≤ N + b2 ∧ a ≤ N ∧ Hid (b = a + b2 ∧ ∃ P Q k, P.length = a ∧ a = k * b2 ∧ (P ++ Q).length = N ∧ Bl b2 P ∧ Bl bs Q ∧ Stab ky X (P ++ Q) ∧ At w g o (P ++ Q) wr)) (fun _ v8 _ => N + b2 - (intOf v8).toNat)
          case atStart => exact ⟨0, b2, rfl, rfl, by omega, Nat.zero_le _, by omega, HD0.out⟩
          case round =>
            obtain ⟨a, b, rfl, rfl, hbN, haN, HS⟩ := hrel
            obtain ⟨m, hm⟩ : ∃ m, a + bs = m := ⟨_, rfl⟩
            have hwm : IntKind.i64.wrap ((a : Int) + (bs : Int)) = (m : Int) := by rw [IntKind.wrap_i64]; omega
            by_cases hle : b ≤ N
            · have hleI : (b : Int) ≤ (N : Int) := by omega
              obtain ⟨hb, P, Q, k, h1, h2, h3, h4, h5, h6, h7⟩ := HS.out
              have hbb := HB2.out
              have hQl : b2 ≤ Q.length := by rw [List.length_append] at h3; omega
              obtain ⟨A, B, R, hQ, hAl, hBl⟩ : ∃ A B R, Q = A ++ (B ++ R) ∧ A.length = bs ∧ B.length = bs := ⟨Q.take bs, (Q.drop bs).take bs, (Q.drop bs).drop bs, by rw [List.take_append_drop, List.take_append_drop], by rw [List.length_take]; omega, by rw [List.length_take, List.length_drop]; omega⟩
              subst hQ
              obtain ⟨sA, hq2⟩ := h5.head hAl
              obtain ⟨sB, hq3⟩ := hq2.head hBl
              have hi := HSYM.out wr P A B R h7.2 h3 sA sB (by intro e; rw [e] at hAl; simp at hAl; omega) (by intro e; rw [e] at hBl; simp at hBl; omega)
              rw [h1, hAl, hm, show m + B.length = b by omega] at hi
              have HI := hid hi
              have HX := hid (And.intro hb (And.intro h1 (And.intro h2 (And.intro h3 (And.intro h4 (And.intro hq3 (And.intro h6 (And.intro h7 (And.intro hAl hBl)))))))))
              obtain ⟨bn, hbn⟩ : ∃ bn, b + b2 = bn := ⟨_, rfl⟩
              have hwb : IntKind.i64.wrap ((b : Int) + (b2 : Int)) = (bn : Int) := by rw [IntKind.wrap_i64]; omega
              have HBN := hid hbn
              have hbn2 : bn ≤ N + b2 ∧ b < bn := by omega
              clear hi hb h1 h2 h3 h4 h5 h6 h7 sA sB hq2 hq3 hAl hBl hQl hbb hm hbn HS
              go_wp2_with fail
              refine HI.out.mono ?_
              rintro e w2 ⟨rfl, M, hM, hat⟩
              have HF : Hid (bn = b + b2 ∧ ∃ P Q k, P.length = b ∧ b = k * b2 ∧ (P ++ Q).length = N ∧ Bl b2 P ∧ Bl bs Q ∧ Stab ky X (P ++ Q) ∧ At w g o (P ++ Q) w2) := by
                obtain ⟨hb, h1, h2, h3, h4, hq3, h6, h7, hAl, hBl⟩ := HX.out
                have hbb := HB2.out
                have hMl : M.length = b2 := by rw [hM.1.length, List.length_append]; omega
                have e : (P ++ M) ++ R = P ++ (M ++ R) := by simp
                refine ⟨HBN.out.symm, P ++ M, R, k + 1, by rw [List.length_append]; omega, by rw [Nat.add_mul]; omega, ?_, h4.append (Bl.one hM.2 (by omega)) (k := k) (by omega), hq3, ?_, ?_⟩
                · simp only [List.length_append] at h3 ⊢
                  omega
                · rw [e]
                  refine h6.trans ?_
                  have := (Stab.refl (key := ky) P).append (hM.1.append (Stab.refl (key := ky) R))
                  simpa [List.append_assoc] using this
                · rw [e]
                  exact h7.next hat
              clear hM hat HX HI
              go_wp2_with fail
              go_round
              case rel => exact ⟨b, bn, rfl, rfl, hbn2.1, hle, HF⟩
              case measure => simp [intOf]; omega
            · have hleI : ¬ (b : Int) ≤ (N : Int) := by omega
              by_cases hmn : m < N
              · have hmnI : (m : Int) < (N : Int) := by omega
                obtain ⟨hb, P, Q, k, h1, h2, h3, h4, h5, h6, h7⟩ := HS.out
                have hbb := HB2.out
                have hQl : a + Q.length = N := by rw [List.length_append] at h3; omega
                obtain ⟨A, B, hQ, hAl, hBl⟩ : ∃ A B, Q = A ++ B ∧ A.length = bs ∧ B.length = N - m := ⟨Q.take bs, Q.drop bs, by rw [List.take_append_drop], by rw [List.length_take]; omega, by rw [List.length_drop]; omega⟩
                subst hQ
                obtain ⟨sA, hq2⟩ := h5.head hAl
                have sB := hq2.all (by omega)
                have hi := HSYM.out wr P A B [] (by rw [List.append_nil]; exact h7.2) (by rw [List.append_nil]; exact h3) sA sB (by intro e; rw [e] at hAl; simp at hAl; omega) (by intro e; rw [e] at hBl; simp at hBl; omega)
                rw [h1, hAl, hm, show m + B.length = N by omega] at hi
                have HI := hid hi
                have HX := hid (And.intro hb (And.intro h1 (And.intro h2 (And.intro h3 (And.intro h4 (And.intro h6 (And.intro h7 (And.intro hAl (And.intro hBl hm)))))))))
                clear hi hb h1 h2 h3 h4 h5 h6 h7 sA sB hq2 hAl hBl hQl hbb hm HS
                go_wp2_with fail
                refine HI.out.mono ?_
                rintro e w2 ⟨rfl, M, hM, hat⟩
                have HF : Hid (∃ D, D.length = N ∧ Bl b2 D ∧ Stab ky X D ∧ At w g o D w2) := by
                  obtain ⟨hb, h1, h2, h3, h4, h6, h7, hAl, hBl, hm⟩ := HX.out
                  have hbb := HB2.out
                  have hMl : M.length = A.length + B.length := by rw [hM.1.length, List.length_append]
                  rw [List.append_nil] at hat
                  refine ⟨P ++ M, by simp only [List.length_append] at h3 ⊢; omega, h4.append (Bl.one hM.2 (by omega)) (k := k) (by omega), h6.trans ((Stab.refl (key := ky) P).append hM.1), h7.next hat⟩
                have HB3 : Hid (bs < b2 ∧ b2 ≤ 4000000) := by have := HB2.out; rw [Hid]; omega
                clear hM hat HX HI
                go_wp2_with fail
                go_round
                case rel => exact ⟨b2, rfl, by have := HB3.out; omega, HB3.out.2, HF⟩
                case measure => simp [intOf]; have := HB3.out; omega
              · have hmnI : ¬ (m : Int) < (N : Int) := by omega
                have HF : Hid (∃ D, D.length = N ∧ Bl b2 D ∧ Stab ky X D ∧ At w g o D wr) := by
                  obtain ⟨hb, P, Q, k, h1, h2, h3, h4, h5, h6, h7⟩ := HS.out
                  have hbb := HB2.out
                  have hQl : a + Q.length = N := by rw [List.length_append] at h3; omega
                  exact ⟨P ++ Q, h3, h4.append (Bl.one (h5.all (by omega)) (by omega)) (k := k) (by omega), h6, h7⟩
                have HB3 : Hid (bs < b2 ∧ b2 ≤ 4000000) := by have := HB2.out; rw [Hid]; omega
                clear hm HS
                go_wp2_with fail
                go_round
                case rel => exact ⟨b2, rfl, by have := HB3.out; omega, HB3.out.2, HF⟩
                case measure => simp [intOf]; have := HB3.out; omega
        · have hltI : ¬ (bs : Int) < (N : Int) := by omega
          go_wp2_with fail
          go_end0
          obtain ⟨D, d1, d2, d3, d4⟩ := HD.out
          exact ⟨rfl, D, d3, d2.all (by omega), d4⟩

theorem sortStable_any (w : World) (g o : Nat) (X : List Ent) (N cap : Nat) (h : EOwn w g o X) (hN : X.length = N) (hl : N ≤ 1000000) :
    Calls Try.prog 55 #[.slice (some ⟨g, o, none⟩) N cap, cmpV] w fun e w' => e = .returned (.tuple #[]) ∧ ∃ X', Stab ky X X' ∧ Srt ky lexB X' ∧ At w g o X' w' := by
  have HS := hid (stable_any w g o X N cap h hN hl)
  unfold cmpV at HS ⊢
  clear h hN
  go_enter Try.func55, Try.ntmps55
  go_wp2_with fail
  refine HS.out.mono ?_
  rintro e w2 ⟨rfl, h2⟩
  have H2 := hid h2
  clear h2
  go_wp2_with fail
  go_end0
  exact ⟨rfl, H2.out⟩
end Go.Proofs.Ytenfahecnkdhaaa.Nd
end
