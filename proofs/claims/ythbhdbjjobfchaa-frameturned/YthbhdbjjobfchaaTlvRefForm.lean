/-
  What the reference's form makes of a tree.
-/
import Derived.Test.YthbhdbjjobfchaaTlvRForm
import Derived.Test.YthbhdbjjobfchaaTlvKit
import Derived.Deep.LoopGhost
namespace Go.Proofs.Ythbhdbjjobfchaa.Tlv
open Go.RowKit
attribute [local go_sem ↓] Go.wp_at_zero Go.wp_at_succ

/-- What is behind the first three bytes, by the value's parts. -/
def rbodyC {α : Type} (f : α → Option (List Int)) (tag num : Int) (bs : List Int) (ks : List α) (deep : Nat) : Option (List Int) :=
  if tag = 1 then (if bs ≠ [] ∨ ks ≠ [] then none else some (numB (nsz num).toNat num))
  else if tag = 2 then (if num ≠ 0 ∨ ks ≠ [] then none else some bs)
  else if tag = 3 then (if num ≠ 0 ∨ bs ≠ [] ∨ deep = 0 then none else rformL f [] ks)
  else none

theorem rform_parts {n : Nat} (t : Tr (n + 1)) (d : Nat) : rform (n + 1) t d = match rbodyC (fun k => rform n k (d - 1)) t.hd.1 t.hd.2.1 t.hd.2.2 t.kd d with
    | none => none
    | some b => if 65535 < b.length then none else some (t.hd.1 :: ((b.length : Int) / 256) :: ((b.length : Int) % 256) :: b) := rfl

def FormOk (n : Nat) : Prop := ∀ (B0 : Nat) (t : Tr n) (d : Nat) (sb sk : Value) (w : World), B0 ≤ w.heap.size → RepS (fun b => b < B0) w n t sb sk → d ≤ 8 →
  Calls Try.prog 48 #[.agg #[.int .i64 t.hd.1, .int .u64 t.hd.2.1, sb, sk], .int .i64 d] w fun e w' => ((rform n t d = none ∧ e = .returned (.tuple #[.slice none 0 0, .bool false])) ∨
    (∃ (r : List Int) (a : Option Addr) (c : Nat), rform n t d = some r ∧ e = .returned (.tuple #[.slice a r.length c, .bool true]) ∧ BySl 0 w'.heap.size w' (.slice a r.length c) r)) ∧ Below w.heap.size w w'

theorem ownsRow_lit (w : World) (l : List Value) (base : Nat) (hb : base ≤ w.heap.size) (hm : l.length ≤ maxLen) : (w.alloc (.cells l.toArray 5)).ownsRow base 5 1 (.slice (some ⟨w.heap.size, 0, none⟩) l.length l.length) l.length l :=
  ⟨by omega, .inr ⟨w.heap.size, l.length, l.toArray, rfl, hb, heap_alloc_new w _, Nat.le_refl _, hm, by simp, by simp⟩⟩

theorem rform_len : ∀ {n : Nat} {t : Tr n} {d : Nat} {r : List Int}, rform n t d = some r → 0 < r.length ∧ r.length ≤ 65538
  | 0, t, _, _, _ => by cases t
  | n + 1, t, d, r, h => by
    rw [rform_parts] at h
    split at h
    · cases h
    · split at h
      · cases h
      · simp only [Option.some.injEq] at h
        subst h
        simp
        omega

set_option maxHeartbeats 2000000 in
set_option maxRecDepth 100000 in
theorem form_step (n : Nat) (ih : FormOk n) : FormOk (n + 1) := by
  intro B0 t d sb sk w hB hrep hd
  have IH := hid ih
  clear ih
  obtain ⟨hn0, hn1, hby, hks⟩ := hrep
  have HB := hid hby
  have HK := hid hks
  obtain ⟨ab, cb, rfl, hrb⟩ := hby
  obtain ⟨ak, ck, rfl, hrk⟩ := hks
  have hbl : t.hd.2.2.length ≤ 140737488355328 := by obtain ⟨_, _, _, h, _⟩ := hrb; exact h
  have HBB : Hid (∀ x ∈ t.hd.2.2, 0 ≤ x ∧ x ≤ 255) := by obtain ⟨_, _, _, _, h, _⟩ := hrb; exact h
  clear hrb hrk
  have hkl : t.kd.length ≤ 2199023255552 := by obtain ⟨_, _, _, _, _, _, h, _⟩ := HK.out; exact h
  obtain ⟨R, hR⟩ : ∃ R, rform (n + 1) t d = R := ⟨_, rfl⟩
  rw [hR]
  rw [rform_parts] at hR
  have HNone : Hid (rbodyC (fun k => rform n k (d - 1)) t.hd.1 t.hd.2.1 t.hd.2.2 t.kd d = none → R = none) := fun h => by rw [h] at hR; exact hR.symm
  have HSome : Hid (∀ b, rbodyC (fun k => rform n k (d - 1)) t.hd.1 t.hd.2.1 t.hd.2.2 t.kd d = some b → R = if 65535 < b.length then none else some (t.hd.1 :: ((b.length : Int) / 256) :: ((b.length : Int) % 256) :: b)) := fun b h => by rw [h] at hR; exact hR.symm
  clear hR
  generalize t.kd = ks at *
  generalize t.hd.2.2 = bs at *
  generalize t.hd.2.1 = num at *
  generalize t.hd.1 = tag at *
  clear t
  obtain ⟨L1, hL1⟩ : ∃ L, bs.length = L := ⟨_, rfl⟩
  obtain ⟨L2, hL2⟩ : ∃ L, ks.length = L := ⟨_, rfl⟩
  have HL1 := hid hL1
  have HL2 := hid hL2
  rw [hL1] at hbl HB ⊢
  rw [hL2] at hkl HK ⊢
  clear hL1 hL2
  obtain ⟨i0, hi, hz0, hz1, hz2⟩ := info_parts Try.info5
  go_enter Try.func48, Try.ntmps48
  go_upto_block 0 with fail
  obtain ⟨W0, hW0⟩ : ∃ W0, W0 = w.alloc (Obj.cells #[Value.int .i64 tag, Value.int .u64 num, Value.slice ab L1 cb, Value.slice ak L2 ck] 93) := ⟨_, rfl⟩
  have x0 : W0.cell? ⟨w.heap.size, 0, none⟩ = some (.int .i64 tag) := by rw [hW0]; simp [go_sem]
  have x1 : W0.cell? ⟨w.heap.size, 1, none⟩ = some (.int .u64 num) := by rw [hW0]; simp [go_sem]
  have x2 : W0.cell? ⟨w.heap.size, 2, none⟩ = some (.slice ab L1 cb) := by rw [hW0]; simp [go_sem]
  have x3 : W0.cell? ⟨w.heap.size, 3, none⟩ = some (.slice ak L2 ck) := by rw [hW0]; simp [go_sem]
  have HZ0 : Hid (W0.heap.size = w.heap.size + 1) := by rw [Hid, hW0]; simp
  have HW0 : Hid (Below w.heap.size w W0) := by rw [Hid, hW0]; exact (Below.refl _ _).alloc (Nat.le_refl _) _
  rw [← hW0]
  clear hW0
  go_cut [6, 7, 8, 9, 10, 13, 37, 52] (fun s6 _ _ _ _ _ _ _ wx => ∃ (M : Nat) (body : List Int) (a : Option Addr) (c : Nat), s6 = .slice a M c ∧ wx.cell? ⟨w.heap.size, 0, none⟩ = some (.int .i64 tag) ∧ M ≤ 140737488355328 ∧ (tag = 1 ∨ tag = 2 ∨ tag = 3) ∧
    Hid (body.length = M ∧ rbodyC (fun k => rform n k (d - 1)) tag num bs ks d = some body ∧ BySl 0 wx.heap.size wx (.slice a M c) body ∧ Below w.heap.size w wx))
  case first =>
    by_cases h1 : tag = 1
    · as_aux_lemma =>
        obtain ⟨K, hK⟩ : ∃ K, (nsz num).toNat = K := ⟨_, rfl⟩
        have HKK := hid hK
        have hK8 : K ≤ 8 := by have := nsz_bd num; omega
        have HSP := hid (nsz_spec num hn0 hn1)
        clear hK
        subst h1
        obtain ⟨N, rfl⟩ : ∃ N : Nat, num = N := ⟨num.toNat, by omega⟩
        have hN : N ≤ 18446744073709551615 := by omega
        go_wp2_with fail
        go_loopg [6, 7] K (fun g s6 s7 wr => ∃ (k q : Nat) (a : Option Addr) (c : Nat), s6 = .slice a k c ∧ s7 = .int .u64 (q : Int) ∧ q ≤ 18446744073709551615 ∧ k ≤ K ∧ K - k ≤ g ∧
          wr.cell? ⟨w.heap.size, 0, none⟩ = some (.int .i64 1) ∧ wr.cell? ⟨w.heap.size, 2, none⟩ = some (.slice ab L1 cb) ∧ wr.cell? ⟨w.heap.size, 3, none⟩ = some (.slice ak L2 ck) ∧ Hid (q = N / 256 ^ k ∧ BySl 0 wr.heap.size wr (.slice a k c) (numB k N) ∧ Below w.heap.size w wr ∧ w.heap.size + 1 ≤ wr.heap.size))
        case atStart => exact ⟨0, N, none, 0, rfl, rfl, hN, Nat.zero_le _, Nat.le_refl _, x0, x2, x3, by simp, BySl.none _ _ _, HW0.out, Nat.le_of_eq HZ0.out.symm⟩
        case round =>
          obtain ⟨k, q, a, c, rfl, rfl, hq1, hkK, hkg, f0, f2, f3, HI⟩ := hrel
          clear x0 x1 x2 x3
          by_cases hq : 0 < q
          · have hkK' : k < K := by
              apply Nat.lt_of_le_of_ne hkK
              intro e
              subst e
              have h1 := HSP.out.1
              rw [HKK.out] at h1
              have h2 := HI.out.1
              rw [Nat.div_eq_of_lt (by exact_mod_cast h1)] at h2
              omega
            have hown := hid (ownsRow_lit wr [.int .u8 ((q : Int) % 256)] wr.heap.size (Nat.le_refl _) (by unfold maxLen; simp))
            have belT : Hid (Below wr.heap.size wr (wr.alloc (Obj.cells #[Value.int IntKind.u8 ((q : Int) % 256)] 5))) := (Below.refl _ _).alloc (Nat.le_refl _) _
            have hz1' := HI.out.2.2.2
            have hnb : Hid (numB (k + 1) N = ((q : Int) % 256) :: numB k N) := by
              rw [Hid, numB, HI.out.1]
              simp
            have hq2 : Hid (q / 256 = N / 256 ^ (k + 1)) := by rw [Hid, HI.out.1, Nat.div_div_eq_div_mul, Nat.pow_succ]
            have hq3 : q / 256 ≤ 18446744073709551615 := by omega
            have hbb : Hid (∀ x ∈ numB (k + 1) N, 0 ≤ x ∧ x ≤ 255) := numB_byte _ _
            obtain ⟨gk', rfl⟩ : ∃ g', gk = g' + 1 := ⟨gk - 1, by omega⟩
            cases a with
            | none =>
              obtain ⟨hk0, hc0⟩ : k = 0 ∧ c = 0 := by
                obtain ⟨a', c', e, _, _, h4, _⟩ := HI.out.2.1
                simp only [Value.slice.injEq] at e
                obtain ⟨rfl, e2, rfl⟩ := e
                obtain ⟨h, h'⟩ := h4 rfl
                rw [h] at e2
                exact ⟨e2, h'⟩
              subst hk0 hc0
              go_wp2_with (at_builtin; go_must (refine wpList_append_own_none rfl _ _ 24 rfl wr.heap.size 5 i0 1 Try.underlying24 hi _ 1 _ rfl hown.out rfl ?_))
              go_wp2_with fail
              go_roundg gk'
              case measure => omega
              case rel =>
                have h2 := BySl.own (base := wr.heap.size) (bs := numB 1 N) (by rw [numB_length, hnb.out]; exact hown.out) (by rw [numB_length]; omega) hbb.out
                exact ⟨1, q / 256, some ⟨wr.heap.size, 0, none⟩, 1, rfl, by go_num, hq3, by omega, by omega, (World.cell?_alloc_past _ _ _ (by omega)).trans f0, (World.cell?_alloc_past _ _ _ (by omega)).trans f2, (World.cell?_alloc_past _ _ _ (by omega)).trans f3, hq2.out, by have h3 := h2.agree (Agree.refl _ _ _) (Nat.zero_le _) (Nat.le_refl _); exact h3, HI.out.2.2.1.trans (belT.out.mono (by omega)), by simp; omega⟩
            | some ad =>
              have hnl : Hid (((numB k N).map (Value.int .u8)).length = k * 1) := by rw [Hid, List.length_map, numB_length]; omega
              have hnews := hid (bytes_news HI.out.2.1 belT.out)
              have hone := hid (bytes_one (numB k N))
              go_wp2_with (at_builtin; go_must (refine wpList_append_own _ rfl _ _ 24 rfl wr.heap.size 5 i0 (.int .u8 0) 1 1 Try.underlying24 hi hz0 hz1 hz2 rfl (by decide) _ 1 _ rfl hown.out ad k c ((numB k N).map (Value.int .u8)) rfl hnl.out hnews.out hone.out (by unfold maxLen; omega) (by omega) (by simp) ?_))
              intro v2 w5 hown5 hgrow5 hnil5
              obtain ⟨a2, c2, rfl⟩ := ownsRow_form' hown5
              have HOWN5 := hid hown5
              have bel5 : Hid (Below wr.heap.size wr w5) := belT.out.grown hgrow5 (by simp) (fun r e => by simp only [Value.ownBlock, Option.some.injEq] at e; omega)
              clear hown5 hgrow5 hnil5 hnl hnews hone
              go_wp2_with fail
              go_roundg gk'
              case measure => omega
              case rel =>
                have h2 := BySl.own (base := wr.heap.size) (w := w5) (v := .slice a2 (1 + k) c2) (bs := numB (k + 1) N) (by rw [numB_length, hnb.out, Nat.add_comm k 1]; exact HOWN5.out) (by rw [numB_length]; omega) hbb.out
                have h3 := h2.agree (Agree.refl _ _ _) (Nat.zero_le _) (Nat.le_refl _)
                have h4 := bel5.out.size
                rw [Nat.add_comm 1 k] at h3
                exact ⟨k + 1, q / 256, a2, c2, by rw [Nat.add_comm 1 k], by go_num, hq3, by omega, by omega, (bel5.out.cell (p := ⟨w.heap.size, 0, none⟩) (by simp; omega)).trans f0, (bel5.out.cell (p := ⟨w.heap.size, 2, none⟩) (by simp; omega)).trans f2, (bel5.out.cell (p := ⟨w.heap.size, 3, none⟩) (by simp; omega)).trans f3, hq2.out, h3, HI.out.2.2.1.trans (bel5.out.mono (by omega)), by omega⟩
          · have hkK' : Hid (k = K) := by
              rw [Hid]
              apply Nat.le_antisymm hkK
              apply Nat.le_of_not_lt
              intro hlt
              obtain ⟨j, hj⟩ : ∃ j, K = j + 1 := ⟨K - 1, by omega⟩
              have h1 := HSP.out.2 j (by rw [HKK.out, hj])
              have h1' : 256 ^ j ≤ N := by exact_mod_cast h1
              have h2 : 256 ^ k ≤ N := Nat.le_trans (Nat.pow_le_pow_right (by omega) (by omega)) h1'
              have h3 := Nat.div_pos h2 (Nat.pow_pos (by omega))
              have h4 := HI.out.1
              omega
            have hq0 : q = 0 := by omega
            subst hq0
            have hlk := HKK.out
            by_cases hL1 : L1 = 0
            · by_cases hL2 : L2 = 0
              · subst hL1 hL2
                have HRB : Hid (rbodyC (fun k => rform n k (d - 1)) 1 (N : Int) bs ks d = some (numB K N)) := by
                  have e1 : bs = [] := List.length_eq_zero_iff.1 HL1.out
                  have e2 : ks = [] := List.length_eq_zero_iff.1 HL2.out
                  rw [Hid, rbodyC, if_pos rfl, if_neg (by simp [e1, e2]), HKK.out]
                clear hlk
                go_wp2_with fail
                go_meet
                exact ⟨k, numB K N, a, c, rfl, f0, by omega, by simp, by rw [numB_length, hkK'.out], HRB.out, by have h := HI.out.2.1; rw [hkK'.out] at h ⊢; exact h, HI.out.2.2.1⟩
              · have HR : Hid (R = none) := HNone.out (by rw [rbodyC, if_pos rfl, if_pos (.inr (fun e => by have := HL2.out; rw [e] at this; simp at this; omega))])
                have hkI : 0 < L2 := by omega
                subst hL1
                clear hlk
                go_wp2_with fail
                go_ret2
                exact ⟨.inl ⟨HR.out, rfl⟩, HI.out.2.2.1⟩
            · have HR : Hid (R = none) := HNone.out (by rw [rbodyC, if_pos rfl, if_pos (.inl (fun e => by have := HL1.out; rw [e] at this; simp at this; omega))])
              have hkI : 0 < L1 := by omega
              clear hlk
              go_wp2_with fail
              go_ret2
              exact ⟨.inl ⟨HR.out, rfl⟩, HI.out.2.2.1⟩
    · by_cases h2 : tag = 2
      · as_aux_lemma =>
          subst h2
          have hown := hid (World.ownsRow_nil W0 W0.heap.size 5 1)
          by_cases hn : num = 0
          case neg =>
            have HR : Hid (R = none) := HNone.out (by rw [rbodyC, if_neg (by omega), if_pos rfl, if_pos (.inl hn)])
            cases ab with
            | none =>
              obtain ⟨hl0, hb0, hc0⟩ : L1 = 0 ∧ bs = [] ∧ cb = 0 := by
                obtain ⟨a', c', e, _, _, h4, _⟩ := HB.out
                simp only [Value.slice.injEq] at e
                obtain ⟨rfl, e2, rfl⟩ := e
                obtain ⟨h, h'⟩ := h4 rfl
                subst h
                exact ⟨e2, rfl, h'⟩
              subst hl0 hb0 hc0
              go_wp2_with (at_builtin; go_must (refine wpList_append_own_none rfl _ _ 24 rfl W0.heap.size 5 i0 1 Try.underlying24 hi _ 0 _ rfl hown.out rfl ?_))
              go_wp2_with fail
              go_ret2
              exact ⟨.inl ⟨HR.out, rfl⟩, HW0.out⟩
            | some ad =>
              have hnl : Hid ((bs.map (Value.int .u8)).length = L1 * 1) := by rw [Hid, List.length_map, HL1.out]; omega
              have hnews := hid (bytes_news (HB.out.to (B := w.heap.size) (fun b h => by omega)) HW0.out)
              have hone := hid (bytes_one bs)
              go_wp2_with (at_builtin; go_must (refine wpList_append_own _ rfl _ _ 24 rfl W0.heap.size 5 i0 (.int .u8 0) 1 1 Try.underlying24 hi hz0 hz1 hz2 rfl (by decide) _ 0 _ rfl hown.out ad L1 cb (bs.map (Value.int .u8)) rfl hnl.out hnews.out hone.out (by unfold maxLen; omega) (by omega) (Nat.le_refl _) ?_))
              intro v2 w5 hown5 hgrow5 hnil5
              obtain ⟨a2, c2, rfl⟩ := ownsRow_form' hown5
              have HOWN5 := hid hown5
              have bel5 : Hid (Below w.heap.size w w5) := HW0.out.grown hgrow5 HW0.out.size (fun r e => by simp [Value.ownBlock] at e)
              have v0 := hgrow5.cell x0 (by simp [Value.ownBlock])
              have v1 := hgrow5.cell x1 (by simp [Value.ownBlock])
              have v3 := hgrow5.cell x3 (by simp [Value.ownBlock])
              clear hown5 hgrow5 hnil5 hnl hnews hone x0 x1 x2 x3
              go_wp2_with fail
              go_ret2
              exact ⟨.inl ⟨HR.out, rfl⟩, bel5.out⟩
          subst hn
          by_cases hk : L2 = 0
          case neg =>
            have hkn : Hid (ks ≠ []) := fun e => by have := HL2.out; rw [e] at this; simp at this; omega
            have hkI : 0 < L2 := by omega
            have HR : Hid (R = none) := HNone.out (by rw [rbodyC, if_neg (by omega), if_pos rfl, if_pos (.inr hkn.out)])
            cases ab with
            | none =>
              obtain ⟨hl0, hb0, hc0⟩ : L1 = 0 ∧ bs = [] ∧ cb = 0 := by
                obtain ⟨a', c', e, _, _, h4, _⟩ := HB.out
                simp only [Value.slice.injEq] at e
                obtain ⟨rfl, e2, rfl⟩ := e
                obtain ⟨h, h'⟩ := h4 rfl
                subst h
                exact ⟨e2, rfl, h'⟩
              subst hl0 hb0 hc0
              go_wp2_with (at_builtin; go_must (refine wpList_append_own_none rfl _ _ 24 rfl W0.heap.size 5 i0 1 Try.underlying24 hi _ 0 _ rfl hown.out rfl ?_))
              go_wp2_with fail
              go_ret2
              exact ⟨.inl ⟨HR.out, rfl⟩, HW0.out⟩
            | some ad =>
              have hnl : Hid ((bs.map (Value.int .u8)).length = L1 * 1) := by rw [Hid, List.length_map, HL1.out]; omega
              have hnews := hid (bytes_news (HB.out.to (B := w.heap.size) (fun b h => by omega)) HW0.out)
              have hone := hid (bytes_one bs)
              go_wp2_with (at_builtin; go_must (refine wpList_append_own _ rfl _ _ 24 rfl W0.heap.size 5 i0 (.int .u8 0) 1 1 Try.underlying24 hi hz0 hz1 hz2 rfl (by decide) _ 0 _ rfl hown.out ad L1 cb (bs.map (Value.int .u8)) rfl hnl.out hnews.out hone.out (by unfold maxLen; omega) (by omega) (Nat.le_refl _) ?_))
              intro v2 w5 hown5 hgrow5 hnil5
              obtain ⟨a2, c2, rfl⟩ := ownsRow_form' hown5
              have HOWN5 := hid hown5
              have bel5 : Hid (Below w.heap.size w w5) := HW0.out.grown hgrow5 HW0.out.size (fun r e => by simp [Value.ownBlock] at e)
              have v0 := hgrow5.cell x0 (by simp [Value.ownBlock])
              have v1 := hgrow5.cell x1 (by simp [Value.ownBlock])
              have v3 := hgrow5.cell x3 (by simp [Value.ownBlock])
              clear hown5 hgrow5 hnil5 hnl hnews hone x0 x1 x2 x3
              go_wp2_with fail
              go_ret2
              exact ⟨.inl ⟨HR.out, rfl⟩, bel5.out⟩
          subst hk
          have hkn : ks = [] := List.length_eq_zero_iff.1 HL2.out
          have HRB : Hid (rbodyC (fun k => rform n k (d - 1)) 2 0 bs ks d = some bs) := by rw [Hid, rbodyC, if_neg (by omega), if_pos rfl, if_neg (by simp [hkn])]
          clear hkn
          cases ab with
          | none =>
            obtain ⟨hl0, hb0, hc0⟩ : L1 = 0 ∧ bs = [] ∧ cb = 0 := by
              obtain ⟨a', c', e, _, _, h4, _⟩ := HB.out
              simp only [Value.slice.injEq] at e
              obtain ⟨rfl, e2, rfl⟩ := e
              obtain ⟨h, h'⟩ := h4 rfl
              subst h
              exact ⟨e2, rfl, h'⟩
            subst hl0 hb0 hc0
            go_wp2_with (at_builtin; go_must (refine wpList_append_own_none rfl _ _ 24 rfl W0.heap.size 5 i0 1 Try.underlying24 hi _ 0 _ rfl hown.out rfl ?_))
            go_wp2_with fail
            go_meet
            exact ⟨0, [], none, 0, rfl, x0, Nat.zero_le _, by simp, rfl, HRB.out, BySl.none _ _ _, HW0.out⟩
          | some ad =>
            have hnl : Hid ((bs.map (Value.int .u8)).length = L1 * 1) := by rw [Hid, List.length_map, HL1.out]; omega
            have hnews := hid (bytes_news (HB.out.to (B := w.heap.size) (fun b h => by omega)) HW0.out)
            have hone := hid (bytes_one bs)
            go_wp2_with (at_builtin; go_must (refine wpList_append_own _ rfl _ _ 24 rfl W0.heap.size 5 i0 (.int .u8 0) 1 1 Try.underlying24 hi hz0 hz1 hz2 rfl (by decide) _ 0 _ rfl hown.out ad L1 cb (bs.map (Value.int .u8)) rfl hnl.out hnews.out hone.out (by unfold maxLen; omega) (by omega) (Nat.le_refl _) ?_))
            intro v2 w5 hown5 hgrow5 hnil5
            obtain ⟨a2, c2, rfl⟩ := ownsRow_form' hown5
            have HOWN5 := hid hown5
            have bel5 : Hid (Below w.heap.size w w5) := HW0.out.grown hgrow5 HW0.out.size (fun r e => by simp [Value.ownBlock] at e)
            have v0 := hgrow5.cell x0 (by simp [Value.ownBlock])
            have v1 := hgrow5.cell x1 (by simp [Value.ownBlock])
            have v3 := hgrow5.cell x3 (by simp [Value.ownBlock])
            clear hown5 hgrow5 hnil5 hnl hnews hone x0 x1 x2 x3
            go_wp2_with fail
            go_meet
            exact ⟨L1, bs, a2, c2, rfl, v0, hbl, by simp, HL1.out, HRB.out, (BySl.own (by rw [HL1.out]; exact HOWN5.out) (by rw [HL1.out]; exact hbl) HBB.out).agree (Agree.refl _ _ _) (Nat.zero_le _) (Nat.le_refl _), bel5.out⟩
      · by_cases h3 : tag = 3
        · as_aux_lemma =>
            subst h3
            by_cases hn : num = 0
            case neg =>
              have HR : Hid (R = none) := HNone.out (by rw [rbodyC, if_neg (by omega), if_neg (by omega), if_pos rfl, if_pos (.inl hn)])
              go_wp2_with fail
              go_ret2
              exact ⟨.inl ⟨HR.out, rfl⟩, HW0.out⟩
            subst hn
            by_cases hL1 : L1 = 0
            case neg =>
              have HR : Hid (R = none) := HNone.out (by rw [rbodyC, if_neg (by omega), if_neg (by omega), if_pos rfl, if_pos (.inr (.inl (fun e => by have := HL1.out; rw [e] at this; simp at this; omega)))])
              have hkI : 0 < L1 := by omega
              go_wp2_with fail
              go_ret2
              exact ⟨.inl ⟨HR.out, rfl⟩, HW0.out⟩
            subst hL1
            by_cases hd0 : d = 0
            case pos =>
              have HR : Hid (R = none) := HNone.out (by rw [rbodyC, if_neg (by omega), if_neg (by omega), if_pos rfl, if_pos (.inr (.inr hd0))])
              have hdb : ((d : Int) == 0) = true := by simp; omega
              go_wp2_with fail
              go_ret2
              exact ⟨.inl ⟨HR.out, rfl⟩, HW0.out⟩
            have hdb : ((d : Int) == 0) = false := by simp; omega
            obtain ⟨d', HD⟩ : ∃ d', Hid (d = d' + 1) := ⟨d - 1, by rw [Hid]; omega⟩
            have hdw : IntKind.i64.wrap ((d : Int) - 1) = d' := by have := HD.out; rw [IntKind.wrap_i64]; omega
            have hd8 : d' ≤ 8 := by have := HD.out; omega
            obtain ⟨RB, hRB⟩ : ∃ RB, rbodyC (fun k => rform n k (d - 1)) 3 0 bs ks d = RB := ⟨_, rfl⟩
            have HRL : Hid (rformL (fun k => rform n k d') [] ks = RB) := by
              have e : bs = [] := List.length_eq_zero_iff.1 HL1.out
              rw [Hid, ← hRB, rbodyC, if_neg (by omega), if_neg (by omega), if_pos rfl, if_neg (by simp [e, hd0]), HD.out, Nat.add_sub_cancel]
            have HRB := hid hRB
            rw [hRB] at HNone
            have hown0 := hid (World.ownsRow_nil W0 (w.heap.size + 1) 5 1)
            clear hRB hd0 HSome
            go_wp2_with fail
            go_loopw [6, 8] (fun s6 s8 wr => ∃ (i M : Nat) (a : Option Addr) (c : Nat) (acc : List Int), s6 = .slice a M c ∧ s8 = .int .i64 i ∧ i ≤ L2 ∧ M ≤ 140000 ∧ wr.cell? ⟨w.heap.size, 0, none⟩ = some (.int .i64 3) ∧ wr.cell? ⟨w.heap.size, 3, none⟩ = some (.slice ak L2 ck) ∧
              Hid (acc.length = M ∧ rformL (fun k => rform n k d') acc (ks.drop i) = RB ∧ wr.ownsRow (w.heap.size + 1) 5 1 (.slice a M c) M (acc.map (Value.int .u8)) ∧ (∀ x ∈ acc, 0 ≤ x ∧ x ≤ 255) ∧ Below w.heap.size w wr ∧ w.heap.size + 1 ≤ wr.heap.size)) (fun _ s8 _ => L2 - (intOf s8).toNat)
            case atStart => exact ⟨0, 0, none, 0, [], rfl, rfl, Nat.zero_le _, Nat.zero_le _, x0, x3, rfl, HRL.out, hown0.out, by simp, HW0.out, Nat.le_of_eq HZ0.out.symm⟩
            case round =>
              obtain ⟨i, M, a, c, acc, rfl, rfl, hiL, hM, f0, f3, HI⟩ := hrel
              clear x0 x1 x2 x3
              have hws := HI.out.2.2.2.2.2
              have hbelw := hid HI.out.2.2.2.2.1
              by_cases hlt : i < L2
              · have hlt' : i < ks.length := by rw [HL2.out]; exact hlt
                obtain ⟨_, _, ea, _, _, _, _, h7⟩ := HK.out
                simp only [Value.slice.injEq] at ea
                obtain ⟨rfl, hx, rfl⟩ := ea
                clear hx
                obtain ⟨b, o, rfl, hSb, hc⟩ := h7 (by intro e; subst e; simp at hlt')
                obtain ⟨sb, sk, c0, c1, c2, c3, hrep⟩ := hc i ks[i] (List.getElem?_eq_getElem hlt')
                clear hc h7
                obtain ⟨a1, l1, q1, a2, l2, q2, rfl, rfl⟩ := hrep.sl
                have hbw : b < w.heap.size := by omega
                have hR := hid (hrep.agree (AgreeS.below hbelw.out (fun b hb => by omega)) (fun _ h => h))
                clear hrep
                have d0 := (hbelw.out.cell (p := ⟨b, o + i * 4, none⟩) hbw).trans c0
                have d1 := (hbelw.out.cell (p := ⟨b, o + i * 4 + 1, none⟩) hbw).trans c1
                have d2 := (hbelw.out.cell (p := ⟨b, o + i * 4 + 2, none⟩) hbw).trans c2
                have d3 := (hbelw.out.cell (p := ⟨b, o + i * 4 + 3, none⟩) hbw).trans c3
                clear c0 c1 c2 c3
                have hdrop : Hid (ks.drop i = ks[i] :: ks.drop (i + 1)) := List.drop_eq_getElem_cons hlt'
                generalize ks[i] = t1 at *
                have hiI0 : (0 : Int) ≤ (i : Int) := by omega
                have hiI1 : (i : Int) < (L2 : Int) := by omega
                go_wp2_with fail
                refine (IH.out B0 t1 d' _ _ wr (by omega) hR.out hd8).mono ?_
                rintro e w2 ⟨hres, hb2⟩
                have HB2 := hid hb2
                have hs2 := hb2.size
                have F0 := (hb2.cell (p := ⟨w.heap.size, 0, none⟩) (by show w.heap.size < wr.heap.size; omega)).trans f0
                have F3 := (hb2.cell (p := ⟨w.heap.size, 3, none⟩) (by show w.heap.size < wr.heap.size; omega)).trans f3
                clear hb2 d0 d1 d2 d3 f0 f3
                have belw2 : Hid (Below w.heap.size w w2) := hbelw.out.trans (HB2.out.mono (by omega))
                rcases hres with ⟨hn, rfl⟩ | ⟨r, ar, cr, hs, rfl, hr⟩
                · have HR : Hid (R = none) := HNone.out (by rw [← HI.out.2.1, hdrop.out, rformL, hn])
                  clear hn
                  go_wp2_with fail
                  go_ret2
                  exact ⟨.inl ⟨HR.out, rfl⟩, belw2.out⟩
                obtain ⟨hr0, hr1⟩ := rform_len hs
                obtain ⟨Q, hQ⟩ : ∃ Q, r.length = Q := ⟨_, rfl⟩
                have HQ := hid hQ
                have HSS := hid hs
                have HRR := hid hr
                rw [hQ] at hr0 hr1 HRR ⊢
                clear hQ hs hr
                by_cases h65 : 65535 < M
                · have HR : Hid (R = none) := HNone.out (by rw [← HI.out.2.1, hdrop.out, rformL, HSS.out]; simp only; rw [if_pos (by rw [HI.out.1]; exact h65)])
                  have hq : decide ((65535 : Int) < M) = true := by simp; omega
                  go_wp2_with fail
                  go_ret2
                  exact ⟨.inl ⟨HR.out, rfl⟩, belw2.out⟩
                have hq : decide ((65535 : Int) < M) = false := by simp; omega
                obtain ⟨ad, rfl⟩ : ∃ ad, ar = some ad := by
                  cases ar with
                  | some ad => exact ⟨ad, rfl⟩
                  | none =>
                    obtain ⟨a', c', e, _, _, h4, _⟩ := HRR.out
                    simp only [Value.slice.injEq] at e
                    obtain ⟨e1, _, _⟩ := e
                    obtain ⟨h, _⟩ := h4 e1.symm
                    have := HQ.out
                    rw [h] at this
                    simp at this
                    omega
                have hown := hid (ownsRow_agree HI.out.2.2.1 (Agree.below HB2.out))
                have ltA := hid hown.out.lt
                have hnl : Hid ((r.map (Value.int .u8)).length = Q * 1) := by rw [Hid, List.length_map, HQ.out]; omega
                have hnews := hid (bytes_news HRR.out (Below.refl _ _))
                have hone := hid (bytes_one r)
                go_wp2_with (at_builtin; go_must (refine wpList_append_own _ rfl _ _ 24 rfl (w.heap.size + 1) 5 i0 (.int .u8 0) 1 1 Try.underlying24 hi hz0 hz1 hz2 rfl (by decide) _ M _ rfl hown.out ad Q cr (r.map (Value.int .u8)) rfl hnl.out hnews.out hone.out (by unfold maxLen; omega) (by omega) (by omega) ?_))
                intro v2 w5 hown5 hgrow5 hnil5
                obtain ⟨a5, c5, rfl⟩ := ownsRow_form' hown5
                have HOWN5 := hid hown5
                have hs5 := hgrow5.size
                have bel5 : Hid (Below (w.heap.size + 1) w2 w5) := (Below.refl _ _).grown hgrow5 (by omega) (fun r e => (ltA.out r e).1)
                have G0 := (bel5.out.cell (p := ⟨w.heap.size, 0, none⟩) (by simp)).trans F0
                have G3 := (bel5.out.cell (p := ⟨w.heap.size, 3, none⟩) (by simp)).trans F3
                clear hown5 hgrow5 hnil5 hnl hnews hone F0 F3 hown
                go_wp2_with fail
                go_roundw
                case rel =>
                  refine ⟨i + 1, M + Q, a5, c5, acc ++ r, rfl, by go_num, by omega, by omega, G0, G3, by rw [List.length_append, HI.out.1, HQ.out], ?_, by rw [List.map_append]; exact HOWN5.out, ?_, belw2.out.trans (bel5.out.mono (by omega)), by omega⟩
                  · have h := HI.out.2.1
                    rw [hdrop.out, rformL, HSS.out] at h
                    simp only at h
                    rw [if_neg (by rw [HI.out.1]; omega)] at h
                    exact h
                  · intro x hx
                    rcases List.mem_append.1 hx with hx | hx
                    · exact HI.out.2.2.2.1 x hx
                    · exact HRR.out.bytes x hx
                case measure => simp [intOf]; omega
              · have hi2 : i = L2 := by omega
                have HRBs : Hid (rbodyC (fun k => rform n k (d - 1)) 3 0 bs ks d = some acc) := by
                  have h := HI.out.2.1
                  rw [List.drop_of_length_le (by rw [HL2.out]; omega), rformL] at h
                  rw [Hid, HRB.out, ← h]
                have hiI1 : ¬ (i : Int) < (L2 : Int) := by omega
                have HBY : Hid (BySl 0 wr.heap.size wr (.slice a M c) acc) := by
                  have h2 := BySl.own (base := w.heap.size + 1) (w := wr) (v := .slice a M c) (bs := acc) (by rw [HI.out.1]; exact HI.out.2.2.1) (by rw [HI.out.1]; omega) HI.out.2.2.2.1
                  exact h2.agree (Agree.refl _ _ _) (Nat.zero_le _) (Nat.le_refl _)
                clear hi2
                go_wp2_with fail
                go_meet
                exact ⟨M, acc, a, c, rfl, f0, by omega, by simp, HI.out.1, HRBs.out, HBY.out, hbelw.out⟩
        · have HR : Hid (R = none) := HNone.out (by rw [rbodyC, if_neg h1, if_neg h2, if_neg h3])
          go_wp2_with fail
          go_ret2
          exact ⟨.inl ⟨HR.out, rfl⟩, HW0.out⟩
  case rest =>
    obtain ⟨M, body, a, c, rfl, y0, hM, htag, HC⟩ := hcut
    as_aux_lemma =>
      by_cases hlt : 65535 < M
      · have hq : decide ((65535 : Int) < M) = true := by simp; omega
        have HR : Hid (R = none) := by rw [Hid, HSome.out _ HC.out.2.1, HC.out.1, if_pos hlt]
        go_wp2_with fail
        go_ret2
        exact ⟨.inl ⟨HR.out, rfl⟩, HC.out.2.2.2⟩
      · have hq : decide ((65535 : Int) < M) = false := by simp; omega
        have HR : Hid (R = some (tag :: ((M : Int) / 256) :: ((M : Int) % 256) :: body)) := by rw [Hid, HSome.out _ HC.out.2.1, HC.out.1, if_neg hlt]
        have hlen : Hid ((tag :: ((M : Int) / 256) :: ((M : Int) % 256) :: body).length = 3 + M) := by rw [Hid]; simp only [List.length_cons, HC.out.1]; omega
        have hown := hid (ownsRow_lit wc [.int .u8 tag, .int .u8 ((M : Int) / 256), .int .u8 ((M : Int) % 256)] wc.heap.size (Nat.le_refl _) (by unfold maxLen; simp))
        have hbytes : Hid (∀ x ∈ (tag :: ((M : Int) / 256) :: ((M : Int) % 256) :: body), 0 ≤ x ∧ x ≤ 255) := by
          intro x hx
          simp only [List.mem_cons] at hx
          rcases hx with rfl | rfl | rfl | hx
          · omega
          · omega
          · omega
          · exact HC.out.2.2.1.bytes x hx
        have belT : Hid (Below wc.heap.size wc (wc.alloc (Obj.cells #[Value.int IntKind.u8 tag, Value.int IntKind.u8 ((M : Int) / 256), Value.int IntKind.u8 ((M : Int) % 256)] 5))) := (Below.refl _ _).alloc (Nat.le_refl _) _
        have HBC := hid HC.out.2.2.2
        cases a with
        | none =>
          obtain ⟨hM0, hb0, hc0⟩ : M = 0 ∧ body = [] ∧ c = 0 := by
            obtain ⟨a', c', e, _, _, h4, _⟩ := HC.out.2.2.1
            simp only [Value.slice.injEq] at e
            obtain ⟨rfl, e2, rfl⟩ := e
            obtain ⟨h, h'⟩ := h4 rfl
            subst h
            exact ⟨e2, rfl, h'⟩
          subst hM0 hb0 hc0
          go_wp2_with (at_builtin; go_must (refine wpList_append_own_none rfl _ _ 24 rfl wc.heap.size 5 i0 1 Try.underlying24 hi _ 3 _ rfl hown.out rfl ?_))
          go_wp2_with fail
          go_ret2
          refine ⟨.inr ⟨_, some ⟨wc.heap.size, 0, none⟩, 3, HR.out, rfl, ?_⟩, HBC.out.trans (belT.out.mono HBC.out.size)⟩
          have h2 := BySl.own (base := wc.heap.size) (bs := tag :: (((0 : Nat) : Int) / 256) :: (((0 : Nat) : Int) % 256) :: []) hown.out (by simp) hbytes.out
          exact h2.agree (Agree.refl _ _ _) (Nat.zero_le _) (Nat.le_refl _)
        | some ad =>
          have hnl : Hid ((body.map (Value.int .u8)).length = M * 1) := by rw [Hid, List.length_map, HC.out.1]; omega
          have hnews := hid (bytes_news HC.out.2.2.1 belT.out)
          have hone := hid (bytes_one body)
          go_wp2_with (at_builtin; go_must (refine wpList_append_own _ rfl _ _ 24 rfl wc.heap.size 5 i0 (.int .u8 0) 1 1 Try.underlying24 hi hz0 hz1 hz2 rfl (by decide) _ 3 _ rfl hown.out ad M c (body.map (Value.int .u8)) rfl hnl.out hnews.out hone.out (by unfold maxLen; omega) (by omega) (by simp) ?_))
          intro v2 w5 hown5 hgrow5 hnil5
          obtain ⟨a2, c2, rfl⟩ := ownsRow_form' hown5
          have HOWN5 := hid hown5
          have bel5 : Hid (Below wc.heap.size wc w5) := belT.out.grown hgrow5 (by simp) (fun r e => by simp only [Value.ownBlock, Option.some.injEq] at e; omega)
          clear hown5 hgrow5 hnil5 hnl hnews hone
          go_wp2_with fail
          go_ret2
          refine ⟨.inr ⟨_, a2, c2, HR.out, by rw [hlen.out]; rfl, ?_⟩, HBC.out.trans (bel5.out.mono HBC.out.size)⟩
          rw [hlen.out]
          have h2 := BySl.own (base := wc.heap.size) (w := w5) (v := .slice a2 (3 + M) c2) (bs := tag :: ((M : Int) / 256) :: ((M : Int) % 256) :: body) (by rw [hlen.out]; exact HOWN5.out) (by rw [hlen.out]; omega) hbytes.out
          exact h2.agree (Agree.refl _ _ _) (Nat.zero_le _) (Nat.le_refl _)

theorem form_any : ∀ n, FormOk n
  | 0 => fun _ t => by cases t
  | n + 1 => form_step n (form_any n)

end Go.Proofs.Ythbhdbjjobfchaa.Tlv
