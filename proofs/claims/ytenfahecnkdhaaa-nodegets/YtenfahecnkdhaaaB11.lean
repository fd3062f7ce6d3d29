/- Of the proof: the texts TlvRefForm, NdRObj, NdRPutF, NdRHash, one behind the other. -/
import Derived.Test.YtenfahecnkdhaaaB10
import Derived.Test.YtenfahecnkdhaaaB8
import Derived.Deep.LoopGhost
import Derived.Test.YtenfahecnkdhaaaB4
import Derived.Test.YtenfahecnkdhaaaB3
section
/-
  What the reference's form makes of a tree.
-/
namespace Go.Proofs.Ytenfahecnkdhaaa.Tlv
open Go.RowKit
attribute [local go_sem ↓] Go.wp_at_zero Go.wp_at_succ

/-- What is behind the first three bytes, by the value's parts. -/
def rbodyC {α : Type} (f : α → Option (List Int)) (tag num : Int) (bs : List Int) (ks : List α) (deep : Nat) : Option (List Int) :=
  if tag = 1 then (if bs ≠ [] ∨ ks ≠ [] then none else some (numB (nsz num).toNat num))
  else if tag = 2 then (if num ≠ 0 ∨ ks ≠ [] then none else some bs)
  else if tag = 3 then (if num ≠ 0 ∨ bs ≠ [] ∨ deep = 0 then none else rformL f [] ks)
  else none

theorem rform_parts {n : Nat} (t : Tr (n + 1)) (d : Nat) : rform (n + 1) t d = match rbodyC (fun k => rform n k (d - 1)) t.hd.1 t.hd.2.1 t.hd.2.2 t.kd d with
    | none => none
    | some b => if 65535 < b.length then none else some (t.hd.1 :: ((b.length : Int) / 256) :: ((b.length : Int) % 256) :: b) := rfl

def FormOk (n : Nat) : Prop := ∀ (B0 : Nat) (t : Tr n) (d : Nat) (sb sk : Value) (w : World), B0 ≤ w.heap.size → RepS (fun b => b < B0) w n t sb sk → d ≤ 8 →
  Calls Try.prog 81 #[.agg #[.int .i64 t.hd.1, .int .u64 t.hd.2.1, sb, sk], .int .i64 d] w fun e w' => ((rform n t d = none ∧ e = .returned (.tuple #[.slice none 0 0, .bool false])) ∨
    (∃ (r : List Int) (a : Option Addr) (c : Nat), rform n t d = some r ∧ e = .returned (.tuple #[.slice a r.length c, .bool true]) ∧ BySl 0 w'.heap.size w' (.slice a r.length c) r)) ∧ Below w.heap.size w w'

theorem ownsRow_lit (w : World) (l : List Value) (base : Nat) (hb : base ≤ w.heap.size) (hm : l.length ≤ maxLen) : (w.alloc (.cells l.toArray 5)).ownsRow base 5 1 (.slice (some ⟨w.heap.size, 0, none⟩) l.length l.length) l.length l :=
  ⟨by omega, .inr ⟨w.heap.size, l.length, l.toArray, rfl, hb, heap_alloc_new w _, Nat.le_refl _, hm, by simp, by simp⟩⟩

theorem rform_len : ∀ {n : Nat} {t : Tr n} {d : Nat} {r : List Int}, rform n t d = some r → 0 < r.length ∧ r.length ≤ 65538
  | 0, t, _, _, _ => by cases t
  | n + 1, t, d, r, h => by
    rw [rform_parts] at h
    split at h
    · cases h
    · split at h
      · cases h
      · simp only [Option.some.injEq] at h
        subst h
        simp
        omega

set_option maxHeartbeats 2000000 in
set_option maxRecDepth 100000 in
theorem form_step (n : Nat) (ih : FormOk n) : FormOk (n + 1) := by
  intro B0 t d sb sk w hB hrep hd
  have IH := hid ih
  clear ih
  obtain ⟨hn0, hn1, hby, hks⟩ := hrep
  have HB := hid hby
  have HK := hid hks
  obtain ⟨ab, cb, rfl, hrb⟩ := hby
  obtain ⟨ak, ck, rfl, hrk⟩ := hks
  have hbl : t.hd.2.2.length ≤ 140737488355328 := by obtain ⟨_, _, _, h, _⟩ := hrb; exact h
  have HBB : Hid (∀ x ∈ t.hd.2.2, 0 ≤ x ∧ x ≤ 255) := by obtain ⟨_, _, _, _, h, _⟩ := hrb; exact h
  clear hrb hrk
  have hkl : t.kd.length ≤ 2199023255552 := by obtain ⟨_, _, _, _, _, _, h, _⟩ := HK.out; exact h
  obtain ⟨R, hR⟩ : ∃ R, rform (n + 1) t d = R := ⟨_, rfl⟩
  rw [hR]
  rw [rform_parts] at hR
  have HNone : Hid (rbodyC (fun k => rform n k (d - 1)) t.hd.1 t.hd.2.1 t.hd.2.2 t.kd d = none → R = none) := fun h => by rw [h] at hR; exact hR.symm
  have HSome : Hid (∀ b, rbodyC (fun k => rform n k (d - 1)) t.hd.1 t.hd.2.1 t.hd.2.2 t.kd d = some b → R = if 65535 < b.length then none else some (t.hd.1 :: ((b.length : Int) / 256) :: ((b.length : Int) % 256) :: b)) := fun b h => by rw [h] at hR; exact hR.symm
  clear hR
  generalize t.kd = ks at *
  generalize t.hd.2.2 = bs at *
  generalize t.hd.2.1 = num at *
  generalize t.hd.1 = tag at *
  clear t
  obtain ⟨L1, hL1⟩ : ∃ L, bs.length = L := ⟨_, rfl⟩
  obtain ⟨L2, hL2⟩ : ∃ L, ks.length = L := ⟨_, rfl⟩
  have HL1 := hid hL1
  have HL2 := hid hL2
  rw [hL1] at hbl HB ⊢
  rw [hL2] at hkl HK ⊢
  clear hL1 hL2
  obtain ⟨i0, hi, hz0, hz1, hz2⟩ := info_parts Try.info5
  go_enter Try.func81, Try.ntmps81
  go_upto_block 0 with fail
  obtain ⟨W0, hW0⟩ : ∃ W0, W0 = w.alloc (Obj.cells #[Value.int .i64 tag, Value.int .u64 num, Value.slice ab L1 cb, Value.slice ak L2 ck] 86) := ⟨_, rfl⟩
  have x0 : W0.cell? ⟨w.heap.size, 0, none⟩ = some (.int .i64 tag) := by rw [hW0]; simp [go_sem]
  have x1 : W0.cell? ⟨w.heap.size, 1, none⟩ = some (.int .u64 num) := by rw [hW0]; simp [go_sem]
  have x2 : W0.cell? ⟨w.heap.size, 2, none⟩ = some (.slice ab L1 cb) := by rw [hW0]; simp [go_sem]
  have x3 : W0.cell? ⟨w.heap.size, 3, none⟩ = some (.slice ak L2 ck) := by rw [hW0]; simp [go_sem]
  have HZ0 : Hid (W0.heap.size = w.heap.size + 1) := by rw [Hid, hW0]; simp
  have HW0 : Hid (Below w.heap.size w W0) := by rw [Hid, hW0]; exact (Below.refl _ _).alloc (Nat.le_refl _) _
  rw [← hW0]
  clear hW0
  go_cut [6, 7, 8, 9, 10, 13, 37, 52] (fun s6 _ _ _ _ _ _ _ wx => ∃ (M : Nat) (body : List Int) (a : Option Addr) (c : Nat), s6 = .slice a M c ∧ wx.cell? ⟨w.heap.size, 0, none⟩ = some (.int .i64 tag) ∧ M ≤ 140737488355328 ∧ (tag = 1 ∨ tag = 2 ∨ tag = 3) ∧
    Hid (body.length = M ∧ rbodyC (fun k => rform n k (d - 1)) tag num bs ks d = some body ∧ BySl 0 wx.heap.size wx (.slice a M c) body ∧ Below w.heap.size w wx))
  case first =>
    by_cases h1 : tag = 1
    · as_aux_lemma =>
        obtain ⟨K, hK⟩ : ∃ K, (nsz num).toNat = K := ⟨_, rfl⟩
        have HKK := hid hK
        have hK8 : K ≤ 8 := by have := nsz_bd num; omega
        have HSP := hid (nsz_spec num hn0 hn1)
        clear hK
        subst h1
        obtain ⟨N, rfl⟩ : ∃ N : Nat, num = N := ⟨num.toNat, by omega⟩
        have hN : N ≤ 18446744073709551615 := by omega
        go_wp2_with fail
        go_loopg [6, 7] K (fun g s6 s7 wr => ∃ (k q : Nat) (a : Option Addr) (c : Nat), s6 = .slice a k c ∧ s7 = .int .u64 (q : Int) ∧ q ≤ 18446744073709551615 ∧ k ≤ K ∧ K - k ≤ g ∧
          wr.cell? ⟨w.heap.size, 0, none⟩ = some (.int .i64 1) ∧ wr.cell? ⟨w.heap.size, 2, none⟩ = some (.slice ab L1 cb) ∧ wr.cell? ⟨w.heap.size, 3, none⟩ = some (.slice ak L2 ck) ∧ Hid (q = N / 256 ^ k ∧ BySl 0 wr.heap.size wr (.slice a k c) (numB k N) ∧ Below w.heap.size w wr ∧ w.heap.size + 1 ≤ wr.heap.size))
        case atStart => exact ⟨0, N, none, 0, rfl, rfl, hN, Nat.zero_le _, Nat.le_refl _, x0, x2, x3, by simp, BySl.none _ _ _, HW0.out, Nat.le_of_eq HZ0.out.symm⟩
        case round =>
          obtain ⟨k, q, a, c, rfl, rfl, hq1, hkK, hkg, f0, f2, f3, HI⟩ := hrel
          clear x0 x1 x2 x3
          by_cases hq : 0 < q
          · have hkK' : k < K := by
              apply Nat.lt_of_le_of_ne hkK
              intro e
              subst e
              have h1 := HSP.out.1
              rw [HKK.out] at h1
              have h2 := HI.out.1
              rw [Nat.div_eq_of_lt (by exact_mod_cast h1)] at h2
              omega
            have hown := hid (ownsRow_lit wr [.int .u8 ((q : Int) % 256)] wr.heap.size (Nat.le_refl _) (by unfold maxLen; simp))
            have belT : Hid (Below wr.heap.size wr (wr.alloc (Obj.cells #[Value.int IntKind.u8 ((q : Int) % 256)] 5))) := (Below.refl _ _).alloc (Nat.le_refl _) _
            have hz1' := HI.out.2.2.2
            have hnb : Hid (numB (k + 1) N = ((q : Int) % 256) :: numB k N) := by
              rw [Hid, numB, HI.out.1]
              simp
            have hq2 : Hid (q / 256 = N / 256 ^ (k + 1)) := by rw [Hid, HI.out.1, Nat.div_div_eq_div_mul, Nat.pow_succ]
            have hq3 : q / 256 ≤ 18446744073709551615 := by omega
            have hbb : Hid (∀ x ∈ numB (k + 1) N, 0 ≤ x ∧ x ≤ 255) := numB_byte _ _
            obtain ⟨gk', rfl⟩ : ∃ g', gk = g' + 1 := ⟨gk - 1, by omega⟩
            cases a with
            | none =>
              obtain ⟨hk0, hc0⟩ : k = 0 ∧ c = 0 := by
                obtain ⟨a', c', e, _, _, h4, _⟩ := HI.out.2.1
                simp only [Value.slice.injEq] at e
                obtain ⟨rfl, e2, rfl⟩ := e
                obtain ⟨h, h'⟩ := h4 rfl
                rw [h] at e2
                exact ⟨e2, h'⟩
              subst hk0 hc0
              go_wp2_with (at_builtin; go_must (refine wpList_append_own_none rfl _ _ 26 rfl wr.heap.size 5 i0 1 Try.underlying26 hi _ 1 _ rfl hown.out rfl ?_))
              go_wp2_with fail
              go_roundg gk'
              case measure => omega
              case rel =>
                have h2 := BySl.own (base := wr.heap.size) (bs := numB 1 N) (by rw [numB_length, hnb.out]; exact hown.out) (by rw [numB_length]; omega) hbb.out
                exact ⟨1, q / 256, some ⟨wr.heap.size, 0, none⟩, 1, rfl, by go_num, hq3, by omega, by omega, (World.cell?_alloc_past _ _ _ (by omega)).trans f0, (World.cell?_alloc_past _ _ _ (by omega)).trans f2, (World.cell?_alloc_past _ _ _ (by omega)).trans f3, hq2.out, by have h3 := h2.agree (Agree.refl _ _ _) (Nat.zero_le _) (Nat.le_refl _); exact h3, HI.out.2.2.1.trans (belT.out.mono (by omega)), by simp; omega⟩
            | some ad =>
              have hnl : Hid (((numB k N).map (Value.int .u8)).length = k * 1) := by rw [Hid, List.length_map, numB_length]; omega
              have hnews := hid (bytes_news HI.out.2.1 belT.out)
              have hone := hid (bytes_one (numB k N))
              go_wp2_with (at_builtin; go_must (refine wpList_append_own _ rfl _ _ 26 rfl wr.heap.size 5 i0 (.int .u8 0) 1 1 Try.underlying26 hi hz0 hz1 hz2 rfl (by decide) _ 1 _ rfl hown.out ad k c ((numB k N).map (Value.int .u8)) rfl hnl.out hnews.out hone.out (by unfold maxLen; omega) (by omega) (by simp) ?_))
              intro v2 w5 hown5 hgrow5 hnil5
              obtain ⟨a2, c2, rfl⟩ := ownsRow_form' hown5
              have HOWN5 := hid hown5
              have bel5 : Hid (Below wr.heap.size wr w5) := belT.out.grown hgrow5 (by simp) (fun r e => by simp only [Value.ownBlock, Option.some.injEq] at e; omega)
              clear hown5 hgrow5 hnil5 hnl hnews hone
              go_wp2_with fail
              go_roundg gk'
              case measure => omega
              case rel =>
                have h2 := BySl.own (base := wr.heap.size) (w := w5) (v := .slice a2 (1 + k) c2) (bs := numB (k + 1) N) (by rw [numB_length, hnb.out, Nat.add_comm k 1]; exact HOWN5.out) (by rw [numB_length]; omega) hbb.out
                have h3 := h2.agree (Agree.refl _ _ _) (Nat.zero_le _) (Nat.le_refl _)
                have h4 := bel5.out.size
                rw [Nat.add_comm 1 k] at h3
                exact ⟨k + 1, q / 256, a2, c2, by rw [Nat.add_comm 1 k], by go_num, hq3, by omega, by omega, (bel5.out.cell (p := ⟨w.heap.size, 0, none⟩) (by simp; omega)).trans f0, (bel5.out.cell (p := ⟨w.heap.size, 2, none⟩) (by simp; omega)).trans f2, (bel5.out.cell (p := ⟨w.heap.size, 3, none⟩) (by simp; omega)).trans f3, hq2.out, h3, HI.out.2.2.1.trans (bel5.out.mono (by omega)), by omega⟩
          · have hkK' : Hid (k = K) := by
              rw [Hid]
              apply Nat.le_antisymm hkK
              apply Nat.le_of_not_lt
              intro hlt
              obtain ⟨j, hj⟩ : ∃ j, K = j + 1 := ⟨K - 1, by omega⟩
              have h1 := HSP.out.2 j (by rw [HKK.out, hj])
              have h1' : 256 ^ j ≤ N := by exact_mod_cast h1
              have h2 : 256 ^ k ≤ N := Nat.le_trans (Nat.pow_le_pow_right (by omega) (by omega)) h1'
              have h3 := Nat.div_pos h2 (Nat.pow_pos (by omega))
              have h4 := HI.out.1
              omega
            have hq0 : q = 0 := by omega
            subst hq0
            have hlk := HKK.out
            by_cases hL1 : L1 = 0
            · by_cases hL2 : L2 = 0
              · subst hL1 hL2
                have HRB : Hid (rbodyC (fun k => rform n k (d - 1)) 1 (N : Int) bs ks d = some (numB K N)) := by
                  have e1 : bs = [] := List.length_eq_zero_iff.1 HL1.out
                  have e2 : ks = [] := List.length_eq_zero_iff.1 HL2.out
                  rw [Hid, rbodyC, if_pos rfl, if_neg (by simp [e1, e2]), HKK.out]
                clear hlk
                go_wp2_with fail
                go_meet
                exact ⟨k, numB K N, a, c, rfl, f0, by omega, by simp, by rw [numB_length, hkK'.out], HRB.out, by have h := HI.out.2.1; rw [hkK'.out] at h ⊢; exact h, HI.out.2.2.1⟩
              · have HR : Hid (R = none) := HNone.out (by rw [rbodyC, if_pos rfl, if_pos (.inr (fun e => by have := HL2.out; rw [e] at this; simp at this; omega))])
                have hkI : 0 < L2 := by omega
                subst hL1
                clear hlk
                go_wp2_with fail
                go_ret2
                exact ⟨.inl ⟨HR.out, rfl⟩, HI.out.2.2.1⟩
            · have HR : Hid (R = none) := HNone.out (by rw [rbodyC, if_pos rfl, if_pos (.inl (fun e => by have := HL1.out; rw [e] at this; simp at this; omega))])
              have hkI : 0 < L1 := by omega
              clear hlk
              go_wp2_with fail
              go_ret2
              exact ⟨.inl ⟨HR.out, rfl⟩, HI.out.2.2.1⟩
    · by_cases h2 : tag = 2
      · as_aux_lemma =>
          subst h2
          have hown := hid (World.ownsRow_nil W0 W0.heap.size 5 1)
          by_cases hn : num = 0
          case neg =>
            have HR : Hid (R = none) := HNone.out (by rw [rbodyC, if_neg (by omega), if_pos rfl, if_pos (.inl hn)])
            cases ab with
            | none =>
              obtain ⟨hl0, hb0, hc0⟩ : L1 = 0 ∧ bs = [] ∧ cb = 0 := by
                obtain ⟨a', c', e, _, _, h4, _⟩ := HB.out
                simp only [Value.slice.injEq] at e
                obtain ⟨rfl, e2, rfl⟩ := e
                obtain ⟨h, h'⟩ := h4 rfl
                subst h
                exact ⟨e2, rfl, h'⟩
              subst hl0 hb0 hc0
              go_wp2_with (at_builtin; go_must (refine wpList_append_own_none rfl _ _ 26 rfl W0.heap.size 5 i0 1 Try.underlying26 hi _ 0 _ rfl hown.out rfl ?_))
              go_wp2_with fail
              go_ret2
              exact ⟨.inl ⟨HR.out, rfl⟩, HW0.out⟩
            | some ad =>
              have hnl : Hid ((bs.map (Value.int .u8)).length = L1 * 1) := by rw [Hid, List.length_map, HL1.out]; omega
              have hnews := hid (bytes_news (HB.out.to (B := w.heap.size) (fun b h => by omega)) HW0.out)
              have hone := hid (bytes_one bs)
              go_wp2_with (at_builtin; go_must (refine wpList_append_own _ rfl _ _ 26 rfl W0.heap.size 5 i0 (.int .u8 0) 1 1 Try.underlying26 hi hz0 hz1 hz2 rfl (by decide) _ 0 _ rfl hown.out ad L1 cb (bs.map (Value.int .u8)) rfl hnl.out hnews.out hone.out (by unfold maxLen; omega) (by omega) (Nat.le_refl _) ?_))
              intro v2 w5 hown5 hgrow5 hnil5
              obtain ⟨a2, c2, rfl⟩ := ownsRow_form' hown5
              have HOWN5 := hid hown5
              have bel5 : Hid (Below w.heap.size w w5) := HW0.out.grown hgrow5 HW0.out.size (fun r e => by simp [Value.ownBlock] at e)
              have v0 := hgrow5.cell x0 (by simp [Value.ownBlock])
              have v1 := hgrow5.cell x1 (by simp [Value.ownBlock])
              have v3 := hgrow5.cell x3 (by simp [Value.ownBlock])
              clear hown5 hgrow5 hnil5 hnl hnews hone x0 x1 x2 x3
              go_wp2_with fail
              go_ret2
              exact ⟨.inl ⟨HR.out, rfl⟩, bel5.out⟩
          subst hn
          by_cases hk : L2 = 0
          case neg =>
            have hkn : Hid (ks ≠ []) := fun e => by have := HL2.out; rw [e] at this; simp at this; omega
            have hkI : 0 < L2 := by omega
            have HR : Hid (R = none) := HNone.out (by rw [rbodyC, if_neg (by omega), if_pos rfl, if_pos (.inr hkn.out)])
            cases ab with
            | none =>
              obtain ⟨hl0, hb0, hc0⟩ : L1 = 0 ∧ bs = [] ∧ cb = 0 := by
                obtain ⟨a', c', e, _, _, h4, _⟩ := HB.out
                simp only [Value.slice.injEq] at e
                obtain ⟨rfl, e2, rfl⟩ := e
                obtain ⟨h, h'⟩ := h4 rfl
                subst h
                exact ⟨e2, rfl, h'⟩
              subst hl0 hb0 hc0
              go_wp2_with (at_builtin; go_must (refine wpList_append_own_none rfl _ _ 26 rfl W0.heap.size 5 i0 1 Try.underlying26 hi _ 0 _ rfl hown.out rfl ?_))
              go_wp2_with fail
              go_ret2
              exact ⟨.inl ⟨HR.out, rfl⟩, HW0.out⟩
            | some ad =>
              have hnl : Hid ((bs.map (Value.int .u8)).length = L1 * 1) := by rw [Hid, List.length_map, HL1.out]; omega
              have hnews := hid (bytes_news (HB.out.to (B := w.heap.size) (fun b h => by omega)) HW0.out)
              have hone := hid (bytes_one bs)
              go_wp2_with (at_builtin; go_must (refine wpList_append_own _ rfl _ _ 26 rfl W0.heap.size 5 i0 (.int .u8 0) 1 1 Try.underlying26 hi hz0 hz1 hz2 rfl (by decide) _ 0 _ rfl hown.out ad L1 cb (bs.map (Value.int .u8)) rfl hnl.out hnews.out hone.out (by unfold maxLen; omega) (by omega) (Nat.le_refl _) ?_))
              intro v2 w5 hown5 hgrow5 hnil5
              obtain ⟨a2, c2, rfl⟩ := ownsRow_form' hown5
              have HOWN5 := hid hown5
              have bel5 : Hid (Below w.heap.size w w5) := HW0.out.grown hgrow5 HW0.out.size (fun r e => by simp [Value.ownBlock] at e)
              have v0 := hgrow5.cell x0 (by simp [Value.ownBlock])
              have v1 := hgrow5.cell x1 (by simp [Value.ownBlock])
              have v3 := hgrow5.cell x3 (by simp [Value.ownBlock])
              clear hown5 hgrow5 hnil5 hnl hnews hone x0 x1 x2 x3
              go_wp2_with fail
              go_ret2
              exact ⟨.inl ⟨HR.out, rfl⟩, bel5.out⟩
          subst hk
          have hkn : ks = [] := List.length_eq_zero_iff.1 HL2.out
          have HRB : Hid (rbodyC (fun k => rform n k (d - 1)) 2 0 bs ks d = some bs) := by rw [Hid, rbodyC, if_neg (by omega), if_pos rfl, if_neg (by simp [hkn])]
          clear hkn
          cases ab with
          | none =>
            obtain ⟨hl0, hb0, hc0⟩ : L1 = 0 ∧ bs = [] ∧ cb = 0 := by
              obtain ⟨a', c', e, _, _, h4, _⟩ := HB.out
              simp only [Value.slice.injEq] at e
              obtain ⟨rfl, e2, rfl⟩ := e
              obtain ⟨h, h'⟩ := h4 rfl
              subst h
              exact ⟨e2, rfl, h'⟩
            subst hl0 hb0 hc0
            go_wp2_with (at_builtin; go_must (refine wpList_append_own_none rfl _ _ 26 rfl W0.heap.size 5 i0 1 Try.underlying26 hi _ 0 _ rfl hown.out rfl ?_))
            go_wp2_with fail
            go_meet
            exact ⟨0, [], none, 0, rfl, x0, Nat.zero_le _, by simp, rfl, HRB.out, BySl.none _ _ _, HW0.out⟩
          | some ad =>
            have hnl : Hid ((bs.map (Value.int .u8)).length = L1 * 1) := by rw [Hid, List.length_map, HL1.out]; omega
            have hnews := hid (bytes_news (HB.out.to (B := w.heap.size) (fun b h => by omega)) HW0.out)
            have hone := hid (bytes_one bs)
            go_wp2_with (at_builtin; go_must (refine wpList_append_own _ rfl _ _ 26 rfl W0.heap.size 5 i0 (.int .u8 0) 1 1 Try.underlying26 hi hz0 hz1 hz2 rfl (by decide) _ 0 _ rfl hown.out ad L1 cb (bs.map (Value.int .u8)) rfl hnl.out hnews.out hone.out (by unfold maxLen; omega) (by omega) (Nat.le_refl _) ?_))
            intro v2 w5 hown5 hgrow5 hnil5
            obtain ⟨a2, c2, rfl⟩ := ownsRow_form' hown5
            have HOWN5 := hid hown5
            have bel5 : Hid (Below w.heap.size w w5) := HW0.out.grown hgrow5 HW0.out.size (fun r e => by simp [Value.ownBlock] at e)
            have v0 := hgrow5.cell x0 (by simp [Value.ownBlock])
            have v1 := hgrow5.cell x1 (by simp [Value.ownBlock])
            have v3 := hgrow5.cell x3 (by simp [Value.ownBlock])
            clear hown5 hgrow5 hnil5 hnl hnews hone x0 x1 x2 x3
            go_wp2_with fail
            go_meet
            exact ⟨L1, bs, a2, c2, rfl, v0, hbl, by simp, HL1.out, HRB.out, (BySl.own (by rw [HL1.out]; exact HOWN5.out) (by rw [HL1.out]; exact hbl) HBB.out).agree (Agree.refl _ _ _) (Nat.zero_le _) (Nat.le_refl _), bel5.out⟩
      · by_cases h3 : tag = 3
        · as_aux_lemma =>
            subst h3
            by_cases hn : num = 0
            case neg =>
              have HR : Hid (R = none) := HNone.out (by rw [rbodyC, if_neg (by omega), if_neg (by omega), if_pos rfl, if_pos (.inl hn)])
              go_wp2_with fail
              go_ret2
              exact ⟨.inl ⟨HR.out, rfl⟩, HW0.out⟩
            subst hn
            by_cases hL1 : L1 = 0
            case neg =>
              have HR : Hid (R = none) := HNone.out (by rw [rbodyC, if_neg (by omega), if_neg (by omega), if_pos rfl, if_pos (.inr (.inl (fun e => by have := HL1.out; rw [e] at this; simp at this; omega)))])
              have hkI : 0 < L1 := by omega
              go_wp2_with fail
              go_ret2
              exact ⟨.inl ⟨HR.out, rfl⟩, HW0.out⟩
            subst hL1
            by_cases hd0 : d = 0
            case pos =>
              have HR : Hid (R = none) := HNone.out (by rw [rbodyC, if_neg (by omega), if_neg (by omega), if_pos rfl, if_pos (.inr (.inr hd0))])
              have hdb : ((d : Int) == 0) = true := by simp; omega
              go_wp2_with fail
              go_ret2
              exact ⟨.inl ⟨HR.out, rfl⟩, HW0.out⟩
            have hdb : ((d : Int) == 0) = false := by simp; omega
            obtain ⟨d', HD⟩ : ∃ d', Hid (d = d' + 1) := ⟨d - 1, by rw [Hid]; omega⟩
            have hdw : IntKind.i64.wrap ((d : Int) - 1) = d' := by have := HD.out; rw [IntKind.wrap_i64]; omega
            have hd8 : d' ≤ 8 := by have := HD.out; omega
            obtain ⟨RB, hRB⟩ : ∃ RB, rbodyC (fun k => rform n k (d - 1)) 3 0 bs ks d = RB := ⟨_, rfl⟩
            have HRL : Hid (rformL (fun k => rform n k d') [] ks = RB) := by
              have e : bs = [] := List.length_eq_zero_iff.1 HL1.out
              rw [Hid, ← hRB, rbodyC, if_neg (by omega), if_neg (by omega), if_pos rfl, if_neg (by simp [e, hd0]), HD.out, Nat.add_sub_cancel]
            have HRB := hid hRB
            rw [hRB] at HNone
            have hown0 := hid (World.ownsRow_nil W0 (w.heap.size + 1) 5 1)
            clear hRB hd0 HSome
            go_wp2_with fail
            go_loopw [6, 8] (fun s6 s8 wr => ∃ (i M : Nat) (a : Option Addr) (c : Nat) (acc : List Int), s6 = .slice a M c ∧ s8 = .int .i64 i ∧ i ≤ L2 ∧ M ≤ 140000 ∧ wr.cell? ⟨w.heap.size, 0, none⟩ = some (.int .i64 3) ∧ wr.cell? ⟨w.heap.size, 3, none⟩ = some (.slice ak L2 ck) ∧
              Hid (acc.length = M ∧ rformL (fun k => rform n k d') acc (ks.drop i) = RB ∧ wr.ownsRow (w.heap.size + 1) 5 1 (.slice a M c) M (acc.map (Value.int .u8)) ∧ (∀ x ∈ acc, 0 ≤ x ∧ x ≤ 255) ∧ Below w.heap.size w wr ∧ w.heap.size + 1 ≤ wr.heap.size)) (fun _ s8 _ => L2 - (intOf s8).toNat)
            case atStart => exact ⟨0, 0, none, 0, [], rfl, rfl, Nat.zero_le _, Nat.zero_le _, x0, x3, rfl, HRL.out, hown0.out, by simp, HW0.out, Nat.le_of_eq HZ0.out.symm⟩
            case round =>
              obtain ⟨i, M, a, c, acc, rfl, rfl, hiL, hM, f0, f3, HI⟩ := hrel
              clear x0 x1 x2 x3
              have hws := HI.out.2.2.2.2.2
              have hbelw := hid HI.out.2.2.2.2.1
              by_cases hlt : i < L2
              · have hlt' : i < ks.length := by rw [HL2.out]; exact hlt
                obtain ⟨_, _, ea, _, _, _, _, h7⟩ := HK.out
                simp only [Value.slice.injEq] at ea
                obtain ⟨rfl, hx, rfl⟩ := ea
                clear hx
                obtain ⟨b, o, rfl, hSb, hc⟩ := h7 (by intro e; subst e; simp at hlt')
                obtain ⟨sb, sk, c0, c1, c2, c3, hrep⟩ := hc i ks[i] (List.getElem?_eq_getElem hlt')
                clear hc h7
                obtain ⟨a1, l1, q1, a2, l2, q2, rfl, rfl⟩ := hrep.sl
                have hbw : b < w.heap.size := by omega
                have hR := hid (hrep.agree (AgreeS.below hbelw.out (fun b hb => by omega)) (fun _ h => h))
                clear hrep
                have d0 := (hbelw.out.cell (p := ⟨b, o + i * 4, none⟩) hbw).trans c0
                have d1 := (hbelw.out.cell (p := ⟨b, o + i * 4 + 1, none⟩) hbw).trans c1
                have d2 := (hbelw.out.cell (p := ⟨b, o + i * 4 + 2, none⟩) hbw).trans c2
                have d3 := (hbelw.out.cell (p := ⟨b, o + i * 4 + 3, none⟩) hbw).trans c3
                clear c0 c1 c2 c3
                have hdrop : Hid (ks.drop i = ks[i] :: ks.drop (i + 1)) := List.drop_eq_getElem_cons hlt'
                generalize ks[i] = t1 at *
                have hiI0 : (0 : Int) ≤ (i : Int) := by omega
                have hiI1 : (i : Int) < (L2 : Int) := by omega
                go_wp2_with fail
                refine (IH.out B0 t1 d' _ _ wr (by omega) hR.out hd8).mono ?_
                rintro e w2 ⟨hres, hb2⟩
                have HB2 := hid hb2
                have hs2 := hb2.size
                have F0 := (hb2.cell (p := ⟨w.heap.size, 0, none⟩) (by show w.heap.size < wr.heap.size; omega)).trans f0
                have F3 := (hb2.cell (p := ⟨w.heap.size, 3, none⟩) (by show w.heap.size < wr.heap.size; omega)).trans f3
                clear hb2 d0 d1 d2 d3 f0 f3
                have belw2 : Hid (Below w.heap.size w w2) := hbelw.out.trans (HB2.out.mono (by omega))
                rcases hres with ⟨hn, rfl⟩ | ⟨r, ar, cr, hs, rfl, hr⟩
                · have HR : Hid (R = none) := HNone.out (by rw [← HI.out.2.1, hdrop.out, rformL, hn])
                  clear hn
                  go_wp2_with fail
                  go_ret2
                  exact ⟨.inl ⟨HR.out, rfl⟩, belw2.out⟩
                obtain ⟨hr0, hr1⟩ := rform_len hs
                obtain ⟨Q, hQ⟩ : ∃ Q, r.length = Q := ⟨_, rfl⟩
                have HQ := hid hQ
                have HSS := hid hs
                have HRR := hid hr
                rw [hQ] at hr0 hr1 HRR ⊢
                clear hQ hs hr
                by_cases h65 : 65535 < M
                · have HR : Hid (R = none) := HNone.out (by rw [← HI.out.2.1, hdrop.out, rformL, HSS.out]; simp only; rw [if_pos (by rw [HI.out.1]; exact h65)])
                  have hq : decide ((65535 : Int) < M) = true := by simp; omega
                  go_wp2_with fail
                  go_ret2
                  exact ⟨.inl ⟨HR.out, rfl⟩, belw2.out⟩
                have hq : decide ((65535 : Int) < M) = false := by simp; omega
                obtain ⟨ad, rfl⟩ : ∃ ad, ar = some ad := by
                  cases ar with
                  | some ad => exact ⟨ad, rfl⟩
                  | none =>
                    obtain ⟨a', c', e, _, _, h4, _⟩ := HRR.out
                    simp only [Value.slice.injEq] at e
                    obtain ⟨e1, _, _⟩ := e
                    obtain ⟨h, _⟩ := h4 e1.symm
                    have := HQ.out
                    rw [h] at this
                    simp at this
                    omega
                have hown := hid (ownsRow_agree HI.out.2.2.1 (Agree.below HB2.out))
                have ltA := hid hown.out.lt
                have hnl : Hid ((r.map (Value.int .u8)).length = Q * 1) := by rw [Hid, List.length_map, HQ.out]; omega
                have hnews := hid (bytes_news HRR.out (Below.refl _ _))
                have hone := hid (bytes_one r)
                go_wp2_with (at_builtin; go_must (refine wpList_append_own _ rfl _ _ 26 rfl (w.heap.size + 1) 5 i0 (.int .u8 0) 1 1 Try.underlying26 hi hz0 hz1 hz2 rfl (by decide) _ M _ rfl hown.out ad Q cr (r.map (Value.int .u8)) rfl hnl.out hnews.out hone.out (by unfold maxLen; omega) (by omega) (by omega) ?_))
                intro v2 w5 hown5 hgrow5 hnil5
                obtain ⟨a5, c5, rfl⟩ := ownsRow_form' hown5
                have HOWN5 := hid hown5
                have hs5 := hgrow5.size
                have bel5 : Hid (Below (w.heap.size + 1) w2 w5) := (Below.refl _ _).grown hgrow5 (by omega) (fun r e => (ltA.out r e).1)
                have G0 := (bel5.out.cell (p := ⟨w.heap.size, 0, none⟩) (by simp)).trans F0
                have G3 := (bel5.out.cell (p := ⟨w.heap.size, 3, none⟩) (by simp)).trans F3
                clear hown5 hgrow5 hnil5 hnl hnews hone F0 F3 hown
                go_wp2_with fail
                go_roundw
                case rel =>
                  refine ⟨i + 1, M + Q, a5, c5, acc ++ r, rfl, by go_num, by omega, by omega, G0, G3, by rw [List.length_append, HI.out.1, HQ.out], ?_, by rw [List.map_append]; exact HOWN5.out, ?_, belw2.out.trans (bel5.out.mono (by omega)), by omega⟩
                  · have h := HI.out.2.1
                    rw [hdrop.out, rformL, HSS.out] at h
                    simp only at h
                    rw [if_neg (by rw [HI.out.1]; omega)] at h
                    exact h
                  · intro x hx
                    rcases List.mem_append.1 hx with hx | hx
                    · exact HI.out.2.2.2.1 x hx
                    · exact HRR.out.bytes x hx
                case measure => simp [intOf]; omega
              · have hi2 : i = L2 := by omega
                have HRBs : Hid (rbodyC (fun k => rform n k (d - 1)) 3 0 bs ks d = some acc) := by
                  have h := HI.out.2.1
                  rw [List.drop_of_length_le (by rw [HL2.out]; omega), rformL] at h
                  rw [Hid, HRB.out, ← h]
                have hiI1 : ¬ (i : Int) < (L2 : Int) := by omega
                have HBY : Hid (BySl 0 wr.heap.size wr (.slice a M c) acc) := by
                  have h2 := BySl.own (base := w.heap.size + 1) (w := wr) (v := .slice a M c) (bs := acc) (by rw [HI.out.1]; exact HI.out.2.2.1) (by rw [HI.out.1]; omega) HI.out.2.2.2.1
                  exact h2.agree (Agree.refl _ _ _) (Nat.zero_le _) (Nat.le_refl _)
                clear hi2
                go_wp2_with fail
                go_meet
                exact ⟨M, acc, a, c, rfl, f0, by omega, by simp, HI.out.1, HRBs.out, HBY.out, hbelw.out⟩
        · have HR : Hid (R = none) := HNone.out (by rw [rbodyC, if_neg h1, if_neg h2, if_neg h3])
          go_wp2_with fail
          go_ret2
          exact ⟨.inl ⟨HR.out, rfl⟩, HW0.out⟩
  case rest =>
    obtain ⟨M, body, a, c, rfl, y0, hM, htag, HC⟩ := hcut
    as_aux_lemma =>
      by_cases hlt : 65535 < M
      · have hq : decide ((65535 : Int) < M) = true := by simp; omega
        have HR : Hid (R = none) := by rw [Hid, HSome.out _ HC.out.2.1, HC.out.1, if_pos hlt]
        go_wp2_with fail
        go_ret2
        exact ⟨.inl ⟨HR.out, rfl⟩, HC.out.2.2.2⟩
      · have hq : decide ((65535 : Int) < M) = false := by simp; omega
        have HR : Hid (R = some (tag :: ((M : Int) / 256) :: ((M : Int) % 256) :: body)) := by rw [Hid, HSome.out _ HC.out.2.1, HC.out.1, if_neg hlt]
        have hlen : Hid ((tag :: ((M : Int) / 256) :: ((M : Int) % 256) :: body).length = 3 + M) := by rw [Hid]; simp only [List.length_cons, HC.out.1]; omega
        have hown := hid (ownsRow_lit wc [.int .u8 tag, .int .u8 ((M : Int) / 256), .int .u8 ((M : Int) % 256)] wc.heap.size (Nat.le_refl _) (by unfold maxLen; simp))
        have hbytes : Hid (∀ x ∈ (tag :: ((M : Int) / 256) :: ((M : Int) % 256) :: body), 0 ≤ x ∧ x ≤ 255) := by
          intro x hx
          simp only [List.mem_cons] at hx
          rcases hx with rfl | rfl | rfl | hx
          · omega
          · omega
          · omega
          · exact HC.out.2.2.1.bytes x hx
        have belT : Hid (Below wc.heap.size wc (wc.alloc (Obj.cells #[Value.int IntKind.u8 tag, Value.int IntKind.u8 ((M : Int) / 256), Value.int IntKind.u8 ((M : Int) % 256)] 5))) := (Below.refl _ _).alloc (Nat.le_refl _) _
        have HBC := hid HC.out.2.2.2
        cases a with
        | none =>
          obtain ⟨hM0, hb0, hc0⟩ : M = 0 ∧ body = [] ∧ c = 0 := by
            obtain ⟨a', c', e, _, _, h4, _⟩ := HC.out.2.2.1
            simp only [Value.slice.injEq] at e
            obtain ⟨rfl, e2, rfl⟩ := e
            obtain ⟨h, h'⟩ := h4 rfl
            subst h
            exact ⟨e2, rfl, h'⟩
          subst hM0 hb0 hc0
          go_wp2_with (at_builtin; go_must (refine wpList_append_own_none rfl _ _ 26 rfl wc.heap.size 5 i0 1 Try.underlying26 hi _ 3 _ rfl hown.out rfl ?_))
          go_wp2_with fail
          go_ret2
          refine ⟨.inr ⟨_, some ⟨wc.heap.size, 0, none⟩, 3, HR.out, rfl, ?_⟩, HBC.out.trans (belT.out.mono HBC.out.size)⟩
          have h2 := BySl.own (base := wc.heap.size) (bs := tag :: (((0 : Nat) : Int) / 256) :: (((0 : Nat) : Int) % 256) :: []) hown.out (by simp) hbytes.out
          exact h2.agree (Agree.refl _ _ _) (Nat.zero_le _) (Nat.le_refl _)
        | some ad =>
          have hnl : Hid ((body.map (Value.int .u8)).length = M * 1) := by rw [Hid, List.length_map, HC.out.1]; omega
          have hnews := hid (bytes_news HC.out.2.2.1 belT.out)
          have hone := hid (bytes_one body)
          go_wp2_with (at_builtin; go_must (refine wpList_append_own _ rfl _ _ 26 rfl wc.heap.size 5 i0 (.int .u8 0) 1 1 Try.underlying26 hi hz0 hz1 hz2 rfl (by decide) _ 3 _ rfl hown.out ad M c (body.map (Value.int .u8)) rfl hnl.out hnews.out hone.out (by unfold maxLen; omega) (by omega) (by simp) ?_))
          intro v2 w5 hown5 hgrow5 hnil5
          obtain ⟨a2, c2, rfl⟩ := ownsRow_form' hown5
          have HOWN5 := hid hown5
          have bel5 : Hid (Below wc.heap.size wc w5) := belT.out.grown hgrow5 (by simp) (fun r e => by simp only [Value.ownBlock, Option.some.injEq] at e; omega)
          clear hown5 hgrow5 hnil5 hnl hnews hone
          go_wp2_with fail
          go_ret2
          refine ⟨.inr ⟨_, a2, c2, HR.out, by rw [hlen.out]; rfl, ?_⟩, HBC.out.trans (bel5.out.mono HBC.out.size)⟩
          rw [hlen.out]
          have h2 := BySl.own (base := wc.heap.size) (w := w5) (v := .slice a2 (3 + M) c2) (bs := tag :: ((M : Int) / 256) :: ((M : Int) % 256) :: body) (by rw [hlen.out]; exact HOWN5.out) (by rw [hlen.out]; omega) hbytes.out
          exact h2.agree (Agree.refl _ _ _) (Nat.zero_le _) (Nat.le_refl _)

theorem form_any : ∀ n, FormOk n
  | 0 => fun _ t => by cases t
  | n + 1 => form_step n (form_any n)

end Go.Proofs.Ytenfahecnkdhaaa.Tlv
end

section
/-
  What the document makes of values: objects; chunks; are an object and its fault the same?
-/
namespace Go.Proofs.Ytenfahecnkdhaaa.Nd
open Go.RowKit
open Tlv (Tr Agree RepS)
open Sim (hid Kp No)
set_option linter.unusedSimpArgs false

/-- An object that has been put, or none. -/
def Put1 (OK : Prop) (K : Int) (F : List Int) (w : World) (e : Ending) : Prop :=
  ∃ k a n c f bs, e = .returned (.tuple #[.agg #[.int .i64 k, .slice a n c], .int .i64 f]) ∧ Tlv.BySl 0 w.heap.size w (.slice a n c) bs ∧ ((OK ∧ k = K ∧ f = 0 ∧ bs = F) ∨ (¬ OK ∧ k = 0 ∧ f = 1 ∧ bs = []))
theorem put1_no {OK : Prop} {K : Int} {F : List Int} {w : World} (h : ¬ OK) : Put1 OK K F w (.returned (.tuple #[.agg #[.int .i64 0, .slice none 0 0], .int .i64 1])) :=
  ⟨0, none, 0, 0, 1, [], rfl, Tlv.BySl.none _ _ _, .inr ⟨h, rfl, rfl, rfl⟩⟩
theorem put1_yes {OK : Prop} {K : Int} {F : List Int} {w : World} {a : Option Addr} {n c : Nat} (h : OK) (_ : F.length = n) (hy : Tlv.BySl 0 w.heap.size w (.slice a n c) F) : Put1 OK K F w (.returned (.tuple #[.agg #[.int .i64 K, .slice a n c], .int .i64 0])) :=
  ⟨K, a, n, c, 0, F, rfl, hy, .inl ⟨h, rfl, rfl, rfl⟩⟩
theorem bySl_ne {w w' : World} {v : Value} {F : List Int} {b : Nat} (h : Tlv.BySl 0 w.heap.size w v F) (hb : ∀ o x, w.cell? ⟨b, o, none⟩ ≠ some (.int .u8 x)) (k : Kp (· = b) w w') : Tlv.BySl 0 w'.heap.size w' v F := by
  obtain ⟨a, c, e, h2, h3, h4, h5, h6, h7⟩ := h
  refine ⟨a, c, e, h2, h3, h4, h5, h6, fun hne => ?_⟩
  obtain ⟨g, o, e1, _, hg, hc⟩ := h7 hne
  refine ⟨g, o, e1, Nat.zero_le _, Nat.lt_of_lt_of_le hg k.size, fun i hi => ?_⟩
  have hgb : ¬ g = b := fun e => by
    subst e
    exact hb _ _ (hc i hi)
  rw [k.cell (p := ⟨g, o + i, none⟩) hg hgb]
  exact hc i hi

set_option maxHeartbeats 2000000 in
theorem rPut_any {n : Nat} (t : Tr n) (sb sk : Value) (w : World) (h : RepS (fun b => b < w.heap.size) w n t sb sk) (hz : Tlv.szT n t ≠ 0) :
    Calls Try.prog 68 #[.agg #[.int .i64 t.hd.1, .int .u64 t.hd.2.1, sb, sk]] w fun e w' => ∃ a c, e = .returned (.tuple #[.slice a (Tlv.formOf n t).length c, .int .i64 0]) ∧ Tlv.BySl 0 w'.heap.size w' (.slice a (Tlv.formOf n t).length c) (Tlv.formOf n t) ∧ Below w.heap.size w w' := by
  obtain ⟨a1, l1, p1, a2, l2, p2, rfl, rfl⟩ := h.sl
  have HRF : Hid (Tlv.rform n t 8 = some (Tlv.formOf n t)) := by
    have h1 := Tlv.szT_right hz
    rw [Hid, Tlv.rform_eq]
    exact if_pos h1
  have HB0 : Hid (Below w.heap.size w (w.alloc (.cells #[.int .i64 t.hd.1, .int .u64 t.hd.2.1, .slice a1 l1 p1, .slice a2 l2 p2] 86))) := (Below.refl _ _).alloc (Nat.le_refl _) _
  have HF := hid (Tlv.form_any n w.heap.size t 8 _ _ (w.alloc (.cells #[.int .i64 t.hd.1, .int .u64 t.hd.2.1, .slice a1 l1 p1, .slice a2 l2 p2] 86)) (by simp) (h.agree (fun b hb => Below.heap_alloc _ _ _ hb) (fun _ h => h)) (by omega))
  generalize t.hd.1 = tg at *
  generalize t.hd.2.1 = nm at *
  clear h hz
  go_enter Try.func68, Try.ntmps68
  go_wp2_with fail
  refine HF.out.mono ?_
  rintro e w1 ⟨hres, hb1⟩
  have HB1 := hid (HB0.out.trans (hb1.mono HB0.out.size))
  clear hb1
  rcases hres with ⟨hn, _⟩ | ⟨r, a, c, hr, rfl, hy⟩
  · rw [HRF.out] at hn
    cases hn
  · rw [HRF.out] at hr
    cases hr
    have HY := hid hy
    clear hy HF
    obtain ⟨m, hm⟩ : ∃ m, (Tlv.formOf n t).length = m := ⟨_, rfl⟩
    have HM := hid hm
    rw [hm] at HY ⊢
    clear hm
    go_wp2_with fail
    go_ret2
    exact ⟨a, c, by rw [HM.out]; rfl, by rw [HM.out]; exact HY.out, HB1.out⟩

set_option maxHeartbeats 1000000 in
theorem right12_any (w : World) (K : Int) (hK : 1 ≤ K ∧ K ≤ 9) (x : Option Addr) (n c : Nat) :
    Calls Try.prog 69 #[.agg #[.int .i64 K, .slice x n c]] w fun e w' => e = .returned (.bool (decide ((n : Int) ≤ 5000))) ∧ Kp No w w' := by
  have h1 : decide (1 ≤ K) = true := by simpa using hK.1
  have h2 : decide (K ≤ 9) = true := by simpa using hK.2
  obtain ⟨h3, h4⟩ := hK
  have HK : Hid (Kp No w (w.alloc (.cells #[.int .i64 K, .slice x n c] 29))) := (Kp.refl No w).alloc _
  go_enter Try.func69, Try.ntmps69
  go_wp2
  go_ret
  exact ⟨by simp, HK.out⟩

set_option maxHeartbeats 4000000 in
set_option maxRecDepth 100000 in
theorem rObject_any (w : World) (K : Int) (hK : 1 ≤ K ∧ K ≤ 9) (t : Tr 3) (sb sk : Value) (h : RepS (fun b => b < w.heap.size) w 3 t sb sk) (hz : Tlv.szT 3 t ≠ 0) :
    Calls Try.prog 43 #[.int .i64 K, .agg #[.int .i64 t.hd.1, .int .u64 t.hd.2.1, sb, sk]] w fun e w' => Put1 (objP t) K (Tlv.formOf 3 t) w' e ∧ Below w.heap.size w w' := by
  obtain ⟨a1, l1, p1, a2, l2, p2, rfl, rfl⟩ := h.sl
  obtain ⟨W0, hW0⟩ : ∃ W, (w.alloc (.cells #[.int .i64 t.hd.1, .int .u64 t.hd.2.1, .slice a1 l1 p1, .slice a2 l2 p2] 86)).alloc (.cells #[.int .i64 0, .slice none 0 0] 29) = W := ⟨_, rfl⟩
  have HB0 : Hid (Below w.heap.size w W0) := by rw [Hid, ← hW0]; exact ((Below.refl _ _).alloc (Nat.le_refl _) _).alloc (by simp) _
  have HP := hid (rPut_any t _ _ W0 (h.agree (fun b hb => HB0.out.block b hb) (fun _ hb => Nat.lt_of_lt_of_le hb HB0.out.size)) hz)
  have HZ : Hid (W0.heap.size = w.heap.size + 2) := by rw [Hid, ← hW0]; simp
  have HX : Hid (∀ V, Below W0.heap.size W0 V → V.cell? ⟨w.heap.size + 1, 0, none⟩ = some (.int .i64 0) ∧ V.cell? ⟨w.heap.size + 1, 1, none⟩ = some (.slice none 0 0) ∧ (∀ o, V.frozen? ⟨w.heap.size + 1, o, none⟩ = false) ∧ w.heap.size + 1 < V.heap.size ∧ ∀ o x, V.cell? ⟨w.heap.size + 1, o, none⟩ ≠ some (.int .u8 x)) := fun V hV => by
    have hs := hV.size
    have hz := HZ.out
    refine ⟨?_, ?_, fun o => ?_, by omega, fun o x => ?_⟩
    · rw [hV.cell (p := ⟨w.heap.size + 1, 0, none⟩) (by show w.heap.size + 1 < _; omega), ← hW0]; simp [go_sem]
    · rw [hV.cell (p := ⟨w.heap.size + 1, 1, none⟩) (by show w.heap.size + 1 < _; omega), ← hW0]; simp [go_sem]
    · rw [hV.frozen (p := ⟨w.heap.size + 1, o, none⟩) (by show w.heap.size + 1 < _; omega), ← hW0]; simp [go_sem]
    · rw [hV.cell (p := ⟨w.heap.size + 1, o, none⟩) (by show w.heap.size + 1 < _; omega), ← hW0, World.cell?_alloc_at _ _ _ _ (by simp)]
      match o with
      | 0 => simp
      | 1 => simp
      | o + 2 => simp
  have hx : W0.cell? ⟨w.heap.size, 0, none⟩ = some (.int .i64 t.hd.1) ∧ W0.cell? ⟨w.heap.size, 1, none⟩ = some (.int .u64 t.hd.2.1) ∧ W0.cell? ⟨w.heap.size, 2, none⟩ = some (.slice a1 l1 p1) ∧ W0.cell? ⟨w.heap.size, 3, none⟩ = some (.slice a2 l2 p2) := by rw [← hW0]; simp [go_sem]
  generalize t.hd.1 = tg at *
  generalize t.hd.2.1 = nm at *
  clear h
  obtain ⟨x0, x1, x2, x3⟩ := hx
  go_enter Try.func43, Try.ntmps43
  go_wp2_with fail
  refine HP.out.mono ?_
  rintro e w1 ⟨a, c, rfl, hy, hb1⟩
  clear x0 x1 x2 x3 hW0 HP
  obtain ⟨F, hF⟩ : ∃ F, Tlv.formOf 3 t = F := ⟨_, rfl⟩
  have HOB : Hid (objP t ↔ F.length ≤ 5000) := by rw [Hid, objP, hF]; exact ⟨fun h => h.2, fun h => ⟨hz, h⟩⟩
  have HFF := hid hF
  rw [hF] at hy ⊢
  clear hF hz
  obtain ⟨m, hm⟩ : ∃ m, F.length = m := ⟨_, rfl⟩
  have HM := hid hm
  rw [hm] at hy HOB ⊢
  clear hm
  obtain ⟨W1, hW1⟩ : ∃ W, w1.alloc (.cells #[.int .i64 K, .slice a m c] 29) = W := ⟨_, rfl⟩
  have HK1 : Hid (Below W0.heap.size W0 W1) := by rw [Hid, ← hW1]; exact hb1.alloc hb1.size _
  have HY1 : Hid (∀ V, Kp No W1 V → V.cell? ⟨w1.heap.size, 0, none⟩ = some (.int .i64 K) ∧ V.cell? ⟨w1.heap.size, 1, none⟩ = some (.slice a m c) ∧ Tlv.BySl 0 V.heap.size V (.slice a m c) F) := fun V hV => by
    have hs := hV.size
    have hz : W1.heap.size = w1.heap.size + 1 := by rw [← hW1]; simp
    have e : ∀ o, V.cell? ⟨w1.heap.size, o, none⟩ = W1.cell? ⟨w1.heap.size, o, none⟩ := fun o => hV.cell (p := ⟨w1.heap.size, o, none⟩) (by show w1.heap.size < _; omega) (fun x => x)
    have hbb : Below w1.heap.size w1 W1 := by rw [← hW1]; exact (Below.refl _ w1).alloc (Nat.le_refl _) _
    rw [e, e]
    refine ⟨by rw [← hW1]; simp, by rw [← hW1]; simp, hy.agree (Agree.below (hbb.trans (hV.toBelow'.mono hbb.size))) (Nat.le_refl _) (by omega)⟩
  have HRT := hid (right12_any W1 K hK a m c)
  obtain ⟨y0, y1, _⟩ := HY1.out W1 (Kp.refl _ _)
  clear hy hb1 hK
  go_wp2_with fail
  refine HRT.out.mono ?_
  rintro e w2 ⟨he, k2⟩
  have HK2 := hid k2
  obtain ⟨z0, z1, _⟩ := HY1.out w2 k2
  have HB2 : Hid (Below W0.heap.size W0 w2) := HK1.out.trans (k2.toBelow'.mono HK1.out.size)
  obtain ⟨g0, g1, gf, hg2, hgn⟩ := HX.out w2 HB2.out
  have HGN := hid hgn
  clear hgn
  have HBW : Hid (Below w.heap.size w w2) := HB0.out.trans (HB2.out.mono HB0.out.size)
  clear k2 y0 y1 hW1 HRT
  by_cases hl : (m : Int) ≤ 5000
  · have hd : decide ((m : Int) ≤ 5000) = true := by simpa using hl
    rw [hd] at he
    subst he
    have HOY : Hid (objP t) := HOB.out.2 (by omega)
    clear hd hl
    go_wp2_with fail
    obtain ⟨q0, q1⟩ := set2_read (u0 := .int .i64 K) (u1 := .slice a m c) g0 g1
    refine bodyPost_ret (v := .tuple #[.agg #[.int .i64 K, .slice a m c], .int .i64 0]) (by simp [results, Try.results43, go_sem, q0, q1]) rfl ⟨(by rw [HFF.out]; refine put1_yes HOY.out HM.out ?_; exact bySl_ne (HY1.out w2 HK2.out).2.2 HGN.out (((Kp.refl (· = w.heap.size + 1) _).setCell (p := ⟨w.heap.size + 1, 0, none⟩) (.inl rfl) _).setCell (p := ⟨w.heap.size + 1, 1, none⟩) (.inl rfl) _)), ?_⟩
    exact (HBW.out.setCell (by simp) _).setCell (by simp) _
  · have hd : decide ((m : Int) ≤ 5000) = false := by simpa using hl
    rw [hd] at he
    subst he
    have HON : Hid (¬ objP t) := fun h => by have := HOB.out.1 h; omega
    clear hd hl
    go_wp2_with fail
    obtain ⟨q0, q1⟩ := set2_read (u0 := .int .i64 0) (u1 := .slice none 0 0) g0 g1
    refine bodyPost_ret (v := .tuple #[.agg #[.int .i64 0, .slice none 0 0], .int .i64 1]) (by simp [results, Try.results43, go_sem, q0, q1]) rfl ⟨put1_no HON.out, ?_⟩
    exact (HBW.out.setCell (by simp) _).setCell (by simp) _
end Go.Proofs.Ytenfahecnkdhaaa.Nd
end

section
/-
  PutFile, of the document.
-/
namespace Go.Proofs.Ytenfahecnkdhaaa.Nd
open Go.RowKit
open Tlv (Tr Agree AgreeS BInv RepS BySlS KSlS)
open Sim (hid Kp No)
set_option linter.unusedSimpArgs false

theorem repS_bytes {S : Nat → Prop} {w : World} {n : Nat} {v : Value} {bs : List Int} (h : BySlS S w v bs) : RepS S w (n + 1) (Tr.mk 2 0 bs []) v (.slice none 0 0) :=
  ⟨Int.le_refl _, by simp [Tr.mk, Tlv.Tr.hd], h, KSlS.none _ _ _⟩
theorem repS_num {S : Nat → Prop} {w : World} {n : Nat} {q : Int} (h : 0 ≤ q ∧ q ≤ 18446744073709551615) : RepS S w (n + 1) (Tr.mk 1 q [] []) (.slice none 0 0) (.slice none 0 0) :=
  ⟨h.1, h.2, BySlS.none _ _, KSlS.none _ _ _⟩
theorem repS_list {S : Nat → Prop} {w : World} {n : Nat} {v : Value} {ks : List (Tr n)} (h : KSlS S w (RepS S w n) v ks) : RepS S w (n + 1) (Tr.mk 3 0 [] ks) (.slice none 0 0) v :=
  ⟨Int.le_refl _, by simp [Tr.mk, Tlv.Tr.hd], BySlS.none _ _, h⟩
theorem kslS_lift {n : Nat} {S S' : Nat → Prop} {w w' : World} {v : Value} {ks : List (Tr n)} (h : KSlS S w (RepS S w n) v ks) (hw : AgreeS S w w') (hS : ∀ b, S b → S' b) : KSlS S' w' (RepS S' w' n) v ks :=
  h.agree (fun _ _ _ r => r.agree hw hS) hw hS
/-- Two values in a row. -/
theorem twoInS {w : World} (q : Int) (ks : List (Tr 1)) (vk : Value) (h0 : 0 ≤ q ∧ q ≤ 18446744073709551615) (bk : KSlS (fun b => b < w.heap.size) w (RepS (fun b => b < w.heap.size) w 1) vk ks) (ty : TypeId) (C : Array Value)
    (hC : C = #[.int .i64 1, .int .u64 q, .slice none 0 0, .slice none 0 0, .int .i64 3, .int .u64 0, .slice none 0 0, vk]) :
    KSlS (fun b => b < w.heap.size + 1) (w.alloc (.cells C ty)) (RepS (fun b => b < w.heap.size + 1) (w.alloc (.cells C ty)) 2)
      (.slice (some ⟨w.heap.size, 0, none⟩) 2 2) [(Tr.mk 1 q [] [] : Tr 2), Tr.mk 3 0 [] ks] := by
  subst hC
  have hA : ∀ o : Obj, AgreeS (fun b => b < w.heap.size) w (w.alloc o) := fun o b hb => Below.heap_alloc _ _ _ hb
  have hc : ∀ (C : Array Value) (j : Nat), (w.alloc (.cells C ty)).cell? ⟨w.heap.size, j, none⟩ = C[j]? := fun C j => World.cell?_alloc_at _ _ _ _ rfl
  refine ⟨_, 2, rfl, Nat.le_refl _, by decide, by simp, by simp, fun _ => ⟨w.heap.size, 0, rfl, by omega, fun j t hj => ?_⟩⟩
  match j, hj with
  | 0, hj =>
    simp only [List.getElem?_cons_zero, Option.some.injEq] at hj
    subst hj
    exact ⟨_, _, hc _ _, hc _ _, hc _ _, hc _ _, repS_num h0⟩
  | 1, hj =>
    simp only [List.getElem?_cons_succ, List.getElem?_cons_zero, Option.some.injEq] at hj
    subst hj
    exact ⟨_, _, hc _ _, hc _ _, hc _ _, hc _ _, repS_list (kslS_lift bk (hA _) (fun b hb => Nat.lt_succ_of_lt hb))⟩
theorem RV.start {n : Nat} (S : Nat → Prop) (w1 : World) (ts : List (Tr n)) : RV S w1 w1.heap.size (ts.take 0) (.slice none 0 0) (w1.alloc (.cells #[.int .i64 3, .int .u64 0, .slice none 0 0, .slice none 0 0] 86)) :=
  ⟨by simp, by simp, by simp, by simp, by simp, by simp, BInv.nil _ _ _, (Below.refl _ _).alloc (Nat.le_refl _) _⟩
theorem hashS {S : Nat → Prop} {w : World} {g o : Nat} {h : List Int} (hh : HOk h) (hg : S g) (hr : w.rangeAt g o (b8 h)) : BySlS S w (.slice (some ⟨g, o, none⟩) 32 32) h :=
  ⟨_, 32, by rw [hh.1], by rw [hh.1]; omega, by decide, by simp, by rw [hh.1]; omega, hh.2, fun _ => ⟨g, o, rfl, hg, fun i hi => hr i (.int .u8 (h.getD i 0)) (by simp [b8, List.getElem?_eq_getElem hi])⟩⟩
set_option maxHeartbeats 8000000 in
set_option maxRecDepth 100000 in
theorem rPutFile_any (w : World) (s : Int) (v : Value) (d : List (List Int)) (hv : HV (· < w.heap.size) w v d) (hl : d.length ≤ 1000000) (hsz : fileB s d.length = true → Tlv.szT 3 (fileT s d) ≠ 0) :
    Calls Try.prog 11 #[.agg #[.int .i64 s, v]] w fun e w' => Put1 (fileB s d.length = true ∧ objP (fileT s d)) 2 (Tlv.formOf 3 (fileT s d)) w' e ∧ Below w.heap.size w w' := by
  obtain ⟨a, c, rfl, hxx⟩ := id hv
  clear hxx
  have HVV := hid hv
  have HSZ := hid hsz
  obtain ⟨n, hn⟩ : ∃ n, d.length = n := ⟨_, rfl⟩
  have HN := hid hn
  rw [hn] at hl HVV ⊢
  clear hv hsz hn
  obtain ⟨W0, hW0⟩ : ∃ W, (w.alloc (.cells #[.int .i64 s, .slice a n c] 24)).alloc (.cells #[.int .i64 0, .slice none 0 0] 29) = W := ⟨_, rfl⟩
  have HB0 : Hid (Below w.heap.size w W0) := by rw [Hid, ← hW0]; exact ((Below.refl _ _).alloc (Nat.le_refl _) _).alloc (by simp) _
  have HZ : Hid (W0.heap.size = w.heap.size + 2) := by rw [Hid, ← hW0]; simp
  have HX : Hid (∀ V, Below W0.heap.size W0 V → V.cell? ⟨w.heap.size, 0, none⟩ = some (.int .i64 s) ∧ V.cell? ⟨w.heap.size, 1, none⟩ = some (.slice a n c)) := fun V hV => by
    have hz := HZ.out
    rw [hV.cell (p := ⟨w.heap.size, 0, none⟩) (by show w.heap.size < _; omega), hV.cell (p := ⟨w.heap.size, 1, none⟩) (by show w.heap.size < _; omega), ← hW0]
    simp [go_sem]
  have HR : Hid (∀ V, Below W0.heap.size W0 V → V.cell? ⟨w.heap.size + 1, 0, none⟩ = some (.int .i64 0) ∧ V.cell? ⟨w.heap.size + 1, 1, none⟩ = some (.slice none 0 0) ∧ (∀ o, V.frozen? ⟨w.heap.size + 1, o, none⟩ = false) ∧ w.heap.size + 1 < V.heap.size ∧ ∀ o x, V.cell? ⟨w.heap.size + 1, o, none⟩ ≠ some (.int .u8 x)) := fun V hV => by
    have hs := hV.size
    have hz := HZ.out
    refine ⟨?_, ?_, fun o => ?_, by omega, fun o x => ?_⟩
    · rw [hV.cell (p := ⟨w.heap.size + 1, 0, none⟩) (by show w.heap.size + 1 < _; omega), ← hW0]; simp [go_sem]
    · rw [hV.cell (p := ⟨w.heap.size + 1, 1, none⟩) (by show w.heap.size + 1 < _; omega), ← hW0]; simp [go_sem]
    · rw [hV.frozen (p := ⟨w.heap.size + 1, o, none⟩) (by show w.heap.size + 1 < _; omega), ← hW0]; simp [go_sem]
    · rw [hV.cell (p := ⟨w.heap.size + 1, o, none⟩) (by show w.heap.size + 1 < _; omega), ← hW0, World.cell?_alloc_at _ _ _ _ (by simp)]
      match o with
      | 0 => simp
      | 1 => simp
      | o + 2 => simp
  have HRF := hid (rightFile_any W0 s a n c)
  obtain ⟨x0, x1⟩ := HX.out W0 (Below.refl _ _)
  go_enter Try.func11, Try.ntmps11
  go_wp2_with fail
  refine HRF.out.mono ?_
  rintro e w1 ⟨he, k1⟩
  have HB1 : Hid (Below W0.heap.size W0 w1) := k1.toBelow'
  have HBW : Hid (Below w.heap.size w w1) := HB0.out.trans (HB1.out.mono HB0.out.size)
  clear x0 x1 hW0 HRF k1
  cases hfb : fileB s n with
  | false =>
    rw [hfb] at he
    subst he
    have HNO : Hid (¬ (fileB s d.length = true ∧ objP (fileT s d))) := fun h => by rw [HN.out, hfb] at h; cases h.1
    clear hfb
    obtain ⟨g0, g1, gf, hg2, _⟩ := HR.out w1 HB1.out
    go_wp2_with fail
    obtain ⟨q0, q1⟩ := set2_read (u0 := .int .i64 0) (u1 := .slice none 0 0) g0 g1
    refine bodyPost_ret (v := .tuple #[.agg #[.int .i64 0, .slice none 0 0], .int .i64 1]) (by simp [results, Try.results11, go_sem, q0, q1]) rfl ⟨(by rw [HN.out] at *; exact put1_no HNO.out), ?_⟩
    exact (HBW.out.setCell (by simp) _).setCell (by simp) _
  | true =>
    rw [hfb] at he
    subst he
    have h0s : 0 ≤ s ∧ s ≤ 2000 := by
      unfold fileB at hfb
      simp only [decide_eq_true_eq] at hfb
      exact ⟨hfb.1, hfb.2.1⟩
    have HS0 := hid h0s
    have hwu : IntKind.u64.wrap s = s := by rw [IntKind.wrap_u64]; omega
    have HWU := hid hwu
    have HFB := hid hfb
    have HSZ2 : Hid (Tlv.szT 3 (fileT s d) ≠ 0) := HSZ.out (by rw [HN.out]; exact hfb)
    clear hfb h0s hwu
    go_wp2_with fail
    refine (rlist_any w1 none 0 0).mono ?_
    rintro e w2 ⟨rfl, k2⟩
    have HB2 : Hid (Below W0.heap.size W0 w2) := HB1.out.trans (k2.toBelow'.mono HB1.out.size)
    have HBW2 : Hid (Below w.heap.size w w2) := HB0.out.trans (HB2.out.mono HB0.out.size)
    have HZ2 : Hid (w.heap.size + 2 ≤ w2.heap.size) := by have := HB2.out.size; have := HZ.out; rw [Hid]; omega
    clear k2
    go_wp2_with fail
    go_loopw [5] (fun v5 wr => ∃ (k : Nat) (av : Option Addr) (cv : Nat), v5 = .int .i64 (k : Int) ∧ k ≤ n ∧ Hid (RV (fun g => g < w.heap.size) w2 w2.heap.size ((d.map hashT).take k) (.slice av k cv) wr)) (fun v5 _ => n - (intOf v5).toNat)
    case atStart => exact ⟨0, none, 0, rfl, Nat.zero_le _, RV.start _ _ _⟩
    case round =>
      obtain ⟨k, av, cv, rfl, hkn, HS⟩ := hrel
      have HBR : Hid (Below W0.heap.size W0 wr) := HB2.out.trans (HS.out.2.2.2.2.2.2.2.mono HB2.out.size)
      have HKW : Hid (Below w.heap.size w wr) := HB0.out.trans (HBR.out.mono HB0.out.size)
      obtain ⟨x0, x1⟩ := HX.out wr HBR.out
      have hzr := HZ2.out
      have hbr := HS.out.2.2.2.2.2.1
      by_cases hlt : k < n
      · have hltI : (k : Int) < (n : Int) := by omega
        have hwk : IntKind.i64.wrap ((k : Int) + 1) = ((k + 1 : Nat) : Int) := by rw [IntKind.wrap_i64]; omega
        obtain ⟨e, he⟩ : ∃ e, d[k]? = some e := ⟨_, List.getElem?_eq_getElem (by rw [HN.out]; exact hlt)⟩
        have hne : d ≠ [] := fun h => by rw [h] at he; simp at he
        obtain ⟨g, o, rfl, hg, hrow⟩ := hv_row HVV.out hne
        have HEO : Hid (HOk e) := (hrow.2 k e he).1
        have HRG : Hid (∀ V, Below w.heap.size w V → V.rangeAt g (o + k * 32) (b8 e)) := fun V hV j u hu => (hV.cell (p := ⟨g, _, none⟩) hg).trans ((hrow.2 k e he).2 j u hu)
        have HDK : Hid ((d.map hashT).take k ++ [hashT e] = (d.map hashT).take (k + 1)) := by rw [Hid, List.take_add_one, List.getElem?_map, he]; rfl
        have HLK : Hid (((d.map hashT).take k).length = k) := by have := HN.out; rw [Hid]; simp; omega
        have HGW := hid hg
        have c3 : ∀ V, Kp No wr V → V.cell? ⟨w2.heap.size, 3, none⟩ = some (.slice av k cv) := fun V hV => (hV.cell (p := ⟨w2.heap.size, 3, none⟩) HS.out.2.2.2.2.2.1 (fun x => x)).trans HS.out.2.2.2.1
        have HXS : Hid (∀ V, Kp (fun x => x = w2.heap.size ∨ (Value.slice av k cv).ownBlock = some x) wr V → V.cell? ⟨w.heap.size, 1, none⟩ = some (.slice (some ⟨g, o, none⟩) n c)) := fun V hV => by
          refine (hV.cell (p := ⟨w.heap.size, 1, none⟩) (by show w.heap.size < _; omega) (fun hx => ?_)).trans (HX.out wr HBR.out).2
          rcases hx with hx | hx
          · have hx' : w.heap.size = w2.heap.size := hx
            omega
          · have := (HS.out.2.2.2.2.2.2.1.lt w.heap.size hx).1
            omega
        clear hrow he hg hne
        go_wp2_with fail
        refine wp_region_held_drew (S := fun V => Kp (fun x => x = w2.heap.size ∨ (Value.slice av k cv).ownBlock = some x) wr V) (by kernel_rfl) ((Kp.refl _ _).drew) (fun hHeld => ?_)
        refine wpAnyH_take (i := 0) (oi := { dst := some 18, op := Op.fieldAddr 86 (Operand.tmp 4) 3, type := 0, pos := "ref.go:69", after := #[], guard := none }) (v := .pointer (some ⟨w2.heap.size, 3, none⟩)) rfl (by kernel_rfl) (by kernel_rfl) (by kernel_rfl) (fun _ _ _ h => h) (Or.inl ⟨by rfl, fun w' hw' => by (clear hw'; go_simp)⟩) hHeld ?_
        simp only [Act.put, List.setIfInBounds_toArray, List.set_cons_zero, List.set_cons_succ]
        refine wpAnyH_take (i := 2) (oi := { dst := some 20, op := Op.fieldAddr 24 (Operand.tmp 1) 1, type := 0, pos := "ref.go:69", after := #[], guard := none }) (v := .pointer (some ⟨w.heap.size, 1, none⟩)) rfl (by kernel_rfl) (by kernel_rfl) (by kernel_rfl) (fun _ _ _ h => h) (Or.inl ⟨by rfl, fun w' hw' => by (clear hw'; go_simp)⟩) hHeld ?_
        simp only [Act.put, List.setIfInBounds_toArray, List.set_cons_zero, List.set_cons_succ]
        refine wpAnyH_take (i := 3) (oi := { dst := some 21, op := Op.load 22 (Operand.tmp 20), type := 22, pos := "ref.go:69", after := #[{ on := 2, ground := Ground.data }], guard := none }) (v := .slice (some ⟨g, o, none⟩) n c) rfl (by kernel_rfl) (by kernel_rfl) (by kernel_rfl) (fun _ _ _ h => h) (Or.inl ⟨by rfl, fun w' hw' => by (have q := HXS.out _ hw'; clear hw'; go_simp)⟩) hHeld ?_
        simp only [Act.put, List.setIfInBounds_toArray, List.set_cons_zero, List.set_cons_succ]
        refine wpAnyH_take (i := 4) (oi := { dst := some 22, op := Op.move (Operand.tmp 5), type := 3, pos := "ref.go:69", after := #[], guard := none }) (v := .int .i64 (k : Int)) rfl (by kernel_rfl) (by kernel_rfl) (by kernel_rfl) (fun _ _ _ h => h) (Or.inl ⟨by rfl, fun w' hw' => by (clear hw'; go_simp)⟩) hHeld ?_
        simp only [Act.put, List.setIfInBounds_toArray, List.set_cons_zero, List.set_cons_succ]
        refine wpAnyH_take (i := 5) (oi := { dst := some 23, op := Op.indexAddr 22 (Operand.tmp 21) (Operand.tmp 22), type := 0, pos := "ref.go:69", after := #[{ on := 3, ground := Ground.data }, { on := 4, ground := Ground.data }], guard := none }) (v := .pointer (some ⟨g, o + k * 32, none⟩)) rfl (by kernel_rfl) (by kernel_rfl) (by kernel_rfl) (fun _ _ _ h => h) (Or.inl ⟨by rfl, fun w' hw' => by (clear hw'; go_simp)⟩) hHeld ?_
        simp only [Act.put, List.setIfInBounds_toArray, List.set_cons_zero, List.set_cons_succ]
        refine wpAnyH_take (i := 6) (oi := { dst := some 24, op := Op.slice 68 (Operand.tmp 23) none none none, type := 26, pos := "ref.go:69", after := #[{ on := 5, ground := Ground.data }], guard := none }) (v := .slice (some ⟨g, o + k * 32, none⟩) 32 32) rfl (by kernel_rfl) (by kernel_rfl) (by kernel_rfl) (fun _ _ _ h => h) (Or.inl ⟨by rfl, fun w' hw' => by (clear hw'; go_simp)⟩) hHeld ?_
        simp only [Act.put, List.setIfInBounds_toArray, List.set_cons_zero, List.set_cons_succ]
        refine wpAnyH_ready (rs := [1, 7]) (by kernel_rfl) (by simp) ?_
        refine (AllReadyH.cons (o := { dst := some 19, op := Op.load 84 (Operand.tmp 18), type := 84, pos := "ref.go:69", after := #[{ on := 0, ground := Ground.data }], guard := none }) rfl (fun K hK => ?_) (AllReadyH.cons (o := { dst := some 25, op := Op.call { callee := Callee.value (Operand.func 42), args := #[Operand.tmp 24], argTypes := #[26] }, type := 86, pos := "ref.go:69", after := #[{ on := 6, ground := Ground.data }], guard := none }) rfl (fun K hK => ?_) AllReadyH.nil))
        · have q3 := c3 wr.drew ((Kp.refl No wr).drew)
          go_simp
          refine hK.out _ _ (((Kp.refl No wr).drew).ofNo) (fun hh => ?_)
          clear hK K hHeld
          have hHeld := hh
          clear hh
          try simp only [Act.put, List.setIfInBounds_toArray, List.set_cons_zero, List.set_cons_succ]
          refine wpAnyH_ready (rs := [7]) (by kernel_rfl) (by simp) ?_
          refine (AllReadyH.cons (o := { dst := some 25, op := Op.call { callee := Callee.value (Operand.func 42), args := #[Operand.tmp 24], argTypes := #[26] }, type := 86, pos := "ref.go:69", after := #[{ on := 6, ground := Ground.data }], guard := none }) rfl (fun K hK => ?_) AllReadyH.nil)
          go_simp
          refine (rbytes_any _ _ _ _).mono ?_
          rintro e' w3 ⟨rfl, kb⟩
          have HK2 : Hid (Kp No wr w3) := ((Kp.refl No wr).drew).andNone kb
          have hr2 : RepS (fun x => x < w.heap.size ∨ (wr.heap.size ≤ x ∧ x < w3.heap.size)) w3 1 (hashT e) (.slice (some ⟨g, o + k * 32, none⟩) 32 32) (.slice none 0 0) := repS_bytes (hashS HEO.out (.inl HGW.out) (HRG.out w3 (HKW.out.trans (HK2.out.toBelow'.mono HKW.out.size))))
          obtain ⟨g', cap, w4, hap, k3, kf, ks, hvi, hkp⟩ := HS.out.step HLK.out (Nat.le_refl _) (fun x hx => by omega) (Kp.refl No wr) HK2.out hr2 (Nat.le_refl _) (by omega) 84
          simp only [show (hashT e).hd.1 = 2 from rfl, show (hashT e).hd.2.1 = 0 from rfl] at hap
          rw [HDK.out] at hvi
          have HAP := hid hap
          have HVI := hid hvi
          have HKP := hid hkp
          clear hap hvi hkp hr2 kb
          go_wp2_with fail
          refine hK.out _ _ (HK2.out.ofNo) (fun hh => ?_)
          clear hK K hHeld
          have hHeld := hh
          clear hh
          try simp only [Act.put, List.setIfInBounds_toArray, List.set_cons_zero, List.set_cons_succ]
          refine wpAnyH_ready (rs := [8]) (by kernel_rfl) (by simp) ?_
          refine (AllReadyH.cons (o := { dst := some 26, op := Op.buildSlice 84 1 #[(0, Operand.tmp 25)], type := 84, pos := "ref.go:69", after := #[{ on := 7, ground := Ground.data }], guard := none }) rfl (fun K hK => ?_) AllReadyH.nil)
          rw [if_pos (by rfl)]
          refine wp_valE (exec_sliceE 84 _ rfl (.agg #[.int .i64 2, .int .u64 0, .slice (some ⟨g, o + k * 32, none⟩) 32 32, .slice none 0 0]) _ rfl (run_oneRV _ _ _ _ _)) ?_
          refine hK.out _ _ ((HK2.out.alloc _).ofNo) (fun hh => ?_)
          clear hK K hHeld
          have hHeld := hh
          clear hh
          try simp only [Act.put, List.setIfInBounds_toArray, List.set_cons_zero, List.set_cons_succ]
          refine wpAnyH_ready (rs := [9]) (by kernel_rfl) (by simp) ?_
          refine (AllReadyH.cons (o := { dst := some 27, op := Op.call { callee := Callee.builtin Builtin.append, args := #[Operand.tmp 19, Operand.tmp 26], argTypes := #[84, 84] }, type := 84, pos := "ref.go:69", after := #[{ on := 1, ground := Ground.data }, { on := 8, ground := Ground.data }, { on := 7, ground := Ground.chain }], guard := none }) rfl (fun K hK => ?_) AllReadyH.nil)
          rw [if_pos (by rfl)]
          refine wp_valE (exec_appE _ _ 84 rfl (.slice av k cv) (.slice (some ⟨w3.heap.size, 0, none⟩) 1 1) _ rfl rfl HAP.out) ?_
          refine hK.out _ _ (HKP.out) (fun hh => ?_)
          clear hK K hHeld
          have hHeld := hh
          clear hh
          try simp only [Act.put, List.setIfInBounds_toArray, List.set_cons_zero, List.set_cons_succ]
          refine wpAnyH_take (i := 10) (oi := { dst := some 28, op := Op.fieldAddr 86 (Operand.tmp 4) 3, type := 0, pos := "ref.go:69", after := #[{ on := 0, ground := Ground.phase }, { on := 1, ground := Ground.phase }, { on := 2, ground := Ground.phase }, { on := 3, ground := Ground.phase }, { on := 4, ground := Ground.phase }, { on := 5, ground := Ground.phase }, { on := 6, ground := Ground.phase }, { on := 7, ground := Ground.phase }, { on := 8, ground := Ground.phase }, { on := 9, ground := Ground.phase }], guard := none }) (v := .pointer (some ⟨w2.heap.size, 3, none⟩)) rfl (by kernel_rfl) (by kernel_rfl) (by kernel_rfl) (fun _ _ _ h => h) (Or.inl ⟨by rfl, fun w' hw' => by (clear hw'; go_simp)⟩) hHeld ?_
          simp only [Act.put, List.setIfInBounds_toArray, List.set_cons_zero, List.set_cons_succ]
          refine wpAnyH_ready (rs := [11]) (by kernel_rfl) (by simp) ?_
          refine (AllReadyH.cons (o := { dst := none, op := Op.store 84 (Operand.tmp 28) (Operand.tmp 27), type := 0, pos := "ref.go:69", after := #[{ on := 10, ground := Ground.data }, { on := 9, ground := Ground.data }, { on := 9, ground := Ground.chain }, { on := 0, ground := Ground.phase }, { on := 1, ground := Ground.phase }, { on := 2, ground := Ground.phase }, { on := 3, ground := Ground.phase }, { on := 4, ground := Ground.phase }, { on := 5, ground := Ground.phase }, { on := 6, ground := Ground.phase }, { on := 7, ground := Ground.phase }, { on := 8, ground := Ground.phase }, { on := 9, ground := Ground.phase }], guard := none }) rfl (fun K hK => ?_) AllReadyH.nil)
          go_simp
          refine hK.out _ _ (HKP.out.setCell (p := ⟨w2.heap.size, 3, none⟩) (.inl (.inl rfl)) _) (fun hh => ?_)
          clear hK K hHeld
          have hHeld := hh
          clear hh
          try simp only [Act.put, List.setIfInBounds_toArray, List.set_cons_zero, List.set_cons_succ]
          refine wpAnyH_done (by kernel_rfl) ?_ _
          clear hHeld
          go_wp2_with fail
          go_round
          case rel => exact ⟨k + 1, some ⟨g', 0, none⟩, cap, by first | rfl | go_num, by omega, HVI.out⟩
          case measure => simp [intOf]; omega
        · go_simp
          refine (rbytes_any _ _ _ _).mono ?_
          rintro e' w3 ⟨rfl, kb⟩
          have HK2 : Hid (Kp No wr w3) := ((Kp.refl No wr).drew).andNone kb
          have hr2 : RepS (fun x => x < w.heap.size ∨ (wr.heap.size ≤ x ∧ x < w3.heap.size)) w3 1 (hashT e) (.slice (some ⟨g, o + k * 32, none⟩) 32 32) (.slice none 0 0) := repS_bytes (hashS HEO.out (.inl HGW.out) (HRG.out w3 (HKW.out.trans (HK2.out.toBelow'.mono HKW.out.size))))
          obtain ⟨g', cap, w4, hap, k3, kf, ks, hvi, hkp⟩ := HS.out.step HLK.out (Nat.le_refl _) (fun x hx => by omega) (Kp.refl No wr) HK2.out hr2 (Nat.le_refl _) (by omega) 84
          simp only [show (hashT e).hd.1 = 2 from rfl, show (hashT e).hd.2.1 = 0 from rfl] at hap
          rw [HDK.out] at hvi
          have HAP := hid hap
          have HVI := hid hvi
          have HKP := hid hkp
          clear hap hvi hkp hr2 kb
          go_wp2_with fail
          refine hK.out _ _ (HK2.out.ofNo) (fun hh => ?_)
          clear hK K hHeld
          have hHeld := hh
          clear hh
          try simp only [Act.put, List.setIfInBounds_toArray, List.set_cons_zero, List.set_cons_succ]
          refine wpAnyH_ready (rs := [1, 8]) (by kernel_rfl) (by simp) ?_
          refine (AllReadyH.cons (o := { dst := some 19, op := Op.load 84 (Operand.tmp 18), type := 84, pos := "ref.go:69", after := #[{ on := 0, ground := Ground.data }], guard := none }) rfl (fun K hK => ?_) (AllReadyH.cons (o := { dst := some 26, op := Op.buildSlice 84 1 #[(0, Operand.tmp 25)], type := 84, pos := "ref.go:69", after := #[{ on := 7, ground := Ground.data }], guard := none }) rfl (fun K hK => ?_) AllReadyH.nil))
          · have q3 := c3 w3 (HK2.out)
            go_simp
            refine hK.out _ _ (HK2.out.ofNo) (fun hh => ?_)
            clear hK K hHeld
            have hHeld := hh
            clear hh
            try simp only [Act.put, List.setIfInBounds_toArray, List.set_cons_zero, List.set_cons_succ]
            refine wpAnyH_ready (rs := [8]) (by kernel_rfl) (by simp) ?_
            refine (AllReadyH.cons (o := { dst := some 26, op := Op.buildSlice 84 1 #[(0, Operand.tmp 25)], type := 84, pos := "ref.go:69", after := #[{ on := 7, ground := Ground.data }], guard := none }) rfl (fun K hK => ?_) AllReadyH.nil)
            rw [if_pos (by rfl)]
            refine wp_valE (exec_sliceE 84 _ rfl (.agg #[.int .i64 2, .int .u64 0, .slice (some ⟨g, o + k * 32, none⟩) 32 32, .slice none 0 0]) _ rfl (run_oneRV _ _ _ _ _)) ?_
            refine hK.out _ _ ((HK2.out.alloc _).ofNo) (fun hh => ?_)
            clear hK K hHeld
            have hHeld := hh
            clear hh
            try simp only [Act.put, List.setIfInBounds_toArray, List.set_cons_zero, List.set_cons_succ]
            refine wpAnyH_ready (rs := [9]) (by kernel_rfl) (by simp) ?_
            refine (AllReadyH.cons (o := { dst := some 27, op := Op.call { callee := Callee.builtin Builtin.append, args := #[Operand.tmp 19, Operand.tmp 26], argTypes := #[84, 84] }, type := 84, pos := "ref.go:69", after := #[{ on := 1, ground := Ground.data }, { on := 8, ground := Ground.data }, { on := 7, ground := Ground.chain }], guard := none }) rfl (fun K hK => ?_) AllReadyH.nil)
            rw [if_pos (by rfl)]
            refine wp_valE (exec_appE _ _ 84 rfl (.slice av k cv) (.slice (some ⟨w3.heap.size, 0, none⟩) 1 1) _ rfl rfl HAP.out) ?_
            refine hK.out _ _ (HKP.out) (fun hh => ?_)
            clear hK K hHeld
            have hHeld := hh
            clear hh
            try simp only [Act.put, List.setIfInBounds_toArray, List.set_cons_zero, List.set_cons_succ]
            refine wpAnyH_take (i := 10) (oi := { dst := some 28, op := Op.fieldAddr 86 (Operand.tmp 4) 3, type := 0, pos := "ref.go:69", after := #[{ on := 0, ground := Ground.phase }, { on := 1, ground := Ground.phase }, { on := 2, ground := Ground.phase }, { on := 3, ground := Ground.phase }, { on := 4, ground := Ground.phase }, { on := 5, ground := Ground.phase }, { on := 6, ground := Ground.phase }, { on := 7, ground := Ground.phase }, { on := 8, ground := Ground.phase }, { on := 9, ground := Ground.phase }], guard := none }) (v := .pointer (some ⟨w2.heap.size, 3, none⟩)) rfl (by kernel_rfl) (by kernel_rfl) (by kernel_rfl) (fun _ _ _ h => h) (Or.inl ⟨by rfl, fun w' hw' => by (clear hw'; go_simp)⟩) hHeld ?_
            simp only [Act.put, List.setIfInBounds_toArray, List.set_cons_zero, List.set_cons_succ]
            refine wpAnyH_ready (rs := [11]) (by kernel_rfl) (by simp) ?_
            refine (AllReadyH.cons (o := { dst := none, op := Op.store 84 (Operand.tmp 28) (Operand.tmp 27), type := 0, pos := "ref.go:69", after := #[{ on := 10, ground := Ground.data }, { on := 9, ground := Ground.data }, { on := 9, ground := Ground.chain }, { on := 0, ground := Ground.phase }, { on := 1, ground := Ground.phase }, { on := 2, ground := Ground.phase }, { on := 3, ground := Ground.phase }, { on := 4, ground := Ground.phase }, { on := 5, ground := Ground.phase }, { on := 6, ground := Ground.phase }, { on := 7, ground := Ground.phase }, { on := 8, ground := Ground.phase }, { on := 9, ground := Ground.phase }], guard := none }) rfl (fun K hK => ?_) AllReadyH.nil)
            go_simp
            refine hK.out _ _ (HKP.out.setCell (p := ⟨w2.heap.size, 3, none⟩) (.inl (.inl rfl)) _) (fun hh => ?_)
            clear hK K hHeld
            have hHeld := hh
            clear hh
            try simp only [Act.put, List.setIfInBounds_toArray, List.set_cons_zero, List.set_cons_succ]
            refine wpAnyH_done (by kernel_rfl) ?_ _
            clear hHeld
            go_wp2_with fail
            go_round
            case rel => exact ⟨k + 1, some ⟨g', 0, none⟩, cap, by first | rfl | go_num, by omega, HVI.out⟩
            case measure => simp [intOf]; omega
          · rw [if_pos (by rfl)]
            refine wp_valE (exec_sliceE 84 _ rfl (.agg #[.int .i64 2, .int .u64 0, .slice (some ⟨g, o + k * 32, none⟩) 32 32, .slice none 0 0]) _ rfl (run_oneRV _ _ _ _ _)) ?_
            refine hK.out _ _ ((HK2.out.alloc _).ofNo) (fun hh => ?_)
            clear hK K hHeld
            have hHeld := hh
            clear hh
            try simp only [Act.put, List.setIfInBounds_toArray, List.set_cons_zero, List.set_cons_succ]
            refine wpAnyH_ready (rs := [1]) (by kernel_rfl) (by simp) ?_
            refine (AllReadyH.cons (o := { dst := some 19, op := Op.load 84 (Operand.tmp 18), type := 84, pos := "ref.go:69", after := #[{ on := 0, ground := Ground.data }], guard := none }) rfl (fun K hK => ?_) AllReadyH.nil)
            have q3 := c3 (w3.alloc (.cells #[.int .i64 2, .int .u64 0, .slice (some ⟨g, o + k * 32, none⟩) 32 32, .slice none 0 0] 86)) ((HK2.out.alloc _))
            go_simp
            refine hK.out _ _ ((HK2.out.alloc _).ofNo) (fun hh => ?_)
            clear hK K hHeld
            have hHeld := hh
            clear hh
            try simp only [Act.put, List.setIfInBounds_toArray, List.set_cons_zero, List.set_cons_succ]
            refine wpAnyH_ready (rs := [9]) (by kernel_rfl) (by simp) ?_
            refine (AllReadyH.cons (o := { dst := some 27, op := Op.call { callee := Callee.builtin Builtin.append, args := #[Operand.tmp 19, Operand.tmp 26], argTypes := #[84, 84] }, type := 84, pos := "ref.go:69", after := #[{ on := 1, ground := Ground.data }, { on := 8, ground := Ground.data }, { on := 7, ground := Ground.chain }], guard := none }) rfl (fun K hK => ?_) AllReadyH.nil)
            rw [if_pos (by rfl)]
            refine wp_valE (exec_appE _ _ 84 rfl (.slice av k cv) (.slice (some ⟨w3.heap.size, 0, none⟩) 1 1) _ rfl rfl HAP.out) ?_
            refine hK.out _ _ (HKP.out) (fun hh => ?_)
            clear hK K hHeld
            have hHeld := hh
            clear hh
            try simp only [Act.put, List.setIfInBounds_toArray, List.set_cons_zero, List.set_cons_succ]
            refine wpAnyH_take (i := 10) (oi := { dst := some 28, op := Op.fieldAddr 86 (Operand.tmp 4) 3, type := 0, pos := "ref.go:69", after := #[{ on := 0, ground := Ground.phase }, { on := 1, ground := Ground.phase }, { on := 2, ground := Ground.phase }, { on := 3, ground := Ground.phase }, { on := 4, ground := Ground.phase }, { on := 5, ground := Ground.phase }, { on := 6, ground := Ground.phase }, { on := 7, ground := Ground.phase }, { on := 8, ground := Ground.phase }, { on := 9, ground := Ground.phase }], guard := none }) (v := .pointer (some ⟨w2.heap.size, 3, none⟩)) rfl (by kernel_rfl) (by kernel_rfl) (by kernel_rfl) (fun _ _ _ h => h) (Or.inl ⟨by rfl, fun w' hw' => by (clear hw'; go_simp)⟩) hHeld ?_
            simp only [Act.put, List.setIfInBounds_toArray, List.set_cons_zero, List.set_cons_succ]
            refine wpAnyH_ready (rs := [11]) (by kernel_rfl) (by simp) ?_
            refine (AllReadyH.cons (o := { dst := none, op := Op.store 84 (Operand.tmp 28) (Operand.tmp 27), type := 0, pos := "ref.go:69", after := #[{ on := 10, ground := Ground.data }, { on := 9, ground := Ground.data }, { on := 9, ground := Ground.chain }, { on := 0, ground := Ground.phase }, { on := 1, ground := Ground.phase }, { on := 2, ground := Ground.phase }, { on := 3, ground := Ground.phase }, { on := 4, ground := Ground.phase }, { on := 5, ground := Ground.phase }, { on := 6, ground := Ground.phase }, { on := 7, ground := Ground.phase }, { on := 8, ground := Ground.phase }, { on := 9, ground := Ground.phase }], guard := none }) rfl (fun K hK => ?_) AllReadyH.nil)
            go_simp
            refine hK.out _ _ (HKP.out.setCell (p := ⟨w2.heap.size, 3, none⟩) (.inl (.inl rfl)) _) (fun hh => ?_)
            clear hK K hHeld
            have hHeld := hh
            clear hh
            try simp only [Act.put, List.setIfInBounds_toArray, List.set_cons_zero, List.set_cons_succ]
            refine wpAnyH_done (by kernel_rfl) ?_ _
            clear hHeld
            go_wp2_with fail
            go_round
            case rel => exact ⟨k + 1, some ⟨g', 0, none⟩, cap, by first | rfl | go_num, by omega, HVI.out⟩
            case measure => simp [intOf]; omega
      · have hltI : ¬ (k : Int) < (n : Int) := by omega
        have hkn' : k = n := by omega
        subst hkn'
        have hF := HS.out
        have ek : (d.map hashT).take k = d.map hashT := List.take_of_length_le (by have := HN.out; simp; omega)
        rw [ek] at hF
        obtain ⟨f0, f1, f2, f3, ff, fs, fm, fb⟩ := hF
        have HKS : Hid (KSlS (fun b => b < wr.heap.size) wr (RepS (fun b => b < wr.heap.size) wr 1) (.slice av k cv) (d.map hashT)) :=
          kslS_lift (fm.done (by simp; have := HN.out; omega)) (fun _ _ => rfl) (fun b hb => by rcases hb with hb | hb <;> omega)
        have HTW := hid (twoInS s (d.map hashT) _ (by have := HS0.out; omega) HKS.out 86 _ rfl)
        have HWU2 := HWU.out
        clear ek fm fb HS hlt
        go_wp2_with fail
        refine (rlist_any _ _ _ _).mono ?_
        rintro e w3 ⟨rfl, k3⟩
        have HB3 : Hid (Below wr.heap.size wr w3) := ((Below.refl _ wr).alloc (Nat.le_refl _) _).trans (k3.toBelow'.mono (by simp))
        have HRO := hid (rObject_any w3 2 (by omega) (fileT s d) (.slice none 0 0) (.slice (some ⟨wr.heap.size, 0, none⟩) 2 2) (repS_list (kslS_lift HTW.out (fun b hb => k3.block b (by simpa using hb) (fun x => x)) (fun b hb => by have := k3.size; simp at this; omega))) HSZ2.out)
        rw [show (fileT s d).hd.1 = 3 from rfl, show (fileT s d).hd.2.1 = 0 from rfl] at HRO
        clear f0 f1 f2 f3 ff k3 HTW HKS x0 x1
        go_wp2_with fail
        refine HRO.out.mono ?_
        rintro e w4 ⟨hp, hb4⟩
        obtain ⟨k0, a0, n0, c0, fa, bs0, rfl, hy0, ho0⟩ := hp
        have HB4 : Hid (Below W0.heap.size W0 w4) := (HBR.out.trans (HB3.out.mono HBR.out.size)).trans (hb4.mono (Nat.le_trans HBR.out.size HB3.out.size))
        have HBW4 : Hid (Below w.heap.size w w4) := HB0.out.trans (HB4.out.mono HB0.out.size)
        obtain ⟨g0, g1, gf, hg2, hgn⟩ := HR.out w4 HB4.out
        have HGN := hid hgn
        have HY0 := hid hy0
        have HO0 : Hid (((fileB s d.length = true ∧ objP (fileT s d)) ∧ k0 = 2 ∧ fa = 0 ∧ bs0 = Tlv.formOf 3 (fileT s d)) ∨ (¬ (fileB s d.length = true ∧ objP (fileT s d)) ∧ k0 = 0 ∧ fa = 1 ∧ bs0 = [])) := by
          rcases ho0 with ⟨h1, h2⟩ | ⟨h1, h2⟩
          · exact .inl ⟨⟨by rw [HN.out]; exact HFB.out, h1⟩, h2⟩
          · exact .inr ⟨fun h => h1 h.2, h2⟩
        clear hb4 hgn hy0 ho0 HRO
        go_wp2_with fail
        obtain ⟨q0, q1⟩ := set2_read (u0 := .int .i64 k0) (u1 := .slice a0 n0 c0) g0 g1
        refine bodyPost_ret (v := .tuple #[.agg #[.int .i64 k0, .slice a0 n0 c0], .int .i64 fa]) (by simp [results, Try.results11, go_sem, q0, q1]) rfl ⟨(by rw [HN.out] at HO0; exact ⟨k0, a0, n0, c0, fa, bs0, rfl, bySl_ne HY0.out HGN.out (((Kp.refl (· = w.heap.size + 1) _).setCell (p := ⟨w.heap.size + 1, 0, none⟩) (.inl rfl) _).setCell (p := ⟨w.heap.size + 1, 1, none⟩) (.inl rfl) _), HO0.out⟩), ?_⟩
        exact (HBW4.out.setCell (by simp) _).setCell (by simp) _
end Go.Proofs.Ytenfahecnkdhaaa.Nd
end

section
/-
  hash, of the document: a value as a hash.
-/
namespace Go.Proofs.Ytenfahecnkdhaaa.Nd
open Go.RowKit
open Tlv (Tr Agree BySlS)
open Sim (hid Kp No)
set_option linter.unusedSimpArgs false

theorem zHash_at (j : Nat) (hj : j < 32) : zHash[j]? = some (.int .u8 0) := by
  rw [zHash, List.getElem?_replicate, if_pos hj]
/-- A hash half made in a variable. -/
def HalfH (W : World) (b : Nat) (bs : List Int) (k : Nat) (wr : World) : Prop :=
  (∀ j, j < 32 → wr.cell? ⟨b, j, none⟩ = some (.int .u8 (if j < k then bs.getD j 0 else 0))) ∧ (∀ o, wr.frozen? ⟨b, o, none⟩ = false) ∧ b < wr.heap.size ∧ Kp (· = b) W wr
theorem HalfH.step {W wr : World} {b k : Nat} {bs : List Int} (h : HalfH W b bs k wr) (hk : k < 32) : HalfH W b bs (k + 1) (wr.setCell ⟨b, k, none⟩ (.int .u8 (bs.getD k 0))) := by
  obtain ⟨h1, h2, h3, h4⟩ := h
  refine ⟨fun j hj => ?_, fun o => by rw [World.frozen?_setCell]; exact h2 o, by simp; omega, h4.setCell (p := ⟨b, k, none⟩) (.inl rfl) _⟩
  by_cases hjk : j = k
  · subst hjk
    rw [World.cell?_setCell_same _ _ _ (h1 j hj), if_pos (by omega)]
  · rw [World.cell?_setCell_other (h := by intro e; exact hjk (by simpa using e.symm)), h1 j hj]
    by_cases hlt : j < k
    · rw [if_pos hlt, if_pos (by omega)]
    · rw [if_neg hlt, if_neg (by omega)]
theorem HalfH.done {W wr : World} {b : Nat} {bs : List Int} (h : HalfH W b bs 32 wr) (hl : bs.length = 32) : wr.rangeAt b 0 (b8 bs) := fun j v hv => by
  have hj := (List.getElem?_eq_some_iff.1 hv).1
  rw [b8_length, hl] at hj
  rw [Nat.zero_add, h.1 j hj, if_pos hj]
  simp only [b8, List.getElem?_map, List.getElem?_eq_getElem (show j < bs.length by omega), Option.map_some, Option.some.injEq] at hv
  rw [← hv]
  simp [List.getElem?_eq_getElem (show j < bs.length by omega)]

/-- What hash answers. -/
def RHashA (tg : Int) (bs : List Int) (e : Ending) : Prop := (tg = 2 ∧ bs.length = 32 ∧ e = .returned (.tuple #[.agg (b8 bs).toArray, .bool true])) ∨ (¬ (tg = 2 ∧ bs.length = 32) ∧ e = .returned (.tuple #[.agg zHash.toArray, .bool false]))

set_option maxHeartbeats 4000000 in
set_option maxRecDepth 100000 in
theorem rhash_any (w : World) (tg nm : Int) (a ak : Option Addr) (n c lk ck : Nat) (bs : List Int) (hv : BySlS (fun b => b < w.heap.size) w (.slice a n c) bs) :
    Calls Try.prog 52 #[.agg #[.int .i64 tg, .int .u64 nm, .slice a n c, .slice ak lk ck]] w fun e w' => RHashA tg bs e ∧ Kp No w w' := by
  have hn : n = bs.length := by
    obtain ⟨_, _, e, _⟩ := hv
    simp only [Value.slice.injEq] at e
    exact e.2.1
  obtain ⟨W0, hW0⟩ : ∃ W, ((w.alloc (.cells #[.int .i64 tg, .int .u64 nm, .slice a n c, .slice ak lk ck] 86)).alloc (.cells #[.int .u8 0, .int .u8 0, .int .u8 0, .int .u8 0, .int .u8 0, .int .u8 0, .int .u8 0, .int .u8 0, .int .u8 0, .int .u8 0, .int .u8 0, .int .u8 0, .int .u8 0, .int .u8 0, .int .u8 0, .int .u8 0, .int .u8 0, .int .u8 0, .int .u8 0, .int .u8 0, .int .u8 0, .int .u8 0, .int .u8 0, .int .u8 0, .int .u8 0, .int .u8 0, .int .u8 0, .int .u8 0, .int .u8 0, .int .u8 0, .int .u8 0, .int .u8 0] 68)).alloc (.cells #[.int .u8 0, .int .u8 0, .int .u8 0, .int .u8 0, .int .u8 0, .int .u8 0, .int .u8 0, .int .u8 0, .int .u8 0, .int .u8 0, .int .u8 0, .int .u8 0, .int .u8 0, .int .u8 0, .int .u8 0, .int .u8 0, .int .u8 0, .int .u8 0, .int .u8 0, .int .u8 0, .int .u8 0, .int .u8 0, .int .u8 0, .int .u8 0, .int .u8 0, .int .u8 0, .int .u8 0, .int .u8 0, .int .u8 0, .int .u8 0, .int .u8 0, .int .u8 0] 68) = W := ⟨_, rfl⟩
  have HZ : Hid (W0.heap.size = w.heap.size + 3) := by rw [Hid, ← hW0]; simp
  have HK0 : Hid (Kp No w W0) := by rw [Hid, ← hW0]; exact (((Kp.refl No w).alloc _).alloc _).alloc _
  have HX : Hid (∀ V, Kp (· = w.heap.size + 2) W0 V → V.cell? ⟨w.heap.size, 0, none⟩ = some (.int .i64 tg) ∧ V.cell? ⟨w.heap.size, 2, none⟩ = some (.slice a n c)) := fun V hV => by
    have hz := HZ.out
    have e : ∀ o, V.cell? ⟨w.heap.size, o, none⟩ = W0.cell? ⟨w.heap.size, o, none⟩ := fun o => hV.cell (p := ⟨w.heap.size, o, none⟩) (by show w.heap.size < _; omega) (by show ¬ w.heap.size = w.heap.size + 2; omega)
    rw [e, e, ← hW0]
    simp [go_sem]
  have hzr : ∀ (u : World) (j : Nat), (u.alloc (.cells #[.int .u8 0, .int .u8 0, .int .u8 0, .int .u8 0, .int .u8 0, .int .u8 0, .int .u8 0, .int .u8 0, .int .u8 0, .int .u8 0, .int .u8 0, .int .u8 0, .int .u8 0, .int .u8 0, .int .u8 0, .int .u8 0, .int .u8 0, .int .u8 0, .int .u8 0, .int .u8 0, .int .u8 0, .int .u8 0, .int .u8 0, .int .u8 0, .int .u8 0, .int .u8 0, .int .u8 0, .int .u8 0, .int .u8 0, .int .u8 0, .int .u8 0, .int .u8 0] 68)).cell? ⟨u.heap.size, j, none⟩ = zHash[j]? := fun u j => by
    rw [← zHash_lit, World.cell?_alloc_at _ _ _ _ rfl]
    simp
  have HT : Hid (∀ V, Kp (· = w.heap.size + 2) W0 V → V.there (w.heap.size + 1) 0 32) := fun V hV j hj => by
    have hz := HZ.out
    have h1 : ¬ w.heap.size + 1 = w.heap.size + 2 := by omega
    rw [hV.cell (p := ⟨w.heap.size + 1, _, none⟩) (by show w.heap.size + 1 < _; omega) h1, hV.frozen (p := ⟨w.heap.size + 1, _, none⟩) (by show w.heap.size + 1 < _; omega) h1, ← hW0, Nat.zero_add]
    have e := hzr (w.alloc (.cells #[.int .i64 tg, .int .u64 nm, .slice a n c, .slice ak lk ck] 86)) j
    rw [show (w.alloc (.cells #[.int .i64 tg, .int .u64 nm, .slice a n c, .slice ak lk ck] 86)).heap.size = w.heap.size + 1 by simp] at e
    rw [World.cell?_alloc_past _ _ _ (by simp), e, zHash_at j hj]
    exact ⟨rfl, by simp [go_sem]⟩
  have HH0 : Hid (HalfH W0 (w.heap.size + 2) bs 0 W0) := by
    have e := fun j => hzr ((w.alloc (.cells #[.int .i64 tg, .int .u64 nm, .slice a n c, .slice ak lk ck] 86)).alloc (.cells #[.int .u8 0, .int .u8 0, .int .u8 0, .int .u8 0, .int .u8 0, .int .u8 0, .int .u8 0, .int .u8 0, .int .u8 0, .int .u8 0, .int .u8 0, .int .u8 0, .int .u8 0, .int .u8 0, .int .u8 0, .int .u8 0, .int .u8 0, .int .u8 0, .int .u8 0, .int .u8 0, .int .u8 0, .int .u8 0, .int .u8 0, .int .u8 0, .int .u8 0, .int .u8 0, .int .u8 0, .int .u8 0, .int .u8 0, .int .u8 0, .int .u8 0, .int .u8 0] 68)) j
    simp only [show ((w.alloc (.cells #[.int .i64 tg, .int .u64 nm, .slice a n c, .slice ak lk ck] 86)).alloc (.cells #[.int .u8 0, .int .u8 0, .int .u8 0, .int .u8 0, .int .u8 0, .int .u8 0, .int .u8 0, .int .u8 0, .int .u8 0, .int .u8 0, .int .u8 0, .int .u8 0, .int .u8 0, .int .u8 0, .int .u8 0, .int .u8 0, .int .u8 0, .int .u8 0, .int .u8 0, .int .u8 0, .int .u8 0, .int .u8 0, .int .u8 0, .int .u8 0, .int .u8 0, .int .u8 0, .int .u8 0, .int .u8 0, .int .u8 0, .int .u8 0, .int .u8 0, .int .u8 0] 68)).heap.size = w.heap.size + 2 by simp, hW0] at e
    refine ⟨fun j hj => ?_, fun o => ?_, by rw [HZ.out]; omega, Kp.refl _ _⟩
    · rw [e j, zHash_at j hj]
      simp
    · rw [← hW0]
      simp [go_sem]
  have HBY : Hid (∀ V, Kp (· = w.heap.size + 2) W0 V → BySlS (fun b => b < w.heap.size) V (.slice a n c) bs) := fun V hV => hv.agree (fun b hb => by
    have hz := HZ.out
    exact (hV.block b (by omega) (by omega)).trans (HK0.out.block b hb (fun x => x))) (fun _ h => h)
  have HN := hid hn
  have HOKZ : Hid (zHash.toArray.all (·.oneCell') = true) := all_oneCell_toArray (fun v hv => by rw [List.eq_of_mem_replicate hv]; rfl)
  have HIZ : Hid ((Try.prog.info? 68).map (·.size) = some zHash.length) := by rw [Hid]; exact infH
  clear hv hzr
  by_cases hc : tg = 2 ∧ n = 32
  · obtain ⟨rfl, rfl⟩ := hc
    have HBL : Hid (bs.length = 32) := HN.out.symm
    have HIB : Hid ((Try.prog.info? 68).map (·.size) = some (b8 bs).length) := by rw [Hid, b8_length, HBL.out]; exact infH
    have HYE : Hid (RHashA 2 bs (.returned (.tuple #[.agg (b8 bs).toArray, .bool true]))) := .inl ⟨rfl, HBL.out, rfl⟩
    have HOB : Hid ((b8 bs).toArray.all (·.oneCell') = true) := all_oneCell_toArray (b8_one bs)
    clear hn
    obtain ⟨x0, x2⟩ := HX.out W0 (Kp.refl _ _)
    go_enter Try.func52, Try.ntmps52
    go_wp2_with fail
    clear x0 x2 hW0
    go_loopw [5] (fun v5 wr => ∃ (k : Nat), v5 = .int .i64 (k : Int) ∧ k ≤ 32 ∧ Hid (HalfH W0 (w.heap.size + 2) bs k wr)) (fun v5 _ => 32 - (intOf v5).toNat)
    case atStart => exact ⟨0, rfl, by omega, HH0.out⟩
    case round =>
      obtain ⟨k, rfl, hk32, HS⟩ := hrel
      by_cases hlt : k < 32
      · have hltI : (k : Int) < 32 := by omega
        have hwk : IntKind.i64.wrap ((k : Int) + 1) = ((k + 1 : Nat) : Int) := by rw [IntKind.wrap_i64]; omega
        obtain ⟨x0, x2⟩ := HX.out wr HS.out.2.2.2
        obtain ⟨aa, cc, ee, _, _, _, _, _, h7⟩ := HBY.out wr HS.out.2.2.2
        simp only [Value.slice.injEq] at ee
        obtain ⟨rfl, _, _⟩ := ee
        obtain ⟨g, o, rfl, hg, hcell⟩ := h7 (by intro e; have := HBL.out; rw [e] at this; simp at this)
        have hb1 := hcell k (by rw [HBL.out]; exact hlt)
        have hgl : g < wr.heap.size := by have := HS.out.2.2.2.size; have := HZ.out; omega
        have hc1 : wr.cell? ⟨w.heap.size + 2, k, none⟩ = some (.int .u8 0) := by have := HS.out.1 k hlt; rw [if_neg (by omega)] at this; exact this
        have hf1 := HS.out.2.1 k
        have hs1 := HS.out.2.2.1
        have HNX := hid (HS.out.step hlt)
        obtain ⟨xb, hxb⟩ : ∃ x, bs.getD k 0 = x := ⟨_, rfl⟩
        rw [hxb] at hb1 HNX
        clear hcell h7 hxb
        go_wp2_with fail
        go_round
        case rel => exact ⟨k + 1, by first | rfl | go_num, by omega, HNX.out⟩
        case measure => simp [intOf]; omega
      · have hltI : ¬ (k : Int) < 32 := by omega
        have hkn : k = 32 := by omega
        subst hkn
        have HD := hid (HS.out.done HBL.out)
        have HTH := hid (HT.out wr HS.out.2.2.2)
        clear hlt
        go_wp2_with (first
          | (refine wpList_load_mid (by rfl) 68 _ (by rfl) (w.heap.size + 2) 0 (by rfl) (b8 bs) _ HD.out Try.underlying68 rfl HIB.out ?_)
          | (refine wpList_store_mid (by rfl) 68 _ _ (by rfl) (w.heap.size + 1) 0 (b8 bs).toArray (by rfl) (by rfl) (by show World.there _ _ _ (b8 bs).length; rw [b8_length, HBL.out]; exact HTH.out) HIB.out HOB.out ?_))
        refine bodyPost_ret (results_cell_two rfl _ _ (w.heap.size + 1) 0 (b8 bs) _ rfl (World.rangeAt_setCells_same _ _ _ _ (by rw [b8_length, HBL.out]; exact HTH.out)) Try.underlying68 rfl HIB.out) rfl ?_
        refine ⟨HYE.out, ?_⟩
        exact (HK0.out.trans HS.out.2.2.2 (fun x hx => .inr (by omega))).trans (setCells_kp _ _ _ _) (fun x hx => .inr (by omega))
  · have HNO : Hid (¬ (tg = 2 ∧ bs.length = 32)) := by rw [← HN.out]; exact hc
    have HD : Hid (W0.rangeAt (w.heap.size + 2) 0 zHash) := fun j v hv => by
      have hj : j < 32 := by have := (List.getElem?_eq_some_iff.1 hv).1; simpa [zHash] using this
      rw [zHash_at j hj] at hv
      rw [Nat.zero_add, HH0.out.1 j hj, ← hv]
      simp
    have HTH := hid (HT.out W0 (Kp.refl _ _))
    obtain ⟨x0, x2⟩ := HX.out W0 (Kp.refl _ _)
    have HFI : Hid (RHashA tg bs (.returned (.tuple #[.agg zHash.toArray, .bool false]))) := .inr ⟨HNO.out, rfl⟩
    clear hn
    by_cases ht : tg = 2
    · have hnn : ¬ n = 32 := fun h => hc ⟨ht, h⟩
      subst ht
      have h1 : ((n : Int) == 32) = false := by simp; omega
      have h2 : ((n : Int) != 32) = true := by simp; omega
      have h3 : ¬ ((n : Int) = 32) := by omega
      clear hc
      go_enter Try.func52, Try.ntmps52
      go_wp2_with (first
        | (refine wpList_load_mid (by rfl) 68 _ (by rfl) (w.heap.size + 2) 0 (by rfl) zHash _ HD.out Try.underlying68 rfl HIZ.out ?_)
        | (refine wpList_store_mid (by rfl) 68 _ _ (by rfl) (w.heap.size + 1) 0 zHash.toArray (by rfl) (by rfl) HTH.out HIZ.out HOKZ.out ?_))
      refine bodyPost_ret (results_cell_two rfl _ _ (w.heap.size + 1) 0 zHash _ rfl (World.rangeAt_setCells_same _ _ _ _ HTH.out) Try.underlying68 rfl HIZ.out) rfl ?_
      refine ⟨HFI.out, ?_⟩
      exact HK0.out.trans (setCells_kp _ _ _ _) (fun x hx => .inr (by omega))
    · have h1 : (tg == 2) = false := by simpa using ht
      have h2 : (tg != 2) = true := by simpa using ht
      clear hc
      go_enter Try.func52, Try.ntmps52
      go_wp2_with (first
        | (refine wpList_load_mid (by rfl) 68 _ (by rfl) (w.heap.size + 2) 0 (by rfl) zHash _ HD.out Try.underlying68 rfl HIZ.out ?_)
        | (refine wpList_store_mid (by rfl) 68 _ _ (by rfl) (w.heap.size + 1) 0 zHash.toArray (by rfl) (by rfl) HTH.out HIZ.out HOKZ.out ?_))
      refine bodyPost_ret (results_cell_two rfl _ _ (w.heap.size + 1) 0 zHash _ rfl (World.rangeAt_setCells_same _ _ _ _ HTH.out) Try.underlying68 rfl HIZ.out) rfl ?_
      refine ⟨HFI.out, ?_⟩
      exact HK0.out.trans (setCells_kp _ _ _ _) (fun x hx => .inr (by omega))
end Go.Proofs.Ytenfahecnkdhaaa.Nd
end
