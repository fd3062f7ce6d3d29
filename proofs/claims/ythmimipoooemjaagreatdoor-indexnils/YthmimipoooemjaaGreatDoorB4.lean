/- Of the proof: the texts SgStable, SgCompact, SgSort, SgRight, SgVal, SgMany, SgValM, SgBin, SgFind, SgJoin, SgCmpM, SgOwn, one behind the other. -/
import Derived.Test.YthmimipoooemjaaGreatDoorB3
import Derived.Stop.BytesEq
import Derived.Test.YthmimipoooemjaaGreatDoorB2
import Derived.Lib.AppendZerosOnto
section
/-
  A row of entries is sorted, each name's entries in their order: slices.SortStableFunc by compare.
-/
namespace Go.Proofs.YthmimipoooemjaaGreatDoor.Sg
open Go.RowKit
open Stb (Stab Srt Mrg)
open Sim (hid Kp No)

theorem SymOk.mono {k K : Nat} (h : SymOk K) (hk : k ≤ K) : SymOk k := fun w g o L A B R N cap hl => h w g o L A B R N cap (by omega)
theorem sym_ok : ∀ K, SymOk K
  | 0 => fun w g o L A B R N cap hl => by omega
  | K + 1 => fun w g o L A B R N cap hl h hN hN2 sa sb hA hB => by
    have ih := sym_ok K
    have ha := List.length_pos_iff.2 hA
    have hb := List.length_pos_iff.2 hB
    by_cases h1 : A.length = 1
    · obtain ⟨x, rfl⟩ := List.length_eq_one_iff.1 h1
      exact symA_any w g o L B R x N cap h hN hN2 sb
    · by_cases h2 : B.length = 1
      · obtain ⟨x, rfl⟩ := List.length_eq_one_iff.1 h2
        exact symB_any w g o L A R x N cap h hN hN2 sa (by omega)
      · exact symC_any w g o L A B R N cap h hN hN2 sa sb (by omega) (by omega) (ih.mono (by omega))

/-- Sorted block by block. -/
def Bl (bs : Nat) (D : List Ent) : Prop := ∀ i, Srt ky lexB ((D.drop (i * bs)).take bs)
theorem Bl.nil (bs : Nat) : Bl bs [] := fun i => by simp [Srt]
theorem Bl.one {bs : Nat} {M : List Ent} (h : Srt ky lexB M) (hl : M.length ≤ bs) : Bl bs M := fun i => by
  by_cases h0 : i = 0
  · subst h0
    rw [Nat.zero_mul, List.drop_zero, List.take_of_length_le hl]
    exact h
  · have : bs ≤ i * bs := Nat.le_mul_of_pos_left bs (by omega)
    rw [List.drop_eq_nil_of_le (by omega)]
    simp [Srt]
theorem Bl.all {bs : Nat} {M : List Ent} (h : Bl bs M) (hl : M.length ≤ bs) : Srt ky lexB M := by
  have := h 0
  rwa [Nat.zero_mul, List.drop_zero, List.take_of_length_le hl] at this
theorem Bl.append {bs k : Nat} {P Q : List Ent} (hP : Bl bs P) (hQ : Bl bs Q) (hl : P.length = k * bs) : Bl bs (P ++ Q) := fun i => by
  by_cases hi : i < k
  · have h1 : (i + 1) * bs ≤ k * bs := Nat.mul_le_mul_right bs hi
    rw [Nat.add_mul, Nat.one_mul] at h1
    rw [List.drop_append_of_le_length (by omega), List.take_append_of_le_length (by rw [List.length_drop]; omega)]
    exact hP i
  · have h1 : i * bs = P.length + (i - k) * bs := by
      rw [hl, ← Nat.add_mul]
      congr 1
      omega
    rw [h1, List.drop_length_add_append]
    exact hQ (i - k)
theorem Bl.drop {bs k : Nat} {P Q : List Ent} (h : Bl bs (P ++ Q)) (hl : P.length = k * bs) : Bl bs Q := fun i => by
  have := h (k + i)
  rwa [Nat.add_mul, ← hl, List.drop_length_add_append] at this
theorem Bl.head {bs : Nat} {A Q : List Ent} (h : Bl bs (A ++ Q)) (hl : A.length = bs) : Srt ky lexB A ∧ Bl bs Q := by
  refine ⟨?_, h.drop (k := 1) (by omega)⟩
  have := h 0
  rwa [Nat.zero_mul, List.drop_zero, List.take_left' hl] at this

set_option maxHeartbeats 4000000 in
set_option maxRecDepth 100000 in
theorem stable_any (w : World) (g o : Nat) (X : List Ent) (N cap : Nat) (h : EOwn w g o X) (hN : X.length = N) (hl : N ≤ 1000000) :
    Calls Tryz.prog 174 #[.slice (some ⟨g, o, none⟩) N cap, .int .i64 (N : Int), cmpV] w fun e w' => e = .returned (.tuple #[]) ∧ ∃ X', Stab ky X X' ∧ Srt ky lexB X' ∧ At w g o X' w' := by
  have H0 := hid (At.start h)
  have HN := hid hN
  have HINS := hid (fun V (L B R : List Ent) (h : EOwn V g o (L ++ (B ++ R))) (hN : (L ++ (B ++ R)).length = N) => ins_any V g o L B R N cap h hN hl)
  have HSYM := hid (fun V (L A B R : List Ent) (h : EOwn V g o (L ++ (A ++ (B ++ R)))) (hN : (L ++ (A ++ (B ++ R))).length = N) => sym_ok (A.length + B.length + 1) V g o L A B R N cap (by omega) h hN hl)
  unfold cmpV at HINS HSYM ⊢
  clear h hN
  go_enter Tryz.func174, Tryz.ntmps174
  go_wp2_with fail
  go_loopw [7, 8] (fun v7 v8 wr => ∃ (a b : Nat), v7 = .int .i64 (a : Int) ∧ v8 = .int .i64 (b : Int) ∧ b = a + 20 ∧ a ≤ N ∧ Hid (∃ P Q k, P.length = a ∧ a = k * 20 ∧ (P ++ Q).length = N ∧ Bl 20 P ∧ Stab ky X (P ++ Q) ∧ At w g o (P ++ Q) wr)) (fun _ v8 _ => N + 20 - (intOf v8).toNat)
  case atStart => exact ⟨0, 20, rfl, rfl, rfl, Nat.zero_le _, [], X, 0, rfl, rfl, HN.out, Bl.nil _, Stab.refl _, H0.out⟩
  case round =>
    obtain ⟨a, b, rfl, rfl, hb, ha, HS⟩ := hrel
    have HB := hid hb
    clear hb
    by_cases hle : b ≤ N
    · have hleI : (b : Int) ≤ (N : Int) := by omega
      obtain ⟨P, Q, k, h1, h2, h3, h4, h5, h6⟩ := HS.out
      have hb := HB.out
      have hQl : 20 ≤ Q.length := by rw [List.length_append] at h3; omega
      have hQ : Q.take 20 ++ Q.drop 20 = Q := List.take_append_drop _ _
      have htl : (Q.take 20).length = 20 := by rw [List.length_take]; omega
      have hi := HINS.out wr P (Q.take 20) (Q.drop 20) (by rw [hQ]; exact h6.2) (by rw [hQ]; exact h3)
      rw [h1, htl, ← hb] at hi
      have HI := hid hi
      have HX := hid (And.intro h1 (And.intro h2 (And.intro h3 (And.intro h4 (And.intro h5 (And.intro h6 (And.intro hQ htl)))))))
      have hwb : IntKind.i64.wrap ((b : Int) + 20) = ((b + 20 : Nat) : Int) := by rw [IntKind.wrap_i64]; omega
      clear hi h1 h2 h3 h4 h5 h6 hQ htl hQl hb HS
      go_wp2_with fail
      refine HI.out.mono ?_
      rintro e w2 ⟨rfl, B', hst, hsr, hat⟩
      have HF : Hid (∃ P Q k, P.length = b ∧ b = k * 20 ∧ (P ++ Q).length = N ∧ Bl 20 P ∧ Stab ky X (P ++ Q) ∧ At w g o (P ++ Q) w2) := by
        obtain ⟨h1, h2, h3, h4, h5, h6, hQ, htl⟩ := HX.out
        have hb := HB.out
        have hBl : B'.length = 20 := by rw [hst.length, htl]
        have e : (P ++ B') ++ Q.drop 20 = P ++ (B' ++ Q.drop 20) := by simp
        refine ⟨P ++ B', Q.drop 20, k + 1, by rw [List.length_append]; omega, by omega, ?_, h4.append (Bl.one hsr (by omega)) (k := k) (by omega), ?_, ?_⟩
        · simp only [List.length_append, List.length_drop] at h3 ⊢
          omega
        · rw [e]
          refine h5.trans ?_
          have := (Stab.refl (key := ky) P).append (hst.append (Stab.refl (key := ky) (Q.drop 20)))
          rwa [hQ] at this
        · rw [e]
          exact h6.next hat
      clear hst hsr hat HX HI
      go_wp2_with fail
      go_round
      case rel => exact ⟨b, b + 20, rfl, by go_num, rfl, hle, HF⟩
      case measure => simp [intOf]; omega
    · have hleI : ¬ (b : Int) ≤ (N : Int) := by omega
      obtain ⟨P, Q, k, h1, h2, h3, h4, h5, h6⟩ := HS.out
      have hb := HB.out
      have hQl : a + Q.length = N := by rw [List.length_append] at h3; omega
      have hi := HINS.out wr P Q [] (by rw [List.append_nil]; exact h6.2) (by rw [List.append_nil]; exact h3)
      rw [h1, hQl] at hi
      have HI := hid hi
      have HX := hid (And.intro h1 (And.intro h2 (And.intro h3 (And.intro h4 (And.intro h5 (And.intro h6 hQl))))))
      clear hi h1 h2 h3 h4 h5 h6 hQl hb HS
      go_wp2_with fail
      refine HI.out.mono ?_
      rintro e w2 ⟨rfl, B', hst, hsr, hat⟩
      have HF : Hid (∃ D, D.length = N ∧ Bl 20 D ∧ Stab ky X D ∧ At w g o D w2) := by
        obtain ⟨h1, h2, h3, h4, h5, h6, hQl⟩ := HX.out
        have hb := HB.out
        rw [List.append_nil] at hat
        refine ⟨P ++ B', by rw [List.length_append, hst.length]; omega, h4.append (Bl.one hsr (by rw [hst.length]; omega)) (k := k) (by omega), h5.trans ((Stab.refl (key := ky) P).append hst), h6.next hat⟩
      clear hst hsr hat HX HI
      go_wp2_with fail
      go_loopw [6, 7, 8, 9] (fun v6 v7 v8 v9 wr => ∃ (bs : Nat), v6 = .int .i64 (bs : Int) ∧ 0 < bs ∧ bs ≤ 4000000 ∧ Hid (∃ D, D.length = N ∧ Bl bs D ∧ Stab ky X D ∧ At w g o D wr)) (fun v6 _ _ _ _ => N - (intOf v6).toNat)
      case atStart => exact ⟨20, rfl, by omega, by omega, HF.out⟩
      case round =>
        obtain ⟨bs, rfl, hbs0, hbs1, HD⟩ := hrel
        by_cases hlt : bs < N
        · have hltI : (bs : Int) < (N : Int) := by omega
          obtain ⟨b2, hb2⟩ : ∃ b2, 2 * bs = b2 := ⟨_, rfl⟩
          have hw2 : IntKind.i64.wrap (2 * (bs : Int)) = (b2 : Int) := by rw [IntKind.wrap_i64]; omega
          have hw2' : IntKind.i64.wrap ((bs : Int) * 2) = (b2 : Int) := by rw [IntKind.wrap_i64]; omega
          have HB2 := hid hb2
          have HD0 : Hid (∃ P Q k, P.length = 0 ∧ 0 = k * b2 ∧ (P ++ Q).length = N ∧ Bl b2 P ∧ Bl bs Q ∧ Stab ky X (P ++ Q) ∧ At w g o (P ++ Q) wr) := by
            obtain ⟨D, d1, d2, d3, d4⟩ := HD.out
            exact ⟨[], D, 0, rfl, by simp, d1, Bl.nil _, d2, d3, d4⟩
          have hb2N : b2 ≤ 2 * N := by omega
          clear hb2 HD HF
          go_wp2_with fail
          go_loopw [7, 8] (fun v7 v8 wr => ∃ (a b : Nat), v7 = .int .i64 (a : Int) ∧ v8 = .int .i64 (b : Int) ∧ b ≤ N + b2 ∧ a ≤ N ∧ Hid (b = a + b2 ∧ ∃ P Q k, P.length = a ∧ a = k * b2 ∧ (P ++ Q).length = N ∧ Bl b2 P ∧ Bl bs Q ∧ Stab ky X (P ++ Q) ∧ At w g o (P ++ Q) wr)) (fun _ v8 _ => N + b2 - (intOf v8).toNat)
          case atStart => exact ⟨0, b2, rfl, rfl, by omega, Nat.zero_le _, by omega, HD0.out⟩
          case round =>
            obtain ⟨a, b, rfl, rfl, hbN, haN, HS⟩ := hrel
            obtain ⟨m, hm⟩ : ∃ m, a + bs = m := ⟨_, rfl⟩
            have hwm : IntKind.i64.wrap ((a : Int) + (bs : Int)) = (m : Int) := by rw [IntKind.wrap_i64]; omega
            by_cases hle : b ≤ N
            · have hleI : (b : Int) ≤ (N : Int) := by omega
              obtain ⟨hb, P, Q, k, h1, h2, h3, h4, h5, h6, h7⟩ := HS.out
              have hbb := HB2.out
              have hQl : b2 ≤ Q.length := by rw [List.length_append] at h3; omega
              obtain ⟨A, B, R, hQ, hAl, hBl⟩ : ∃ A B R, Q = A ++ (B ++ R) ∧ A.length = bs ∧ B.length = bs := ⟨Q.take bs, (Q.drop bs).take bs, (Q.drop bs).drop bs, by rw [List.take_append_drop, List.take_append_drop], by rw [List.length_take]; omega, by rw [List.length_take, List.length_drop]; omega⟩
              subst hQ
              obtain ⟨sA, hq2⟩ := h5.head hAl
              obtain ⟨sB, hq3⟩ := hq2.head hBl
              have hi := HSYM.out wr P A B R h7.2 h3 sA sB (by intro e; rw [e] at hAl; simp at hAl; omega) (by intro e; rw [e] at hBl; simp at hBl; omega)
              rw [h1, hAl, hm, show m + B.length = b by omega] at hi
              have HI := hid hi
              have HX := hid (And.intro hb (And.intro h1 (And.intro h2 (And.intro h3 (And.intro h4 (And.intro hq3 (And.intro h6 (And.intro h7 (And.intro hAl hBl)))))))))
              obtain ⟨bn, hbn⟩ : ∃ bn, b + b2 = bn := ⟨_, rfl⟩
              have hwb : IntKind.i64.wrap ((b : Int) + (b2 : Int)) = (bn : Int) := by rw [IntKind.wrap_i64]; omega
              have HBN := hid hbn
              have hbn2 : bn ≤ N + b2 ∧ b < bn := by omega
              clear hi hb h1 h2 h3 h4 h5 h6 h7 sA sB hq2 hq3 hAl hBl hQl hbb hm hbn HS
              go_wp2_with fail
              refine HI.out.mono ?_
              rintro e w2 ⟨rfl, M, hM, hat⟩
              have HF : Hid (bn = b + b2 ∧ ∃ P Q k, P.length = b ∧ b = k * b2 ∧ (P ++ Q).length = N ∧ Bl b2 P ∧ Bl bs Q ∧ Stab ky X (P ++ Q) ∧ At w g o (P ++ Q) w2) := by
                obtain ⟨hb, h1, h2, h3, h4, hq3, h6, h7, hAl, hBl⟩ := HX.out
                have hbb := HB2.out
                have hMl : M.length = b2 := by rw [hM.1.length, List.length_append]; omega
                have e : (P ++ M) ++ R = P ++ (M ++ R) := by simp
                refine ⟨HBN.out.symm, P ++ M, R, k + 1, by rw [List.length_append]; omega, by rw [Nat.add_mul]; omega, ?_, h4.append (Bl.one hM.2 (by omega)) (k := k) (by omega), hq3, ?_, ?_⟩
                · simp only [List.length_append] at h3 ⊢
                  omega
                · rw [e]
                  refine h6.trans ?_
                  have := (Stab.refl (key := ky) P).append (hM.1.append (Stab.refl (key := ky) R))
                  simpa [List.append_assoc] using this
                · rw [e]
                  exact h7.next hat
              clear hM hat HX HI
              go_wp2_with fail
              go_round
              case rel => exact ⟨b, bn, rfl, rfl, hbn2.1, hle, HF⟩
              case measure => simp [intOf]; omega
            · have hleI : ¬ (b : Int) ≤ (N : Int) := by omega
              by_cases hmn : m < N
              · have hmnI : (m : Int) < (N : Int) := by omega
                obtain ⟨hb, P, Q, k, h1, h2, h3, h4, h5, h6, h7⟩ := HS.out
                have hbb := HB2.out
                have hQl : a + Q.length = N := by rw [List.length_append] at h3; omega
                obtain ⟨A, B, hQ, hAl, hBl⟩ : ∃ A B, Q = A ++ B ∧ A.length = bs ∧ B.length = N - m := ⟨Q.take bs, Q.drop bs, by rw [List.take_append_drop], by rw [List.length_take]; omega, by rw [List.length_drop]; omega⟩
                subst hQ
                obtain ⟨sA, hq2⟩ := h5.head hAl
                have sB := hq2.all (by omega)
                have hi := HSYM.out wr P A B [] (by rw [List.append_nil]; exact h7.2) (by rw [List.append_nil]; exact h3) sA sB (by intro e; rw [e] at hAl; simp at hAl; omega) (by intro e; rw [e] at hBl; simp at hBl; omega)
                rw [h1, hAl, hm, show m + B.length = N by omega] at hi
                have HI := hid hi
                have HX := hid (And.intro hb (And.intro h1 (And.intro h2 (And.intro h3 (And.intro h4 (And.intro h6 (And.intro h7 (And.intro hAl (And.intro hBl hm)))))))))
                clear hi hb h1 h2 h3 h4 h5 h6 h7 sA sB hq2 hAl hBl hQl hbb hm HS
                go_wp2_with fail
                refine HI.out.mono ?_
                rintro e w2 ⟨rfl, M, hM, hat⟩
                have HF : Hid (∃ D, D.length = N ∧ Bl b2 D ∧ Stab ky X D ∧ At w g o D w2) := by
                  obtain ⟨hb, h1, h2, h3, h4, h6, h7, hAl, hBl, hm⟩ := HX.out
                  have hbb := HB2.out
                  have hMl : M.length = A.length + B.length := by rw [hM.1.length, List.length_append]
                  rw [List.append_nil] at hat
                  refine ⟨P ++ M, by simp only [List.length_append] at h3 ⊢; omega, h4.append (Bl.one hM.2 (by omega)) (k := k) (by omega), h6.trans ((Stab.refl (key := ky) P).append hM.1), h7.next hat⟩
                have HB3 : Hid (bs < b2 ∧ b2 ≤ 4000000) := by have := HB2.out; rw [Hid]; omega
                clear hM hat HX HI
                go_wp2_with fail
                go_round
                case rel => exact ⟨b2, rfl, by have := HB3.out; omega, HB3.out.2, HF⟩
                case measure => simp [intOf]; have := HB3.out; omega
              · have hmnI : ¬ (m : Int) < (N : Int) := by omega
                have HF : Hid (∃ D, D.length = N ∧ Bl b2 D ∧ Stab ky X D ∧ At w g o D wr) := by
                  obtain ⟨hb, P, Q, k, h1, h2, h3, h4, h5, h6, h7⟩ := HS.out
                  have hbb := HB2.out
                  have hQl : a + Q.length = N := by rw [List.length_append] at h3; omega
                  exact ⟨P ++ Q, h3, h4.append (Bl.one (h5.all (by omega)) (by omega)) (k := k) (by omega), h6, h7⟩
                have HB3 : Hid (bs < b2 ∧ b2 ≤ 4000000) := by have := HB2.out; rw [Hid]; omega
                clear hm HS
                go_wp2_with fail
                go_round
                case rel => exact ⟨b2, rfl, by have := HB3.out; omega, HB3.out.2, HF⟩
                case measure => simp [intOf]; have := HB3.out; omega
        · have hltI : ¬ (bs : Int) < (N : Int) := by omega
          go_wp2_with fail
          go_end0
          obtain ⟨D, d1, d2, d3, d4⟩ := HD.out
          exact ⟨rfl, D, d3, d2.all (by omega), d4⟩

theorem sortStable_any (w : World) (g o : Nat) (X : List Ent) (N cap : Nat) (h : EOwn w g o X) (hN : X.length = N) (hl : N ≤ 1000000) :
    Calls Tryz.prog 134 #[.slice (some ⟨g, o, none⟩) N cap, cmpV] w fun e w' => e = .returned (.tuple #[]) ∧ ∃ X', Stab ky X X' ∧ Srt ky lexB X' ∧ At w g o X' w' := by
  have HS := hid (stable_any w g o X N cap h hN hl)
  unfold cmpV at HS ⊢
  clear h hN
  go_enter Tryz.func134, Tryz.ntmps134
  go_wp2_with fail
  refine HS.out.mono ?_
  rintro e w2 ⟨rfl, h2⟩
  have H2 := hid h2
  clear h2
  go_wp2_with fail
  go_end0
  exact ⟨rfl, H2.out⟩
end Go.Proofs.YthmimipoooemjaaGreatDoor.Sg
end

section
/-
  Of entries that follow one another with one name the first stays: slices.CompactFunc by namesake.
-/
namespace Go.Proofs.YthmimipoooemjaaGreatDoor.Sg
open Go.RowKit
open Stb (Stab Srt Mrg)
open Sim (hid Kp No)

theorem cells_b8 (l : List Int) (h : ∀ x ∈ l, 0 ≤ x ∧ x ≤ 255) : (l.map fun x => x.toNat.toUInt8).map Extern.Stop.cell = b8 l := by
  unfold b8
  rw [List.map_map]
  apply List.map_congr_left
  intro x hx
  have := h x hx
  simp [Extern.Stop.cell]
  omega
theorem map_inj8 : ∀ (xs ys : List Int), (∀ x ∈ xs, 0 ≤ x ∧ x ≤ 255) → (∀ x ∈ ys, 0 ≤ x ∧ x ≤ 255) → (xs.map fun x => x.toNat.toUInt8) = (ys.map fun x => x.toNat.toUInt8) → xs = ys
  | [], [], _, _, _ => rfl
  | [], _ :: _, _, _, h => by simp at h
  | _ :: _, [], _, _, h => by simp at h
  | x :: xs, y :: ys, h1, h2, h => by
    simp only [List.map_cons, List.cons.injEq] at h
    have hx := h1 x (by simp)
    have hy := h2 y (by simp)
    have e := congrArg UInt8.toNat h.1
    simp at e
    have e2 : x = y := by omega
    rw [e2, map_inj8 xs ys (fun z hz => h1 z (by simp [hz])) (fun z hz => h2 z (by simp [hz])) h.2]
/-- Two names. -/
theorem eqHash (xs ys : List Int) (hx : xs.length = 32) (hy : ys.length = 32) (bx : ∀ x ∈ xs, 0 ≤ x ∧ x ≤ 255) (bY : ∀ x ∈ ys, 0 ≤ x ∧ x ≤ 255) (w : World) :
    (Op.equalIn 10000 53 (.agg (b8 xs).toArray) (.agg (b8 ys).toArray)).run Tryz.prog w = .ok (decide (xs = ys)) w := by
  have h := run_equalIn_bytes (P := Tryz.prog) w 9998 53 5 32 Tryz.underlying53 Tryz.underlying5 Tryz.sizeOf5 (xs.map fun x => x.toNat.toUInt8) (ys.map fun x => x.toNat.toUInt8) (by simpa using hx) (by simpa using hy)
  rw [cells_b8 xs bx, cells_b8 ys bY] at h
  have e : ((xs.map fun x => x.toNat.toUInt8) == (ys.map fun x => x.toNat.toUInt8)) = decide (xs = ys) := by
    rw [Bool.eq_iff_iff]
    simp only [beq_iff_eq, decide_eq_true_eq]
    exact ⟨map_inj8 xs ys bx bY, fun e => by rw [e]⟩
  rw [e] at h
  exact h

set_option maxHeartbeats 1000000 in
set_option maxRecDepth 100000 in
theorem namesake_any (x y : Ent) (w : World) (hx : EOk x) (hy : EOk y) :
    Calls Tryz.prog 136 #[.agg (entC x).toArray, .agg (entC y).toArray] w fun e w' => e = .returned (.bool (decide (x.1 = y.1))) ∧ Below w.heap.size w w' := by
  have hq := fun W => eqHash x.1 y.1 hx.1 hy.1 hx.2 hy.2 W
  have HR : Hid (∀ V, Below (w.heap.size + 2) ((w.alloc (.cells (entC x).toArray 155)).alloc (.cells (entC y).toArray 155)) V → V.rangeAt w.heap.size 0 (b8 x.1) ∧ V.rangeAt (w.heap.size + 1) 0 (b8 y.1)) := fun V hV => by
    have h1 := rng_name (World.rangeAt_alloc (rng_new w (entC x) 155) (.cells (entC y).toArray 155))
    have h2 := rng_name (rng_new (w.alloc (.cells (entC x).toArray 155)) (entC y) 155)
    have e : (w.alloc (.cells (entC x).toArray 155)).heap.size = w.heap.size + 1 := by simp
    rw [e] at h2
    exact ⟨fun j v hv => (hV.cell (p := ⟨w.heap.size, _, none⟩) (by show w.heap.size < _; omega)).trans (h1 j v hv), fun j v hv => (hV.cell (p := ⟨w.heap.size + 1, _, none⟩) (by show w.heap.size + 1 < _; omega)).trans (h2 j v hv)⟩
  have HI1 : Hid ((Tryz.prog.info? 53).map (·.size) = some (b8 x.1).length) := by rw [Hid, b8_length, hx.1]; exact infH
  have HI2 : Hid ((Tryz.prog.info? 53).map (·.size) = some (b8 y.1).length) := by rw [Hid, b8_length, hy.1]; exact infH
  generalize entC x = X at *
  generalize entC y = Y at *
  generalize b8 x.1 = bx at *
  generalize b8 y.1 = bY at *
  generalize decide (x.1 = y.1) = z at *
  clear hx hy
  have HBB : Hid (Below w.heap.size w ((w.alloc (.cells X.toArray 155)).alloc (.cells Y.toArray 155))) := ((Below.refl _ _).alloc (Nat.le_refl _) _).alloc (by simp) _
  go_enter Tryz.func136, Tryz.ntmps136
  generalize hW : (w.alloc (.cells X.toArray 155)).alloc (.cells Y.toArray 155) = W at *
  go_wp2_with (first
    | (refine wpList_load_mid (by rfl) 53 _ (by rfl) w.heap.size 0 (by rfl) bx _ (HR.out _ (Below.refl _ _)).1 Tryz.underlying53 rfl HI1.out ?_)
    | (refine wpList_load_mid (by rfl) 53 _ (by rfl) (w.heap.size + 1) 0 (by rfl) bY _ (HR.out _ (Below.refl _ _)).2 Tryz.underlying53 rfl HI2.out ?_))
  go_ret
  exact ⟨rfl, HBB.out⟩

/-- Those of which the one ahead has another name. -/
def kept : Ent → List Ent → List Ent
  | _, [] => []
  | p, y :: r => if y.1 = p.1 then kept y r else y :: kept y r
def cmpct : List Ent → List Ent
  | [] => []
  | x :: r => x :: kept x r
theorem kept_snoc : ∀ (p : Ent) (r : List Ent) (y : Ent), kept p (r ++ [y]) = kept p r ++ (if y.1 = ((p :: r).getLast (by simp)).1 then [] else [y])
  | p, [], y => by
    rw [List.nil_append, kept, kept, kept, List.nil_append]
    by_cases h : y.1 = p.1
    · rw [if_pos h, if_pos (by simpa using h)]
    · rw [if_neg h, if_neg (by simpa using h)]
  | p, z :: r, y => by
    have ih := kept_snoc z r y
    have e : ((p :: z :: r).getLast (by simp)) = ((z :: r).getLast (by simp)) := by rw [List.getLast_cons (by simp)]
    rw [List.cons_append, kept, kept, ih, e]
    split <;> simp
/-- One more is looked at. -/
theorem cmpct_take {d : List Ent} {k : Nat} {x y : Ent} (hk : 0 < k) (hx : d[k - 1]? = some x) (hy : d[k]? = some y) : cmpct (d.take (k + 1)) = cmpct (d.take k) ++ (if y.1 = x.1 then [] else [y]) := by
  cases d with
  | nil => simp at hy
  | cons z d =>
    obtain ⟨j, rfl⟩ : ∃ j, k = j + 1 := ⟨k - 1, by omega⟩
    have hy' : d[j]? = some y := by simpa using hy
    have e : (z :: d).take (j + 1 + 1) = z :: (d.take j ++ [y]) := by
      rw [List.take_succ_cons, List.take_add_one, hy']
      rfl
    have e2 : (z :: d).take (j + 1) = z :: d.take j := by rw [List.take_succ_cons]
    have hl : ((z :: d.take j).getLast (by simp)) = x := by
      have h1 : (z :: d).take (j + 1) = z :: d.take j := e2
      have hjl : j + 1 ≤ (z :: d).length := by have := (List.getElem?_eq_some_iff.1 hy).1; omega
      have h2 : (z :: d.take j)[j]? = some x := by rw [← e2, List.getElem?_take_of_lt (by omega)]; simpa using hx
      have h3 : (z :: d.take j).length = j + 1 := by rw [← e2, List.length_take]; omega
      rw [List.getLast_eq_getElem]
      have h4 := (List.getElem?_eq_some_iff.1 h2).2
      simp only [h3, Nat.add_sub_cancel]
      exact h4
    rw [e, e2, cmpct, cmpct, kept_snoc, hl]
    simp
theorem kept_length : ∀ (p : Ent) (r : List Ent), (kept p r).length ≤ r.length
  | _, [] => Nat.le_refl _
  | p, y :: r => by
    have := kept_length y r
    rw [kept]
    split
    · simp; omega
    · simp; omega
theorem cmpct_length (d : List Ent) : (cmpct d).length ≤ d.length := by
  cases d with
  | nil => exact Nat.le_refl _
  | cons x r => have := kept_length x r; simp [cmpct]; omega
theorem EOwn.front {w : World} {g o : Nat} {d : List Ent} (h : EOwn w g o d) (k : Nat) : EOwn w g o (d.take k) := by
  refine ⟨⟨h.1.1, fun i e hi => ?_⟩, fun i hi => h.2 i (by rw [List.length_take] at hi; omega)⟩
  have hik : i < k := by have := (List.getElem?_eq_some_iff.1 hi).1; rw [List.length_take] at this; omega
  rw [List.getElem?_take_of_lt hik] at hi
  exact h.1.2 i e hi
/-- The ones behind the first k are written over, whatever with. -/
theorem EOwn.cleared {w : World} {g o : Nat} {d : List Ent} (h : EOwn w g o d) (k : Nat) (Z : List Value) : EOwn (w.setCells g (o + k * 35) Z) g o (d.take k) := by
  have hf := h.front k
  refine ⟨⟨Nat.lt_of_lt_of_le h.1.1 (setCells_kp w g _ _).size, fun i e hi => ?_⟩, fun i hi => World.there_setCells (hf.2 i hi) _ _ _⟩
  have hik : i < k := by have := (List.getElem?_eq_some_iff.1 hi).1; rw [List.length_take] at this; omega
  obtain ⟨h1, h2⟩ := hf.1.2 i e hi
  refine ⟨h1, World.rangeAt_setCells_apart h2 _ _ _ (.inr (.inl ?_))⟩
  rw [entC_length h1]
  omega
def zE : List Value := entC (List.replicate 32 0, 0, 0, 0)
theorem zero48 (w : World) : (zeroValue 155).run Tryz.prog w = .ok (.agg zE.toArray) w := by kernel_rfl
theorem run_clear_ents (w : World) (g o n c : Nat) (ty : TypeId) (hn : n ≠ 0) (ht : ∀ i, i < n → w.there g (o + i * 35) 35) :
    ∃ Z : List Value, (Builtin.clear_ #[81] ty #[.slice (some ⟨g, o, none⟩) n c]).run Tryz.prog w = .ok (.tuple #[]) (w.setCells g o Z) := by
  obtain ⟨Z, hZ⟩ : ∃ Z, Builtin.zeroCells zE.toArray n = Z := ⟨_, rfl⟩
  have hzs : zE.toArray.size = 35 := rfl
  have hzl : Z.size = n * 35 := by rw [← hZ]; simp [Builtin.zeroCells, hzs]
  have hz1 : ∀ v ∈ Z.toList, v.oneCell' = true := by
    intro v hv
    rw [← hZ] at hv
    simp only [Builtin.zeroCells, Array.toList_map, List.mem_map] at hv
    obtain ⟨i, _, rfl⟩ := hv
    have hi : i % zE.toArray.size < zE.toArray.size := Nat.mod_lt _ (by rw [hzs]; omega)
    rw [getElem!_pos zE.toArray _ hi]
    have hzone : ∀ v ∈ zE, v.oneCell' = true := entC_one _
    exact hzone _ (by simp)
  have key : ∀ j, j < n * 35 → (w.cell? ⟨g, o + j, none⟩).isSome = true ∧ w.frozen? ⟨g, o + j, none⟩ = false := fun j hj => by
    have h1 := ht (j / 35) (by omega) (j % 35) (Nat.mod_lt _ (by omega))
    rwa [show o + j / 35 * 35 + j % 35 = o + j by omega] at h1
  refine ⟨Z.toList, ?_⟩
  have hst := run_storeCells_cells (P := Tryz.prog) g o Z.toList 0 w (fun j hj => by simpa using (key j (by simpa [hzl] using hj)).1) (fun j hj => by simpa using (key j (by simpa [hzl] using hj)).2) hz1
  simp only [Nat.add_zero] at hst
  obtain ⟨m, rfl⟩ : ∃ m, n = m + 1 := ⟨n - 1, by omega⟩
  have hc : (Value.agg zE.toArray).cells = zE.toArray := rfl
  simp only [Builtin.clear_, run_underlying Tryz.underlying81, Sem.run_bind, Result.andThen_ok, List.getElem?_toArray, List.getElem?_cons_zero, zero48, hc, hZ, hst, Sem.run_pure]

set_option maxHeartbeats 4000000 in
set_option maxRecDepth 100000 in
theorem compact_any (w : World) (g o : Nat) (d : List Ent) (N cap : Nat) (h : EOwn w g o d) (hN : d.length = N) (hl : N ≤ 1000000) (h0 : 0 < N) (hcap : N ≤ cap) (hcap2 : cap ≤ maxLen) :
    Calls Tryz.prog 135 #[.slice (some ⟨g, o, none⟩) N cap, .func (.func 136) #[] #[]] w fun e w' => e = .returned (.slice (some ⟨g, o, none⟩) (cmpct d).length cap) ∧ At w g o (cmpct d) w' := by
  have H0 := hid (At.start h)
  have HN := hid hN
  have HOK := hid h.1.ok
  unfold maxLen at hcap2
  clear h hN
  by_cases h1 : N < 2
  · have h1I : (N : Int) < 2 := by omega
    have HE : Hid (cmpct d = d) := by
      have hl := HN.out
      cases d with
      | nil => rfl
      | cons x r =>
        cases r with
        | nil => rfl
        | cons y r => simp at hl; omega
    go_enter Tryz.func135, Tryz.ntmps135
    go_wp2_with fail
    go_ret
    rw [HE.out, HN.out]
    exact ⟨rfl, H0.out⟩
  · have h1I : ¬ (N : Int) < 2 := by omega
    have HE1 : Hid (cmpct (d.take 1) = d.take 1) := by
      have hl := HN.out
      cases d with
      | nil => rfl
      | cons x r => rfl
    go_enter Tryz.func135, Tryz.ntmps135
    go_wp2_with fail
    go_loopw [5] (fun v5 wr => ∃ k : Nat, v5 = .int .i64 (k : Int) ∧ 0 < k ∧ k ≤ N ∧ Hid (cmpct (d.take k) = d.take k ∧ At w g o d wr)) (fun v5 _ => N - (intOf v5).toNat)
    case atStart => exact ⟨1, rfl, by omega, by omega, HE1.out, H0.out⟩
    case round =>
      obtain ⟨k, rfl, hk0, hkN, HS⟩ := hrel
      by_cases hlt : k < N
      · have hltI : (k : Int) < (N : Int) := by omega
        obtain ⟨hc, hA⟩ := HS.out
        have hdl := HN.out
        obtain ⟨x, hx⟩ : ∃ x, d[k]? = some x := ⟨_, List.getElem?_eq_getElem (by omega)⟩
        obtain ⟨y, hy⟩ : ∃ y, d[k - 1]? = some y := ⟨_, List.getElem?_eq_getElem (by omega)⟩
        have hct := cmpct_take hk0 hy hx
        obtain ⟨k1, hk1⟩ : ∃ k1, k - 1 = k1 := ⟨_, rfl⟩
        rw [hk1] at hy
        have hwk : IntKind.i64.wrap ((k : Int) - 1) = (k1 : Int) := by rw [IntKind.wrap_i64]; omega
        have hk1N : (k1 : Int) < (N : Int) := by omega
        have hxok := HOK.out x (List.mem_of_getElem? hx)
        have hyok := HOK.out y (List.mem_of_getElem? hy)
        have HCMP := hid (fun V => namesake_any x y V hxok hyok)
        have Hx : Hid (∀ V, Kp No wr V → V.rangeAt g (o + k * 35) (entC x)) := fun V hV => ((hA.kept hV).range hx).2
        have Hy : Hid (∀ V, Kp No wr V → V.rangeAt g (o + k1 * 35) (entC y)) := fun V hV => ((hA.kept hV).range hy).2
        have HIx := hid (inf hxok)
        have HIy := hid (inf hyok)
        have HAA := hid hA
        have HCT := hid (And.intro hc (And.intro hct hx))
        obtain ⟨cx, hcx⟩ : ∃ cx, entC x = cx := ⟨_, rfl⟩
        obtain ⟨cy, hcy⟩ : ∃ cy, entC y = cy := ⟨_, rfl⟩
        rw [hcx, hcy] at HCMP
        rw [hcx] at Hx HIx
        rw [hcy] at Hy HIy
        have hk0I : (1 : Int) ≤ (k : Int) := by omega
        clear hcx hcy hc hA hx hy hct hk1 hxok hyok hdl HS
        go_wp2_with fail
        by_cases hxy : x.1 = y.1
        · rw [decide_eq_true hxy] at HCMP
          have HC2 : Hid (d.take k = cmpct (d.take (k + 1))) := by
            obtain ⟨h1, h2, _⟩ := HCT.out
            rw [Hid, h2, if_pos hxy, List.append_nil, h1]
          clear hxy HCT
          refine wp_region_held_drew (S := fun V => Kp No wr V) (by kernel_rfl) ((Kp.refl _ _).drew) (fun hHeld => ?_)
          refine wpAnyH_take (i := 0) (oi := { dst := some 18, op := Op.move (Operand.tmp 1), type := 226, pos := "slices.go:401", after := #[], guard := none }) (v := .func (.func 136) #[] #[]) rfl (by kernel_rfl) (by kernel_rfl) (by kernel_rfl) (fun _ _ _ h => h) (Or.inl ⟨by rfl, fun w' hw' => by (clear hw'; go_simp)⟩) hHeld ?_
          simp only [Act.put, List.setIfInBounds_toArray, List.set_cons_zero, List.set_cons_succ]
          refine wpAnyH_take (i := 1) (oi := { dst := some 19, op := Op.move (Operand.tmp 0), type := 81, pos := "slices.go:401", after := #[], guard := none }) (v := .slice (some ⟨g, o, none⟩) N cap) rfl (by kernel_rfl) (by kernel_rfl) (by kernel_rfl) (fun _ _ _ h => h) (Or.inl ⟨by rfl, fun w' hw' => by (clear hw'; go_simp)⟩) hHeld ?_
          simp only [Act.put, List.setIfInBounds_toArray, List.set_cons_zero, List.set_cons_succ]
          refine wpAnyH_take (i := 2) (oi := { dst := some 20, op := Op.move (Operand.tmp 5), type := 3, pos := "slices.go:401", after := #[], guard := none }) (v := .int .i64 (k : Int)) rfl (by kernel_rfl) (by kernel_rfl) (by kernel_rfl) (fun _ _ _ h => h) (Or.inl ⟨by rfl, fun w' hw' => by (clear hw'; go_simp)⟩) hHeld ?_
          simp only [Act.put, List.setIfInBounds_toArray, List.set_cons_zero, List.set_cons_succ]
          refine wpAnyH_take (i := 3) (oi := { dst := some 21, op := Op.indexAddr 81 (Operand.tmp 19) (Operand.tmp 20), type := 0, pos := "slices.go:401", after := #[{ on := 1, ground := Ground.data }, { on := 2, ground := Ground.data }], guard := none }) (v := .pointer (some ⟨g, o + k * 35, none⟩)) rfl (by kernel_rfl) (by kernel_rfl) (by kernel_rfl) (fun _ _ _ h => h) (Or.inl ⟨by rfl, fun w' hw' => by (clear hw'; go_simp)⟩) hHeld ?_
          simp only [Act.put, List.setIfInBounds_toArray, List.set_cons_zero, List.set_cons_succ]
          refine wpAnyH_take (i := 4) (oi := { dst := some 22, op := Op.load 155 (Operand.tmp 21), type := 155, pos := "slices.go:401", after := #[{ on := 3, ground := Ground.data }], guard := none }) (v := .agg cx.toArray) rfl (by kernel_rfl) (by kernel_rfl) (by kernel_rfl) (fun _ _ _ h => h) (yieldsIf_load_mid (by rfl) _ _ rfl g (o + k * 35) rfl cx _ (Hx.out) Tryz.underlying155 rfl HIx.out) hHeld ?_
          simp only [Act.put, List.setIfInBounds_toArray, List.set_cons_zero, List.set_cons_succ]
          refine wpAnyH_take (i := 5) (oi := { dst := some 23, op := Op.move (Operand.tmp 0), type := 81, pos := "slices.go:401", after := #[], guard := none }) (v := .slice (some ⟨g, o, none⟩) N cap) rfl (by kernel_rfl) (by kernel_rfl) (by kernel_rfl) (fun _ _ _ h => h) (Or.inl ⟨by rfl, fun w' hw' => by (clear hw'; go_simp)⟩) hHeld ?_
          simp only [Act.put, List.setIfInBounds_toArray, List.set_cons_zero, List.set_cons_succ]
          refine wpAnyH_take (i := 6) (oi := { dst := some 24, op := Op.move (Operand.tmp 5), type := 3, pos := "slices.go:401", after := #[], guard := none }) (v := .int .i64 (k : Int)) rfl (by kernel_rfl) (by kernel_rfl) (by kernel_rfl) (fun _ _ _ h => h) (Or.inl ⟨by rfl, fun w' hw' => by (clear hw'; go_simp)⟩) hHeld ?_
          simp only [Act.put, List.setIfInBounds_toArray, List.set_cons_zero, List.set_cons_succ]
          refine wpAnyH_take (i := 7) (oi := { dst := some 25, op := Op.binOp BinOp.sub 3 (Operand.tmp 24) (Operand.const (Value.int IntKind.i64 1)) 3, type := 3, pos := "slices.go:401", after := #[{ on := 6, ground := Ground.data }], guard := none }) (v := .int .i64 (k1 : Int)) rfl (by kernel_rfl) (by kernel_rfl) (by kernel_rfl) (fun _ _ _ h => h) (Or.inl ⟨by rfl, fun w' hw' => by (clear hw'; go_simp)⟩) hHeld ?_
          simp only [Act.put, List.setIfInBounds_toArray, List.set_cons_zero, List.set_cons_succ]
          refine wpAnyH_take (i := 8) (oi := { dst := some 26, op := Op.indexAddr 81 (Operand.tmp 23) (Operand.tmp 25), type := 0, pos := "slices.go:401", after := #[{ on := 5, ground := Ground.data }, { on := 7, ground := Ground.data }], guard := none }) (v := .pointer (some ⟨g, o + k1 * 35, none⟩)) rfl (by kernel_rfl) (by kernel_rfl) (by kernel_rfl) (fun _ _ _ h => h) (Or.inl ⟨by rfl, fun w' hw' => by (clear hw'; go_simp)⟩) hHeld ?_
          simp only [Act.put, List.setIfInBounds_toArray, List.set_cons_zero, List.set_cons_succ]
          refine wpAnyH_take (i := 9) (oi := { dst := some 27, op := Op.load 155 (Operand.tmp 26), type := 155, pos := "slices.go:401", after := #[{ on := 8, ground := Ground.data }], guard := none }) (v := .agg cy.toArray) rfl (by kernel_rfl) (by kernel_rfl) (by kernel_rfl) (fun _ _ _ h => h) (yieldsIf_load_mid (by rfl) _ _ rfl g (o + k1 * 35) rfl cy _ (Hy.out) Tryz.underlying155 rfl HIy.out) hHeld ?_
          simp only [Act.put, List.setIfInBounds_toArray, List.set_cons_zero, List.set_cons_succ]
          refine wpAnyH_ready (rs := [10]) (by kernel_rfl) (by simp) ?_
          refine AllReadyH.cons (o := { dst := some 28, op := Op.call { callee := Callee.value (Operand.tmp 18), args := #[Operand.tmp 22, Operand.tmp 27], argTypes := #[155, 155] }, type := 4, pos := "slices.go:401", after := #[{ on := 0, ground := Ground.data }, { on := 4, ground := Ground.data }, { on := 9, ground := Ground.data }], guard := none }) rfl (fun K hK => ?_) AllReadyH.nil
          go_simp
          refine (HCMP.out _).mono ?_
          rintro e w3 ⟨rfl, h3⟩
          have HK3 : Hid (Kp No wr w3) := (Kp.refl No wr).drew.andNone (Kp.below h3)
          clear h3
          go_wp2_with fail
          refine hK.out _ _ (HK3.out) (fun hh => ?_)
          clear hK K hHeld
          have hHeld := hh
          clear hh
          try simp only [Act.put, List.setIfInBounds_toArray, List.set_cons_zero, List.set_cons_succ]
          refine wpAnyH_done (by kernel_rfl) ?_ _
          have HA3 := hid (HAA.out.kept HK3.out)
          clear hHeld HK3 HCMP Hx Hy HIx HIy HAA
          have HD0 : Hid (∃ D, D.length = N ∧ D.take k = cmpct (d.take (k + 1)) ∧ D.drop (k + 1 - 1) = d.drop (k + 1 - 1) ∧ At w g o D w3) := ⟨d, HN.out, HC2.out, rfl, HA3.out⟩
          go_wp2_with fail
          generalize hM : N - k = M
          generalize ho2 : o + k * 35 = o2
          have HMO := hid (And.intro hM ho2)
          have hM0 : 0 < M := by omega
          have hMle : M ≤ N := by omega
          have hMN : k + M = N := by omega
          have HKM := hid hMN
          clear hM ho2 hMN HC2 HA3
          go_loopw [5, 7] (fun v5 v7 wr => ∃ (q j : Nat), v5 = .int .i64 (q : Int) ∧ v7 = .int .i64 (j : Int) ∧ 0 < q ∧ 1 ≤ j ∧ j ≤ M ∧ q < N ∧ Hid (q < k + j ∧ ∃ D, D.length = N ∧ D.take q = cmpct (d.take (k + j)) ∧ D.drop (k + j - 1) = d.drop (k + j - 1) ∧ At w g o D wr)) (fun _ v7 _ => M - (intOf v7).toNat)
          case atStart => exact ⟨k, 1, rfl, rfl, hk0, Nat.le_refl _, hM0, hlt, by omega, HD0.out⟩
          case round =>
            obtain ⟨q, j, rfl, rfl, hq0, hj1', hjM, hqN, HT⟩ := hrel
            by_cases hjl : j < M
            · have hjlI : (j : Int) < (M : Int) := by omega
              obtain ⟨hqk, D, hDl, hDt, hDd, hA⟩ := HT.out
              have hkm := HKM.out
              have hmo := HMO.out
              have hdl := HN.out
              obtain ⟨x, hx⟩ : ∃ x, d[k + j]? = some x := ⟨_, List.getElem?_eq_getElem (by omega)⟩
              obtain ⟨y, hy⟩ : ∃ y, d[k + j - 1]? = some y := ⟨_, List.getElem?_eq_getElem (by omega)⟩
              have hDx : D[k + j]? = some x := by
                have e := congrArg (fun l => l[1]?) hDd
                simp only [List.getElem?_drop] at e
                rwa [show k + j - 1 + 1 = k + j by omega, hx] at e
              have hDy : D[k + j - 1]? = some y := by
                have e := congrArg (fun l => l[0]?) hDd
                simp only [List.getElem?_drop, Nat.add_zero] at e
                rwa [hy] at e
              have hct := cmpct_take (k := k + j) (by omega) hy hx
              obtain ⟨j1, hj1⟩ : ∃ j1, j - 1 = j1 := ⟨_, rfl⟩
              have hwj : IntKind.i64.wrap ((j : Int) - 1) = (j1 : Int) := by rw [IntKind.wrap_i64]; omega
              have hj1M : (j1 : Int) < (M : Int) := by omega
              have hxok := HOK.out x (List.mem_of_getElem? hx)
              have hyok := HOK.out y (List.mem_of_getElem? hy)
              have HCMP := hid (fun V => namesake_any x y V hxok hyok)
              have Hx : Hid (∀ V, Kp No wr V → V.rangeAt g (o2 + j * 35) (entC x)) := fun V hV => by
                have := ((hA.kept hV).range hDx).2
                rwa [show o + (k + j) * 35 = o2 + j * 35 by omega] at this
              have Hy : Hid (∀ V, Kp No wr V → V.rangeAt g (o2 + j1 * 35) (entC y)) := fun V hV => by
                have := ((hA.kept hV).range hDy).2
                rwa [show o + (k + j - 1) * 35 = o2 + j1 * 35 by omega] at this
              have HIx := hid (inf hxok)
              have HIy := hid (inf hyok)
              have HAx := hid (infA hxok)
              have HOx := hid (all_oneCell_toArray (entC_one x))
              have HAA := hid hA
              have HYES : Hid (x.1 = y.1 → ∀ V, Kp No wr V → q < k + (j + 1) ∧ ∃ D, D.length = N ∧ D.take q = cmpct (d.take (k + (j + 1))) ∧ D.drop (k + (j + 1) - 1) = d.drop (k + (j + 1) - 1) ∧ At w g o D V) := fun e V hV => by
                refine ⟨by omega, D, hDl, ?_, ?_, hA.kept hV⟩
                · rw [show k + (j + 1) = k + j + 1 by omega, hct, if_pos e, List.append_nil]; exact hDt
                · rw [show k + (j + 1) - 1 = (k + j - 1) + 1 by omega, ← List.drop_drop, ← List.drop_drop, hDd]
              have HNO : Hid (x.1 ≠ y.1 → ∀ V, Kp No wr V → V.there g (o + q * 35) (entC x).toArray.size ∧ (q + 1 < k + (j + 1) ∧ ∃ D, D.length = N ∧ D.take (q + 1) = cmpct (d.take (k + (j + 1))) ∧ D.drop (k + (j + 1) - 1) = d.drop (k + (j + 1) - 1) ∧ At w g o D (V.setCells g (o + q * 35) (entC x)))) := fun e V hV => by
                have hAV := hA.kept hV
                refine ⟨hAV.2.there (by omega) hxok, by omega, D.set q x, by rw [List.length_set]; exact hDl, ?_, ?_, hAV.set (by omega) hxok⟩
                · have hqD : q < D.length := by omega
                  rw [show k + (j + 1) = k + j + 1 by omega, hct, if_neg e, ← hDt, List.take_add_one, List.getElem?_set_self hqD, List.take_set_of_le (Nat.le_refl _)]
                  rfl
                · rw [show k + (j + 1) - 1 = (k + j - 1) + 1 by omega, List.drop_set_of_lt (by omega), ← List.drop_drop, ← List.drop_drop, hDd]
              obtain ⟨cx, hcx⟩ : ∃ cx, entC x = cx := ⟨_, rfl⟩
              obtain ⟨cy, hcy⟩ : ∃ cy, entC y = cy := ⟨_, rfl⟩
              rw [hcx, hcy] at HCMP
              rw [hcx] at Hx HIx HAx HOx HNO
              rw [hcy] at Hy HIy
              have hj0I : (1 : Int) ≤ (j : Int) := by omega
              have hqI : (q : Int) < (N : Int) := by omega
              have hwq : IntKind.i64.wrap ((q : Int) + 1) = ((q + 1 : Nat) : Int) := by rw [IntKind.wrap_i64]; omega
              have HQN : Hid (q + 1 < N) := by rw [Hid]; omega
              clear hcx hcy hqk hDl hDt hDd hA hkm hmo hdl hx hy hDx hDy hct hj1 hxok hyok HT
              go_wp2_with fail
              by_cases hxy : x.1 = y.1
              · rw [decide_eq_true hxy] at HCMP
                have HY2 := hid (HYES.out hxy)
                clear hxy HYES HNO
                refine wp_region_held_drew (S := fun V => Kp No wr V) (by kernel_rfl) ((Kp.refl _ _).drew) (fun hHeld => ?_)
                refine wpAnyH_take (i := 0) (oi := { dst := some 38, op := Op.move (Operand.tmp 1), type := 226, pos := "slices.go:404", after := #[], guard := none }) (v := .func (.func 136) #[] #[]) rfl (by kernel_rfl) (by kernel_rfl) (by kernel_rfl) (fun _ _ _ h => h) (Or.inl ⟨by rfl, fun w' hw' => by (clear hw'; go_simp)⟩) hHeld ?_
                simp only [Act.put, List.setIfInBounds_toArray, List.set_cons_zero, List.set_cons_succ]
                refine wpAnyH_take (i := 1) (oi := { dst := some 39, op := Op.move (Operand.tmp 6), type := 81, pos := "slices.go:404", after := #[], guard := none }) (v := .slice (some ⟨g, o2, none⟩) M (cap - k)) rfl (by kernel_rfl) (by kernel_rfl) (by kernel_rfl) (fun _ _ _ h => h) (Or.inl ⟨by rfl, fun w' hw' => by (clear hw'; go_simp)⟩) hHeld ?_
                simp only [Act.put, List.setIfInBounds_toArray, List.set_cons_zero, List.set_cons_succ]
                refine wpAnyH_take (i := 2) (oi := { dst := some 40, op := Op.move (Operand.tmp 7), type := 3, pos := "slices.go:404", after := #[], guard := none }) (v := .int .i64 (j : Int)) rfl (by kernel_rfl) (by kernel_rfl) (by kernel_rfl) (fun _ _ _ h => h) (Or.inl ⟨by rfl, fun w' hw' => by (clear hw'; go_simp)⟩) hHeld ?_
                simp only [Act.put, List.setIfInBounds_toArray, List.set_cons_zero, List.set_cons_succ]
                refine wpAnyH_take (i := 3) (oi := { dst := some 41, op := Op.indexAddr 81 (Operand.tmp 39) (Operand.tmp 40), type := 0, pos := "slices.go:404", after := #[{ on := 1, ground := Ground.data }, { on := 2, ground := Ground.data }], guard := none }) (v := .pointer (some ⟨g, o2 + j * 35, none⟩)) rfl (by kernel_rfl) (by kernel_rfl) (by kernel_rfl) (fun _ _ _ h => h) (Or.inl ⟨by rfl, fun w' hw' => by (clear hw'; go_simp)⟩) hHeld ?_
                simp only [Act.put, List.setIfInBounds_toArray, List.set_cons_zero, List.set_cons_succ]
                refine wpAnyH_take (i := 4) (oi := { dst := some 42, op := Op.load 155 (Operand.tmp 41), type := 155, pos := "slices.go:404", after := #[{ on := 3, ground := Ground.data }], guard := none }) (v := .agg cx.toArray) rfl (by kernel_rfl) (by kernel_rfl) (by kernel_rfl) (fun _ _ _ h => h) (yieldsIf_load_mid (by rfl) _ _ rfl g (o2 + j * 35) rfl cx _ (Hx.out) Tryz.underlying155 rfl HIx.out) hHeld ?_
                simp only [Act.put, List.setIfInBounds_toArray, List.set_cons_zero, List.set_cons_succ]
                refine wpAnyH_take (i := 5) (oi := { dst := some 43, op := Op.move (Operand.tmp 6), type := 81, pos := "slices.go:404", after := #[], guard := none }) (v := .slice (some ⟨g, o2, none⟩) M (cap - k)) rfl (by kernel_rfl) (by kernel_rfl) (by kernel_rfl) (fun _ _ _ h => h) (Or.inl ⟨by rfl, fun w' hw' => by (clear hw'; go_simp)⟩) hHeld ?_
                simp only [Act.put, List.setIfInBounds_toArray, List.set_cons_zero, List.set_cons_succ]
                refine wpAnyH_take (i := 6) (oi := { dst := some 44, op := Op.move (Operand.tmp 7), type := 3, pos := "slices.go:404", after := #[], guard := none }) (v := .int .i64 (j : Int)) rfl (by kernel_rfl) (by kernel_rfl) (by kernel_rfl) (fun _ _ _ h => h) (Or.inl ⟨by rfl, fun w' hw' => by (clear hw'; go_simp)⟩) hHeld ?_
                simp only [Act.put, List.setIfInBounds_toArray, List.set_cons_zero, List.set_cons_succ]
                refine wpAnyH_take (i := 7) (oi := { dst := some 45, op := Op.binOp BinOp.sub 3 (Operand.tmp 44) (Operand.const (Value.int IntKind.i64 1)) 3, type := 3, pos := "slices.go:404", after := #[{ on := 6, ground := Ground.data }], guard := none }) (v := .int .i64 (j1 : Int)) rfl (by kernel_rfl) (by kernel_rfl) (by kernel_rfl) (fun _ _ _ h => h) (Or.inl ⟨by rfl, fun w' hw' => by (clear hw'; go_simp)⟩) hHeld ?_
                simp only [Act.put, List.setIfInBounds_toArray, List.set_cons_zero, List.set_cons_succ]
                refine wpAnyH_take (i := 8) (oi := { dst := some 46, op := Op.indexAddr 81 (Operand.tmp 43) (Operand.tmp 45), type := 0, pos := "slices.go:404", after := #[{ on := 5, ground := Ground.data }, { on := 7, ground := Ground.data }], guard := none }) (v := .pointer (some ⟨g, o2 + j1 * 35, none⟩)) rfl (by kernel_rfl) (by kernel_rfl) (by kernel_rfl) (fun _ _ _ h => h) (Or.inl ⟨by rfl, fun w' hw' => by (clear hw'; go_simp)⟩) hHeld ?_
                simp only [Act.put, List.setIfInBounds_toArray, List.set_cons_zero, List.set_cons_succ]
                refine wpAnyH_take (i := 9) (oi := { dst := some 47, op := Op.load 155 (Operand.tmp 46), type := 155, pos := "slices.go:404", after := #[{ on := 8, ground := Ground.data }], guard := none }) (v := .agg cy.toArray) rfl (by kernel_rfl) (by kernel_rfl) (by kernel_rfl) (fun _ _ _ h => h) (yieldsIf_load_mid (by rfl) _ _ rfl g (o2 + j1 * 35) rfl cy _ (Hy.out) Tryz.underlying155 rfl HIy.out) hHeld ?_
                simp only [Act.put, List.setIfInBounds_toArray, List.set_cons_zero, List.set_cons_succ]
                refine wpAnyH_ready (rs := [10]) (by kernel_rfl) (by simp) ?_
                refine AllReadyH.cons (o := { dst := some 48, op := Op.call { callee := Callee.value (Operand.tmp 38), args := #[Operand.tmp 42, Operand.tmp 47], argTypes := #[155, 155] }, type := 4, pos := "slices.go:404", after := #[{ on := 0, ground := Ground.data }, { on := 4, ground := Ground.data }, { on := 9, ground := Ground.data }], guard := none }) rfl (fun K hK => ?_) AllReadyH.nil
                go_simp
                refine (HCMP.out _).mono ?_
                rintro e w3 ⟨rfl, h3⟩
                have HK3 : Hid (Kp No wr w3) := (Kp.refl No wr).drew.andNone (Kp.below h3)
                clear h3
                go_wp2_with fail
                refine hK.out _ _ (HK3.out) (fun hh => ?_)
                clear hK K hHeld
                have hHeld := hh
                clear hh
                try simp only [Act.put, List.setIfInBounds_toArray, List.set_cons_zero, List.set_cons_succ]
                refine wpAnyH_take (i := 11) (oi := { dst := some 49, op := Op.unOp UnOp.not 4 (Operand.tmp 48), type := 4, pos := "slices.go:404", after := #[{ on := 10, ground := Ground.data }], guard := none }) (v := .bool false) rfl (by kernel_rfl) (by kernel_rfl) (by kernel_rfl) (fun _ _ _ h => h) (Or.inl ⟨by rfl, fun w' hw' => by (clear hw'; go_simp)⟩) hHeld ?_
                simp only [Act.put, List.setIfInBounds_toArray, List.set_cons_zero, List.set_cons_succ]
                refine wpAnyH_done (by kernel_rfl) ?_ _
                have HH2 := hid (HY2.out w3 HK3.out)
                clear hHeld HK3 HCMP Hx Hy HIx HIy HAA HY2
                go_wp2_with fail
                go_round
                case rel => exact ⟨q, j + 1, rfl, by go_num, hq0, by omega, by omega, hqN, HH2.out⟩
                case measure => simp [intOf]; omega
              · rw [decide_eq_false hxy] at HCMP
                have HN2 := hid (HNO.out hxy)
                clear hxy HYES HNO
                refine wp_region_held_drew (S := fun V => Kp No wr V) (by kernel_rfl) ((Kp.refl _ _).drew) (fun hHeld => ?_)
                refine wpAnyH_take (i := 0) (oi := { dst := some 38, op := Op.move (Operand.tmp 1), type := 226, pos := "slices.go:404", after := #[], guard := none }) (v := .func (.func 136) #[] #[]) rfl (by kernel_rfl) (by kernel_rfl) (by kernel_rfl) (fun _ _ _ h => h) (Or.inl ⟨by rfl, fun w' hw' => by (clear hw'; go_simp)⟩) hHeld ?_
                simp only [Act.put, List.setIfInBounds_toArray, List.set_cons_zero, List.set_cons_succ]
                refine wpAnyH_take (i := 1) (oi := { dst := some 39, op := Op.move (Operand.tmp 6), type := 81, pos := "slices.go:404", after := #[], guard := none }) (v := .slice (some ⟨g, o2, none⟩) M (cap - k)) rfl (by kernel_rfl) (by kernel_rfl) (by kernel_rfl) (fun _ _ _ h => h) (Or.inl ⟨by rfl, fun w' hw' => by (clear hw'; go_simp)⟩) hHeld ?_
                simp only [Act.put, List.setIfInBounds_toArray, List.set_cons_zero, List.set_cons_succ]
                refine wpAnyH_take (i := 2) (oi := { dst := some 40, op := Op.move (Operand.tmp 7), type := 3, pos := "slices.go:404", after := #[], guard := none }) (v := .int .i64 (j : Int)) rfl (by kernel_rfl) (by kernel_rfl) (by kernel_rfl) (fun _ _ _ h => h) (Or.inl ⟨by rfl, fun w' hw' => by (clear hw'; go_simp)⟩) hHeld ?_
                simp only [Act.put, List.setIfInBounds_toArray, List.set_cons_zero, List.set_cons_succ]
                refine wpAnyH_take (i := 3) (oi := { dst := some 41, op := Op.indexAddr 81 (Operand.tmp 39) (Operand.tmp 40), type := 0, pos := "slices.go:404", after := #[{ on := 1, ground := Ground.data }, { on := 2, ground := Ground.data }], guard := none }) (v := .pointer (some ⟨g, o2 + j * 35, none⟩)) rfl (by kernel_rfl) (by kernel_rfl) (by kernel_rfl) (fun _ _ _ h => h) (Or.inl ⟨by rfl, fun w' hw' => by (clear hw'; go_simp)⟩) hHeld ?_
                simp only [Act.put, List.setIfInBounds_toArray, List.set_cons_zero, List.set_cons_succ]
                refine wpAnyH_take (i := 4) (oi := { dst := some 42, op := Op.load 155 (Operand.tmp 41), type := 155, pos := "slices.go:404", after := #[{ on := 3, ground := Ground.data }], guard := none }) (v := .agg cx.toArray) rfl (by kernel_rfl) (by kernel_rfl) (by kernel_rfl) (fun _ _ _ h => h) (yieldsIf_load_mid (by rfl) _ _ rfl g (o2 + j * 35) rfl cx _ (Hx.out) Tryz.underlying155 rfl HIx.out) hHeld ?_
                simp only [Act.put, List.setIfInBounds_toArray, List.set_cons_zero, List.set_cons_succ]
                refine wpAnyH_take (i := 5) (oi := { dst := some 43, op := Op.move (Operand.tmp 6), type := 81, pos := "slices.go:404", after := #[], guard := none }) (v := .slice (some ⟨g, o2, none⟩) M (cap - k)) rfl (by kernel_rfl) (by kernel_rfl) (by kernel_rfl) (fun _ _ _ h => h) (Or.inl ⟨by rfl, fun w' hw' => by (clear hw'; go_simp)⟩) hHeld ?_
                simp only [Act.put, List.setIfInBounds_toArray, List.set_cons_zero, List.set_cons_succ]
                refine wpAnyH_take (i := 6) (oi := { dst := some 44, op := Op.move (Operand.tmp 7), type := 3, pos := "slices.go:404", after := #[], guard := none }) (v := .int .i64 (j : Int)) rfl (by kernel_rfl) (by kernel_rfl) (by kernel_rfl) (fun _ _ _ h => h) (Or.inl ⟨by rfl, fun w' hw' => by (clear hw'; go_simp)⟩) hHeld ?_
                simp only [Act.put, List.setIfInBounds_toArray, List.set_cons_zero, List.set_cons_succ]
                refine wpAnyH_take (i := 7) (oi := { dst := some 45, op := Op.binOp BinOp.sub 3 (Operand.tmp 44) (Operand.const (Value.int IntKind.i64 1)) 3, type := 3, pos := "slices.go:404", after := #[{ on := 6, ground := Ground.data }], guard := none }) (v := .int .i64 (j1 : Int)) rfl (by kernel_rfl) (by kernel_rfl) (by kernel_rfl) (fun _ _ _ h => h) (Or.inl ⟨by rfl, fun w' hw' => by (clear hw'; go_simp)⟩) hHeld ?_
                simp only [Act.put, List.setIfInBounds_toArray, List.set_cons_zero, List.set_cons_succ]
                refine wpAnyH_take (i := 8) (oi := { dst := some 46, op := Op.indexAddr 81 (Operand.tmp 43) (Operand.tmp 45), type := 0, pos := "slices.go:404", after := #[{ on := 5, ground := Ground.data }, { on := 7, ground := Ground.data }], guard := none }) (v := .pointer (some ⟨g, o2 + j1 * 35, none⟩)) rfl (by kernel_rfl) (by kernel_rfl) (by kernel_rfl) (fun _ _ _ h => h) (Or.inl ⟨by rfl, fun w' hw' => by (clear hw'; go_simp)⟩) hHeld ?_
                simp only [Act.put, List.setIfInBounds_toArray, List.set_cons_zero, List.set_cons_succ]
                refine wpAnyH_take (i := 9) (oi := { dst := some 47, op := Op.load 155 (Operand.tmp 46), type := 155, pos := "slices.go:404", after := #[{ on := 8, ground := Ground.data }], guard := none }) (v := .agg cy.toArray) rfl (by kernel_rfl) (by kernel_rfl) (by kernel_rfl) (fun _ _ _ h => h) (yieldsIf_load_mid (by rfl) _ _ rfl g (o2 + j1 * 35) rfl cy _ (Hy.out) Tryz.underlying155 rfl HIy.out) hHeld ?_
                simp only [Act.put, List.setIfInBounds_toArray, List.set_cons_zero, List.set_cons_succ]
                refine wpAnyH_ready (rs := [10]) (by kernel_rfl) (by simp) ?_
                refine AllReadyH.cons (o := { dst := some 48, op := Op.call { callee := Callee.value (Operand.tmp 38), args := #[Operand.tmp 42, Operand.tmp 47], argTypes := #[155, 155] }, type := 4, pos := "slices.go:404", after := #[{ on := 0, ground := Ground.data }, { on := 4, ground := Ground.data }, { on := 9, ground := Ground.data }], guard := none }) rfl (fun K hK => ?_) AllReadyH.nil
                go_simp
                refine (HCMP.out _).mono ?_
                rintro e w3 ⟨rfl, h3⟩
                have HK3 : Hid (Kp No wr w3) := (Kp.refl No wr).drew.andNone (Kp.below h3)
                clear h3
                go_wp2_with fail
                refine hK.out _ _ (HK3.out) (fun hh => ?_)
                clear hK K hHeld
                have hHeld := hh
                clear hh
                try simp only [Act.put, List.setIfInBounds_toArray, List.set_cons_zero, List.set_cons_succ]
                refine wpAnyH_take (i := 11) (oi := { dst := some 49, op := Op.unOp UnOp.not 4 (Operand.tmp 48), type := 4, pos := "slices.go:404", after := #[{ on := 10, ground := Ground.data }], guard := none }) (v := .bool true) rfl (by kernel_rfl) (by kernel_rfl) (by kernel_rfl) (fun _ _ _ h => h) (Or.inl ⟨by rfl, fun w' hw' => by (clear hw'; go_simp)⟩) hHeld ?_
                simp only [Act.put, List.setIfInBounds_toArray, List.set_cons_zero, List.set_cons_succ]
                refine wpAnyH_done (by kernel_rfl) ?_ _
                obtain ⟨ht, hfin⟩ := HN2.out w3 HK3.out
                have HTS := hid ht
                have HH2 := hid hfin
                have HX3 := hid (Hx.out w3 HK3.out)
                clear ht hfin hHeld HK3 HCMP Hx Hy HIy HAA HN2
                go_wp2_with (first
                  | (refine wpList_load_mid (by rfl) 155 _ (by rfl) g (o2 + j * 35) (by rfl) cx _ HX3.out Tryz.underlying155 rfl HIx.out ?_)
                  | (refine wpList_store_mid (by rfl) 155 _ _ (by rfl) g (o + q * 35) cx.toArray (by rfl) (by rfl) HTS.out HAx.out HOx.out ?_))
                go_round
                case rel => exact ⟨q + 1, j + 1, by go_num, by go_num, by omega, by omega, by omega, HQN.out, HH2.out⟩
                case measure => simp [intOf]; omega
            · have hjlI : ¬ (j : Int) < (M : Int) := by omega
              have hjj : j = M := by omega
              obtain ⟨hqk, D, hDl, hDt, hDd, hA⟩ := HT.out
              have hdt : d.take N = d := List.take_of_length_le (by rw [HN.out]; exact Nat.le_refl _)
              rw [hjj, HKM.out, hdt] at hDt
              obtain ⟨Zc, hZc⟩ := run_clear_ents wr g (o + q * 35) (N - q) (cap - q) 0 (by omega) (fun i hi => by
                have := hA.2.2 (q + i) (by omega)
                rwa [show o + (q + i) * 35 = o + q * 35 + i * 35 by omega] at this)
              have hcl : ∀ ty, (Builtin.clear_ #[81] ty #[.slice (some ⟨g, o + q * 35, none⟩) (N - q) (cap - q)]).run Tryz.prog wr = .ok (.tuple #[]) (wr.setCells g (o + q * 35) Zc) := fun _ => hZc
              have HFIN : Hid ((cmpct d).length = q ∧ At w g o (cmpct d) (wr.setCells g (o + q * 35) Zc)) := by
                refine ⟨by rw [← hDt, List.length_take]; omega, ?_⟩
                rw [← hDt]
                exact ⟨hA.1.trans (setCells_kp wr g _ _) (fun _ hx => .inl hx), hA.2.cleared q Zc⟩
              have hqc : (q : Int) ≤ (cap : Int) := by omega
              have hqI : (q : Int) ≤ (N : Int) := by omega
              clear hZc hjj hqk hDl hDt hDd hA hdt HT
              go_wp2_with fail
              first | (refine bodyPost_ret (results_tmp rfl _ _ _) rfl ?_) | (simp only [Exit.inBlock, Exit.then]; refine bodyPost_ret (results_tmp rfl _ _ _) rfl ?_) | go_ret
              rw [HFIN.out.1]
              exact ⟨rfl, HFIN.out.2⟩
        · rw [decide_eq_false hxy] at HCMP
          have HC2 : Hid (cmpct (d.take (k + 1)) = d.take (k + 1)) := by
            obtain ⟨h1, h2, h3⟩ := HCT.out
            rw [Hid, h2, if_neg hxy, h1, List.take_add_one, h3]
            rfl
          clear hxy HCT
          refine wp_region_held_drew (S := fun V => Kp No wr V) (by kernel_rfl) ((Kp.refl _ _).drew) (fun hHeld => ?_)
          refine wpAnyH_take (i := 0) (oi := { dst := some 18, op := Op.move (Operand.tmp 1), type := 226, pos := "slices.go:401", after := #[], guard := none }) (v := .func (.func 136) #[] #[]) rfl (by kernel_rfl) (by kernel_rfl) (by kernel_rfl) (fun _ _ _ h => h) (Or.inl ⟨by rfl, fun w' hw' => by (clear hw'; go_simp)⟩) hHeld ?_
          simp only [Act.put, List.setIfInBounds_toArray, List.set_cons_zero, List.set_cons_succ]
          refine wpAnyH_take (i := 1) (oi := { dst := some 19, op := Op.move (Operand.tmp 0), type := 81, pos := "slices.go:401", after := #[], guard := none }) (v := .slice (some ⟨g, o, none⟩) N cap) rfl (by kernel_rfl) (by kernel_rfl) (by kernel_rfl) (fun _ _ _ h => h) (Or.inl ⟨by rfl, fun w' hw' => by (clear hw'; go_simp)⟩) hHeld ?_
          simp only [Act.put, List.setIfInBounds_toArray, List.set_cons_zero, List.set_cons_succ]
          refine wpAnyH_take (i := 2) (oi := { dst := some 20, op := Op.move (Operand.tmp 5), type := 3, pos := "slices.go:401", after := #[], guard := none }) (v := .int .i64 (k : Int)) rfl (by kernel_rfl) (by kernel_rfl) (by kernel_rfl) (fun _ _ _ h => h) (Or.inl ⟨by rfl, fun w' hw' => by (clear hw'; go_simp)⟩) hHeld ?_
          simp only [Act.put, List.setIfInBounds_toArray, List.set_cons_zero, List.set_cons_succ]
          refine wpAnyH_take (i := 3) (oi := { dst := some 21, op := Op.indexAddr 81 (Operand.tmp 19) (Operand.tmp 20), type := 0, pos := "slices.go:401", after := #[{ on := 1, ground := Ground.data }, { on := 2, ground := Ground.data }], guard := none }) (v := .pointer (some ⟨g, o + k * 35, none⟩)) rfl (by kernel_rfl) (by kernel_rfl) (by kernel_rfl) (fun _ _ _ h => h) (Or.inl ⟨by rfl, fun w' hw' => by (clear hw'; go_simp)⟩) hHeld ?_
          simp only [Act.put, List.setIfInBounds_toArray, List.set_cons_zero, List.set_cons_succ]
          refine wpAnyH_take (i := 4) (oi := { dst := some 22, op := Op.load 155 (Operand.tmp 21), type := 155, pos := "slices.go:401", after := #[{ on := 3, ground := Ground.data }], guard := none }) (v := .agg cx.toArray) rfl (by kernel_rfl) (by kernel_rfl) (by kernel_rfl) (fun _ _ _ h => h) (yieldsIf_load_mid (by rfl) _ _ rfl g (o + k * 35) rfl cx _ (Hx.out) Tryz.underlying155 rfl HIx.out) hHeld ?_
          simp only [Act.put, List.setIfInBounds_toArray, List.set_cons_zero, List.set_cons_succ]
          refine wpAnyH_take (i := 5) (oi := { dst := some 23, op := Op.move (Operand.tmp 0), type := 81, pos := "slices.go:401", after := #[], guard := none }) (v := .slice (some ⟨g, o, none⟩) N cap) rfl (by kernel_rfl) (by kernel_rfl) (by kernel_rfl) (fun _ _ _ h => h) (Or.inl ⟨by rfl, fun w' hw' => by (clear hw'; go_simp)⟩) hHeld ?_
          simp only [Act.put, List.setIfInBounds_toArray, List.set_cons_zero, List.set_cons_succ]
          refine wpAnyH_take (i := 6) (oi := { dst := some 24, op := Op.move (Operand.tmp 5), type := 3, pos := "slices.go:401", after := #[], guard := none }) (v := .int .i64 (k : Int)) rfl (by kernel_rfl) (by kernel_rfl) (by kernel_rfl) (fun _ _ _ h => h) (Or.inl ⟨by rfl, fun w' hw' => by (clear hw'; go_simp)⟩) hHeld ?_
          simp only [Act.put, List.setIfInBounds_toArray, List.set_cons_zero, List.set_cons_succ]
          refine wpAnyH_take (i := 7) (oi := { dst := some 25, op := Op.binOp BinOp.sub 3 (Operand.tmp 24) (Operand.const (Value.int IntKind.i64 1)) 3, type := 3, pos := "slices.go:401", after := #[{ on := 6, ground := Ground.data }], guard := none }) (v := .int .i64 (k1 : Int)) rfl (by kernel_rfl) (by kernel_rfl) (by kernel_rfl) (fun _ _ _ h => h) (Or.inl ⟨by rfl, fun w' hw' => by (clear hw'; go_simp)⟩) hHeld ?_
          simp only [Act.put, List.setIfInBounds_toArray, List.set_cons_zero, List.set_cons_succ]
          refine wpAnyH_take (i := 8) (oi := { dst := some 26, op := Op.indexAddr 81 (Operand.tmp 23) (Operand.tmp 25), type := 0, pos := "slices.go:401", after := #[{ on := 5, ground := Ground.data }, { on := 7, ground := Ground.data }], guard := none }) (v := .pointer (some ⟨g, o + k1 * 35, none⟩)) rfl (by kernel_rfl) (by kernel_rfl) (by kernel_rfl) (fun _ _ _ h => h) (Or.inl ⟨by rfl, fun w' hw' => by (clear hw'; go_simp)⟩) hHeld ?_
          simp only [Act.put, List.setIfInBounds_toArray, List.set_cons_zero, List.set_cons_succ]
          refine wpAnyH_take (i := 9) (oi := { dst := some 27, op := Op.load 155 (Operand.tmp 26), type := 155, pos := "slices.go:401", after := #[{ on := 8, ground := Ground.data }], guard := none }) (v := .agg cy.toArray) rfl (by kernel_rfl) (by kernel_rfl) (by kernel_rfl) (fun _ _ _ h => h) (yieldsIf_load_mid (by rfl) _ _ rfl g (o + k1 * 35) rfl cy _ (Hy.out) Tryz.underlying155 rfl HIy.out) hHeld ?_
          simp only [Act.put, List.setIfInBounds_toArray, List.set_cons_zero, List.set_cons_succ]
          refine wpAnyH_ready (rs := [10]) (by kernel_rfl) (by simp) ?_
          refine AllReadyH.cons (o := { dst := some 28, op := Op.call { callee := Callee.value (Operand.tmp 18), args := #[Operand.tmp 22, Operand.tmp 27], argTypes := #[155, 155] }, type := 4, pos := "slices.go:401", after := #[{ on := 0, ground := Ground.data }, { on := 4, ground := Ground.data }, { on := 9, ground := Ground.data }], guard := none }) rfl (fun K hK => ?_) AllReadyH.nil
          go_simp
          refine (HCMP.out _).mono ?_
          rintro e w3 ⟨rfl, h3⟩
          have HK3 : Hid (Kp No wr w3) := (Kp.refl No wr).drew.andNone (Kp.below h3)
          clear h3
          go_wp2_with fail
          refine hK.out _ _ (HK3.out) (fun hh => ?_)
          clear hK K hHeld
          have hHeld := hh
          clear hh
          try simp only [Act.put, List.setIfInBounds_toArray, List.set_cons_zero, List.set_cons_succ]
          refine wpAnyH_done (by kernel_rfl) ?_ _
          have HA3 := hid (HAA.out.kept HK3.out)
          clear hHeld HK3 HCMP Hx Hy HIx HIy HAA
          go_wp2_with fail
          go_round
          case rel => exact ⟨k + 1, by go_num, by omega, by omega, HC2.out, HA3.out⟩
          case measure => simp [intOf]; omega
      · have hltI : ¬ (k : Int) < (N : Int) := by omega
        have HE : Hid (cmpct d = d) := by
          have h := HS.out.1
          rw [List.take_of_length_le (by have := HN.out; omega)] at h
          exact h
        have HA := hid HS.out.2
        go_wp2_with fail
        go_ret
        rw [HE.out, HN.out]
        exact ⟨rfl, HA.out⟩
end Go.Proofs.YthmimipoooemjaaGreatDoor.Sg
end

section
/-
  Entries as values that are read, rows of the call's own, and segment.Sort: of each name the first, in the names' order.
-/
namespace Go.Proofs.YthmimipoooemjaaGreatDoor.Sg
open Go.RowKit
open Stb (Stab Srt Mrg)
open Sim (hid Kp No)

def ents (d : List Ent) : List Value := d.flatMap entC
theorem ents_cons (e : Ent) (d : List Ent) : ents (e :: d) = entC e ++ ents d := by simp [ents]
theorem ents_append (a b : List Ent) : ents (a ++ b) = ents a ++ ents b := by simp [ents]
theorem ents_length : ∀ (d : List Ent), (∀ e ∈ d, EOk e) → (ents d).length = d.length * 35
  | [], _ => rfl
  | e :: d, h => by
    rw [ents_cons, List.length_append, entC_length (h e (by simp)), ents_length d (fun x hx => h x (by simp [hx])), List.length_cons]
    omega
theorem ents_at : ∀ (d : List Ent), (∀ e ∈ d, EOk e) → ∀ (i j : Nat) (e : Ent), d[i]? = some e → j < 35 → (ents d)[i * 35 + j]? = (entC e)[j]?
  | [], _, i, j, e, hi, _ => by simp at hi
  | x :: d, h, 0, j, e, hi, hj => by
    simp only [List.getElem?_cons_zero, Option.some.injEq] at hi
    subst hi
    rw [ents_cons, Nat.zero_mul, Nat.zero_add, List.getElem?_append_left (by rw [entC_length (h x (by simp))]; exact hj)]
  | x :: d, h, i + 1, j, e, hi, hj => by
    rw [List.getElem?_cons_succ] at hi
    rw [ents_cons, List.getElem?_append_right (by rw [entC_length (h x (by simp))]; omega), entC_length (h x (by simp)), show (i + 1) * 35 + j - 35 = i * 35 + j by omega]
    exact ents_at d (fun y hy => h y (by simp [hy])) i j e hi hj
theorem ents_one (d : List Ent) : ∀ u ∈ ents d, u.oneCell' = true := by
  intro u hu
  obtain ⟨e, _, hue⟩ := List.mem_flatMap.1 hu
  exact entC_one e u hue

/-- Entries that are read: in blocks of P alone. -/
def EV (P : Nat → Prop) (w : World) (v : Value) (d : List Ent) : Prop :=
  ∃ a cap, v = .slice a d.length cap ∧ d.length ≤ cap ∧ cap ≤ maxLen ∧ (a = none → d = [] ∧ cap = 0) ∧ (∀ e ∈ d, EOk e) ∧ (d ≠ [] → ∃ g o, a = some ⟨g, o, none⟩ ∧ P g ∧ ERow w g o d)
theorem EV.nil (P : Nat → Prop) (w : World) : EV P w (.slice none 0 0) [] := ⟨none, 0, rfl, Nat.le_refl _, Nat.zero_le _, fun _ => ⟨rfl, rfl⟩, by simp, by simp⟩
theorem EV.kp {P L : Nat → Prop} {w w' : World} {v : Value} {d : List Ent} (h : EV P w v d) (k : Kp L w w') (hP : ∀ g, P g → ¬ L g) : EV P w' v d := by
  obtain ⟨a, cap, h1, h2, h3, h4, h5, h6⟩ := h
  refine ⟨a, cap, h1, h2, h3, h4, h5, fun hd => ?_⟩
  obtain ⟨g, o, e, hp, hr⟩ := h6 hd
  exact ⟨g, o, e, hp, hr.kp k (hP g hp)⟩
theorem EV.kept {P : Nat → Prop} {w w' : World} {v : Value} {d : List Ent} (h : EV P w v d) (k : Kp No w w') : EV P w' v d := h.kp k (fun _ _ x => x)
theorem EV.mono {P P' : Nat → Prop} {w : World} {v : Value} {d : List Ent} (h : EV P w v d) (hP : ∀ g, P g → P' g) : EV P' w v d := by
  obtain ⟨a, cap, h1, h2, h3, h4, h5, h6⟩ := h
  refine ⟨a, cap, h1, h2, h3, h4, h5, fun hd => ?_⟩
  obtain ⟨g, o, e, hp, hr⟩ := h6 hd
  exact ⟨g, o, e, hP g hp, hr⟩
theorem EV.ok {P : Nat → Prop} {w : World} {v : Value} {d : List Ent} (h : EV P w v d) : ∀ e ∈ d, EOk e := by
  obtain ⟨a, cap, h1, h2, h3, h4, h5, h6⟩ := h
  exact h5
theorem EV.src {P : Nat → Prop} {w : World} {v : Value} {d : List Ent} (h : EV P w v d) : Sim.Src w v d.length 35 (ents d) := by
  obtain ⟨a, cap, rfl, h2, h3, h4, h5, h6⟩ := h
  cases a with
  | none =>
    obtain ⟨rfl, rfl⟩ := h4 rfl
    exact .inl ⟨rfl, rfl, rfl⟩
  | some ad =>
    refine .inr ⟨ad, cap, rfl, ents_length d h5, fun j u hj => ?_, ents_one d⟩
    have hjl := (List.getElem?_eq_some_iff.1 hj).1
    rw [ents_length d h5] at hjl
    have hd : d ≠ [] := by intro e; subst e; simp at hjl
    obtain ⟨g, o, e, _, hr⟩ := h6 hd
    simp only [Option.some.injEq] at e
    subst e
    have hi : j / 35 < d.length := by omega
    obtain ⟨x, hx⟩ : ∃ x, d[j / 35]? = some x := ⟨_, List.getElem?_eq_getElem hi⟩
    have hm : j % 35 < 35 := Nat.mod_lt _ (by omega)
    have hje : j / 35 * 35 + j % 35 = j := by omega
    have hat := ents_at d h5 (j / 35) (j % 35) x hx hm
    rw [hje, hj] at hat
    have := (hr.2 (j / 35) x hx).2 (j % 35) u hat.symm
    rw [Sim.addr_add]
    rw [Nat.add_assoc, hje] at this
    exact this
/-- A row of the call's own is one to be read and to be written. -/
theorem own_row {w : World} {g n cap : Nat} {d : List Ent} (h : Sim.Row w 155 35 (.slice (some ⟨g, 0, none⟩) n cap) n (ents d)) (hn : d.length = n) (hd : ∀ e ∈ d, EOk e) : EOwn w g 0 d := by
  have hg : g < w.heap.size := h.lt g rfl
  refine ⟨⟨hg, fun i e hi => ⟨hd e (List.mem_of_getElem? hi), fun j u hj => ?_⟩⟩, fun i hi j hj => ?_⟩
  · have hil := (List.getElem?_eq_some_iff.1 hi).1
    have hjl := (List.getElem?_eq_some_iff.1 hj).1
    rw [entC_length (hd e (List.mem_of_getElem? hi))] at hjl
    rw [Nat.zero_add, h.cellAt (i * 35 + j) (by omega), ents_at d hd i j e hi hjl]
    exact hj
  · have hx : ∃ u, (ents d)[i * 35 + j]? = some u := ⟨_, List.getElem?_eq_getElem (by rw [ents_length d hd]; omega)⟩
    obtain ⟨u, hu⟩ := hx
    rw [Nat.zero_add, h.cellAt (i * 35 + j) (by omega), hu]
    exact ⟨rfl, World.ownsRow.frozenAt h _⟩

theorem infoE : (Tryz.prog.info? 155).map (fun i => (i.zero, i.size, i.bytes)) = some (some (.agg zE.toArray), 35, 56) := by kernel_rfl

/-! ### Nothing to be sorted -/
theorem ins_none (w : World) : Calls Tryz.prog 213 #[.slice none 0 0, .int .i64 0, .int .i64 0, cmpV] w fun e w' => e = .returned (.tuple #[]) ∧ w' = w := by
  unfold cmpV
  go_enter Tryz.func213, Tryz.ntmps213
  go_wp2_with fail
  go_loopw [8] (fun x wr => x = .int .i64 1 ∧ wr = w) (fun _ _ => 0)
  case atStart => exact ⟨rfl, rfl⟩
  case round =>
    obtain ⟨rfl, rfl⟩ := hrel
    go_wp2_with fail
    go_end0
    exact ⟨rfl, rfl⟩
set_option maxHeartbeats 4000000 in
set_option maxRecDepth 100000 in
theorem stable_none (w : World) : Calls Tryz.prog 174 #[.slice none 0 0, .int .i64 0, cmpV] w fun e w' => e = .returned (.tuple #[]) ∧ w' = w := by
  have HI := hid (ins_none w)
  unfold cmpV at HI ⊢
  go_enter Tryz.func174, Tryz.ntmps174
  go_wp2_with fail
  go_loopw [7, 8] (fun v7 v8 wr => v7 = .int .i64 0 ∧ v8 = .int .i64 20 ∧ wr = w) (fun _ _ _ => 0)
  case atStart => exact ⟨rfl, rfl, rfl⟩
  case round =>
    obtain ⟨rfl, rfl, rfl⟩ := hrel
    go_wp2_with fail
    refine HI.out.mono ?_
    rintro e w2 ⟨rfl, rfl⟩
    go_wp2_with fail
    go_loopw [6, 7, 8] (fun v6 v7 v8 wr => v6 = .int .i64 20 ∧ v7 = .int .i64 0 ∧ v8 = .int .i64 20 ∧ wr = w2) (fun _ _ _ _ => 0)
    case atStart => exact ⟨rfl, rfl, rfl, rfl⟩
    case round =>
      obtain ⟨rfl, rfl, rfl, rfl⟩ := hrel
      go_wp2_with fail
      go_end0
      exact ⟨rfl, rfl⟩
theorem sortStable_none (w : World) : Calls Tryz.prog 134 #[.slice none 0 0, cmpV] w fun e w' => e = .returned (.tuple #[]) ∧ w' = w := by
  have HS := hid (stable_none w)
  unfold cmpV at HS ⊢
  go_enter Tryz.func134, Tryz.ntmps134
  go_wp2_with fail
  refine HS.out.mono ?_
  rintro e w2 ⟨rfl, rfl⟩
  go_wp2_with fail
  go_end0
  exact ⟨rfl, rfl⟩
theorem compact_zero (w : World) (a : Option Addr) (cap : Nat) : Calls Tryz.prog 135 #[.slice a 0 cap, .func (.func 136) #[] #[]] w fun e w' => e = .returned (.slice a 0 cap) ∧ w' = w := by
  go_enter Tryz.func135, Tryz.ntmps135
  go_wp2_with fail
  go_ret
  exact ⟨rfl, rfl⟩

/-- Any row of the call's own is sorted. -/
theorem sortStable_row (w : World) (ad : Option Addr) (d : List Ent) (cap : Nat) (h : Sim.Row w 155 35 (.slice ad d.length cap) d.length (ents d)) (hd : ∀ e ∈ d, EOk e) (hl : d.length ≤ 1000000) :
    Calls Tryz.prog 134 #[.slice ad d.length cap, cmpV] w fun e w' => e = .returned (.tuple #[]) ∧ ∃ X, Stab ky d X ∧ Srt ky lexB X ∧ ((d = [] ∧ w' = w) ∨ ∃ g, ad = some ⟨g, 0, none⟩ ∧ At w g 0 X w') := by
  obtain ⟨a, c, e, h2, h3, h4, h5⟩ := h.shape
  cases e
  cases ad with
  | none =>
    obtain ⟨h0, rfl⟩ := h4 rfl
    have : d = [] := List.length_eq_zero_iff.1 h0
    subst this
    refine (sortStable_none w).mono ?_
    rintro e w2 ⟨rfl, rfl⟩
    exact ⟨rfl, [], Stab.refl _, List.Pairwise.nil, .inl ⟨rfl, rfl⟩⟩
  | some x =>
    obtain ⟨g, o, sp⟩ := x
    obtain ⟨e1, e2⟩ := h5 _ rfl
    cases e1
    cases e2
    refine (sortStable_any w g 0 d d.length cap (own_row h rfl hd) rfl hl).mono ?_
    rintro e w2 ⟨rfl, X, h6, h7, h8⟩
    exact ⟨rfl, X, h6, h7, .inr ⟨g, rfl, h8⟩⟩

theorem sort_any (w : World) (v : Value) (d : List Ent) (P : Nat → Prop) (hv : EV P w v d) (hl : d.length ≤ 1000000) :
    Calls Tryz.prog 84 #[v] w fun e w' => ∃ r X, e = .returned r ∧ Stab ky d X ∧ Srt ky lexB X ∧ Kp No w w' ∧ EV (fun g => w.heap.size ≤ g) w' r (cmpct X) := by
  have HSRC := hid hv.src
  have HOK := hid hv.ok
  obtain ⟨a, c, rfl, _⟩ := hv
  obtain ⟨n, hn⟩ : ∃ n, d.length = n := ⟨_, rfl⟩
  have HN := hid hn
  rw [hn] at HSRC hl ⊢
  clear hn
  have HR0 := hid (Sim.Row.nil w 155 35)
  go_enter Tryz.func84, Tryz.ntmps84
  go_wp2_with (first
    | (refine Sim.app_row _ (by rfl) _ _ 81 155 (.agg zE.toArray) 35 56 (by rfl) Tryz.underlying81 infoE rfl (by omega) (.slice none 0 0) (.slice a n c) 0 n [] (ents d) (by rfl) (by rfl) HR0.out HSRC.out (by omega) (by omega) ?_; intro ad2 cap2 w2 hrow2 hgr2 hown2))
  rw [Nat.zero_add, List.nil_append] at hrow2
  rw [Nat.zero_add] at hown2
  have hK2 : Kp No w w2 := (Kp.refl No w).grown hgr2 (by intro x hx; simp [Value.ownBlock] at hx)
  have hso := sortStable_row w2 ad2 d cap2 (by rw [HN.out]; exact hrow2) HOK.out (by rw [HN.out]; exact hl)
  rw [HN.out] at hso
  have HSO := hid hso
  have HH := hid (And.intro hrow2 (And.intro hK2 hown2))
  clear hso hrow2 hgr2 hown2 hK2
  unfold cmpV at HSO
  refine HSO.out.mono ?_
  rintro e w3 ⟨rfl, X, hst, hsr, hat⟩
  have HC : Hid (Calls Tryz.prog 135 #[.slice ad2 n cap2, .func (.func 136) #[] #[]] w3 fun e w' => e = .returned (.slice ad2 (cmpct X).length cap2) ∧ Kp No w w' ∧ EV (fun g => w.heap.size ≤ g) w' (.slice ad2 (cmpct X).length cap2) (cmpct X)) := by
    obtain ⟨hrow, hK, hown⟩ := HH.out
    obtain ⟨a', c', e, s2, s3, s4, s5⟩ := hrow.shape
    cases e
    have hXl : X.length = n := by rw [hst.length, HN.out]
    have hXok : ∀ e ∈ X, EOk e := fun e he => HOK.out e ((hst.mem e).1 he)
    have hK3 : Kp No w w3 := by
      rcases hat with ⟨_, rfl⟩ | ⟨g, rfl, hA⟩
      · exact hK
      · have hg : g = w.heap.size := by
          rcases hown with h | h
          · simp [Value.ownBlock] at h
          · simpa [Value.ownBlock] using h
        exact hK.trans hA.1 (fun x hx => .inr (by omega))
    by_cases hn : n = 0
    · subst hn
      have : X = [] := List.length_eq_zero_iff.1 hXl
      subst this
      refine (compact_zero w3 ad2 cap2).mono ?_
      rintro e w4 ⟨rfl, rfl⟩
      exact ⟨rfl, hK3, ad2, cap2, rfl, Nat.zero_le _, s3, fun h => ⟨rfl, (s4 h).2⟩, by simp [cmpct], by simp [cmpct]⟩
    · rcases hat with ⟨h0, _⟩ | ⟨g, rfl, hA⟩
      · rw [h0] at hst
        have := hst.length
        simp at this
        rw [this] at hXl
        simp at hXl
        omega
      · have hg : g = w.heap.size := by
          rcases hown with h | h
          · simp [Value.ownBlock] at h
          · simpa [Value.ownBlock] using h
        refine (compact_any w3 g 0 X n cap2 hA.2 hXl hl (by omega) s2 s3).mono ?_
        rintro e w4 ⟨rfl, hB⟩
        have hcl := cmpct_length X
        exact ⟨rfl, hK3.trans hB.1 (fun x hx => .inr (by omega)), _, cap2, rfl, by omega, s3, by simp, hB.2.1.ok, fun _ => ⟨g, 0, rfl, by omega, hB.2.1⟩⟩
  have HX := hid (And.intro hst hsr)
  clear hst hsr hat HSO HH
  go_wp2_with fail
  refine HC.out.mono ?_
  rintro e w4 ⟨rfl, hk, hev⟩
  have HF := hid (And.intro hk hev)
  clear hk hev HC
  go_wp2_with fail
  go_ret
  exact ⟨_, X, rfl, HX.out.1, HX.out.2, HF.out.1, HF.out.2⟩
end Go.Proofs.YthmimipoooemjaaGreatDoor.Sg
end

section
/-
  Right of segment: not more than 900, places that can be, names strictly rising.
-/
namespace Go.Proofs.YthmimipoooemjaaGreatDoor.Sg
open Go.RowKit
open Stb (Stab Srt Mrg)
open Sim (hid Kp No)

def plC (x : Ent) : List Value := [.int .i64 x.2.1, .int .i64 x.2.2.1, .int .i64 x.2.2.2]
theorem rng_place {w : World} {g o : Nat} {x : Ent} (hx : EOk x) (h : w.rangeAt g o (entC x)) : w.rangeAt g (o + 32) (plC x) := fun j v hv => by
  have := h (32 + j) v (by
    unfold entC
    rw [List.getElem?_append_right (by rw [b8_length, hx.1]; omega), b8_length, hx.1, show 32 + j - 32 = j by omega]
    exact hv)
  rw [← Nat.add_assoc] at this
  exact this
def plB (x : Ent) : Bool := decide (1 ≤ x.2.1) && (decide (x.2.1 ≤ 999999) && (decide (0 ≤ x.2.2.1) && (decide (x.2.2.1 ≤ 12000) && (decide (1 ≤ x.2.2.2) && decide (x.2.2.2 ≤ 12000)))))

theorem infW (x : Ent) : (Tryz.prog.info? 51).map (·.size) = some (plC x).length := by
  show _ = some 3
  kernel_rfl

set_option maxHeartbeats 4000000 in
set_option maxRecDepth 100000 in
theorem placed_any (x : Ent) (w : World) (hx : EOk x) :
    Calls Tryz.prog 160 #[.agg (entC x).toArray] w fun e w' => e = .returned (.bool (plB x)) ∧ Below w.heap.size w w' := by
  have HR := hid (rng_place hx (rng_new w (entC x) 155))
  rw [Nat.zero_add] at HR
  have HI := hid (infW x)
  obtain ⟨nm, p, a, l⟩ := x
  unfold plC at HR HI
  unfold plB
  generalize entC (nm, p, a, l) = X at *
  dsimp only at HR HI ⊢
  clear hx
  have HBB : Hid (Below w.heap.size w (w.alloc (.cells X.toArray 155))) := (Below.refl _ _).alloc (Nat.le_refl _) _
  go_enter Tryz.func160, Tryz.ntmps160
  go_wp2_with (first
    | (refine wpList_load_mid (by rfl) 51 _ (by rfl) w.heap.size 32 (by rfl) [.int .i64 p, .int .i64 a, .int .i64 l] _ HR.out Tryz.underlying51 rfl HI.out ?_))
  all_goals
    go_ret
    refine ⟨?_, HBB.out.alloc (by simp) _⟩
    first
      | rfl
      | (simp only [Ending.returned.injEq]
         simp
         omega)
      | (simp [*])

theorem thereE (w : World) (A : Array Value) (t : TypeId) (n : Nat) (hn : n ≤ A.size) : (w.alloc (.cells A t)).there w.heap.size 0 n := fun j hj => by
  refine ⟨?_, World.frozen?_alloc_at _ _ _ _ rfl⟩
  rw [Nat.zero_add, World.cell?_alloc_at _ _ _ _ rfl]
  simp
  omega
theorem wpList_store_box {ops : Array Oper} {rest : List Oper} {op : Oper} {a : Act} {w : World} {Q : Exit → Act → World → Prop} (F : World → Prop) (hgd : op.guard = none) (ty : TypeId) (x y : Operand) (ho : op.op = .store ty x y)
    (b o : Nat) (cells : Array Value) (hx : a.eval x = .pointer (some ⟨b, o, none⟩)) (hy : a.eval y = .agg cells)
    (ht : w.there b o cells.size) (hi : (Tryz.prog.info? ty).map (·.size) = some cells.size) (h1 : cells.all (·.oneCell') = true)
    (hF : F (w.setCells b o cells.toList)) (h : ∀ W, F W → wpList Tryz.prog ops Q rest (a.put op.dst undef) W) : wpList Tryz.prog ops Q (op :: rest) a w :=
  wpList_store_mid hgd ty x y ho b o cells hx hy ht hi h1 (h _ hF)
/-- A variable that holds an entry. -/
theorem boxE (w : World) (A : Array Value) (cx : List Value) (hA : A.size = 35) (hc : cx.length = 35) : ∀ V, Kp No ((w.alloc (.cells A 155)).setCells w.heap.size 0 cx) V → V.rangeAt w.heap.size 0 cx ∧ Kp No w V := fun V hV => by
  have hs : w.heap.size < ((w.alloc (.cells A 155)).setCells w.heap.size 0 cx).heap.size := Nat.lt_of_lt_of_le (by simp) (setCells_kp _ _ _ _).size
  refine ⟨fun j v hv => (hV.cell (p := ⟨w.heap.size, _, none⟩) hs (fun x => x)).trans ((World.rangeAt_setCells_same _ _ _ _ (thereE w A _ _ (by omega))) j v hv), ?_⟩
  exact (((Kp.refl No w).alloc _).trans (setCells_kp _ w.heap.size 0 cx) (fun x hx => .inr (by omega))).trans hV (fun x hx => .inl hx)

/-- Those ahead of k have places that can be, and rise. -/
def UpTo (d : List Ent) (k : Nat) : Prop := ∀ i e, i < k → d[i]? = some e → plB e = true ∧ ∀ j x, j + 1 = i → d[j]? = some x → lexB x.1 e.1 = true
def RightP (d : List Ent) : Prop := d.length ≤ 900 ∧ UpTo d d.length
def RAns (d : List Ent) (e : Ending) : Prop := ∃ b, e = .returned (.bool b) ∧ (b = true ↔ RightP d)
theorem UpTo.zero (d : List Ent) : UpTo d 0 := fun i e hi => by omega
theorem UpTo.next {d : List Ent} {k : Nat} {e : Ent} (h : UpTo d k) (he : d[k]? = some e) (hp : plB e = true) (hl : ∀ j x, j + 1 = k → d[j]? = some x → lexB x.1 e.1 = true) : UpTo d (k + 1) := fun i y hi hy => by
  by_cases hik : i < k
  · exact h i y hik hy
  · have : i = k := by omega
    subst this
    rw [he] at hy
    cases hy
    exact ⟨hp, hl⟩

set_option maxHeartbeats 4000000 in
set_option maxRecDepth 100000 in
theorem right_any (w : World) (v : Value) (d : List Ent) (P : Nat → Prop) (hv : EV P w v d) (hl : d.length ≤ 1000000) :
    Calls Tryz.prog 112 #[v] w fun e w' => RAns d e ∧ Kp No w w' := by
  obtain ⟨a, c, rfl, h2, h3, h4, h5, h6⟩ := hv
  obtain ⟨n, hn⟩ : ∃ n, d.length = n := ⟨_, rfl⟩
  have HN := hid hn
  have HOK := hid h5
  rw [hn] at hl h2 ⊢
  have H6 := hid h6
  clear hn h2 h3 h4 h5 h6
  by_cases hbig : 900 < n
  · have hbigI : (900 : Int) < (n : Int) := by omega
    have HF : Hid (false = true ↔ RightP d) := ⟨fun h => (by cases h), fun h => (by have := h.1; have := HN.out; omega)⟩
    go_enter Tryz.func112, Tryz.ntmps112
    go_wp2_with fail
    go_ret
    exact ⟨⟨false, rfl, HF.out⟩, Kp.refl _ _⟩
  · have hbigI : ¬ (900 : Int) < (n : Int) := by omega
    go_enter Tryz.func112, Tryz.ntmps112
    go_wp2_with fail
    go_loopw [10] (fun x wr => ∃ (k : Nat), x = .int .i64 (k : Int) ∧ k ≤ n ∧ Hid (UpTo d k ∧ Kp No w wr)) (fun x _ => n - (intOf x).toNat)
    case atStart => exact ⟨0, rfl, Nat.zero_le _, UpTo.zero _, Kp.refl _ _⟩
    case round =>
      obtain ⟨k, rfl, hkn, HS⟩ := hrel
      by_cases hlt : k < n
      · have hltI : (k : Int) < (n : Int) := by omega
        have hwk : IntKind.i64.wrap ((k : Int) + 1) = ((k + 1 : Nat) : Int) := by rw [IntKind.wrap_i64]; omega
        obtain ⟨e, he⟩ : ∃ e, d[k]? = some e := ⟨_, List.getElem?_eq_getElem (by rw [HN.out]; exact hlt)⟩
        obtain ⟨g, o, rfl, _, hr⟩ := H6.out (by intro e; have := HN.out; rw [e] at this; simp at this; omega)
        have hrow := hr.kp HS.out.2 (fun x => x)
        have HROW := hid hrow
        have HX := hid (hrow.2 k e he)
        have HI := hid (inf HX.out.1)
        obtain ⟨cx, hcx⟩ : ∃ cx, entC e = cx := ⟨_, rfl⟩
        have HCX := hid hcx
        have HRX : Hid (wr.rangeAt g (o + k * 35) cx) := by rw [← hcx]; exact HX.out.2
        rw [hcx] at HI
        have hcl : cx.length = 35 := by rw [← hcx]; exact entC_length HX.out.1
        have HO1 : Hid (cx.toArray.all (·.oneCell') = true) := by rw [← hcx]; exact all_oneCell_toArray (entC_one e)
        clear hcx hr hrow
        go_wp2_with (first
          | (refine wpList_load_mid (by rfl) 155 _ (by rfl) g (o + k * 35) (by rfl) cx _ HRX.out Tryz.underlying155 rfl HI.out ?_)
          | (refine wpList_store_box (fun W => ∀ V, Kp No W V → V.rangeAt wr.heap.size 0 cx ∧ Kp No wr V) (by rfl) 155 _ _ (by rfl) wr.heap.size 0 cx.toArray (by rfl) (by rfl) (thereE wr _ _ _ (by rw [List.size_toArray, hcl]; exact Nat.le_refl _)) HI.out HO1.out (boxE wr _ cx rfl hcl) ?_; intro W1 hW1; have HW1 := hid hW1; clear hW1))
        have HP := hid (fun V => placed_any e V HX.out.1)
        rw [HCX.out] at HP
        cases hpl : plB e with
        | false =>
          rw [hpl] at HP
          have HF : Hid (false = true ↔ RightP d) := ⟨fun h => (by cases h), fun h => (by
            have := (h.2 k e (by rw [HN.out]; exact hlt) he).1
            rw [hpl] at this
            cases this)⟩
          clear hpl
          refine wp_region_held_drew (S := fun V => Kp No W1 V) (by kernel_rfl) ((Kp.refl _ _).drew) (fun hHeld => ?_)
          refine wpAnyH_take (i := 0) (oi := { dst := some 15, op := Op.load 155 (Operand.tmp 4), type := 155, pos := "segment.go:30", after := #[], guard := none }) (v := .agg cx.toArray) rfl (by kernel_rfl) (by kernel_rfl) (by kernel_rfl) (fun _ _ _ h => h) (yieldsIf_load_mid (by rfl) _ _ rfl wr.heap.size 0 rfl cx _ (fun V hV => (HW1.out V hV).1) Tryz.underlying155 rfl HI.out) hHeld ?_
          simp only [Act.put, List.setIfInBounds_toArray, List.set_cons_zero, List.set_cons_succ]
          refine wpAnyH_ready (rs := [1]) (by kernel_rfl) (by simp) ?_
          refine AllReadyH.cons (o := { dst := some 16, op := Op.call { callee := Callee.value (Operand.func 160), args := #[Operand.tmp 15], argTypes := #[155] }, type := 4, pos := "segment.go:30", after := #[{ on := 0, ground := Ground.data }], guard := none }) rfl (fun K hK => ?_) AllReadyH.nil
          go_simp
          refine (HP.out _).mono ?_
          rintro e3 w3 ⟨rfl, h3⟩
          have HK3 : Hid (Kp No W1 w3) := (Kp.refl No W1).drew.andNone (Kp.below h3)
          clear h3
          go_wp2_with fail
          refine hK.out _ _ (HK3.out) (fun hh => ?_)
          clear hK K hHeld
          have hHeld := hh
          clear hh
          try simp only [Act.put, List.setIfInBounds_toArray, List.set_cons_zero, List.set_cons_succ]
          refine wpAnyH_take (i := 2) (oi := { dst := some 17, op := Op.unOp UnOp.not 4 (Operand.tmp 16), type := 4, pos := "segment.go:30", after := #[{ on := 1, ground := Ground.data }], guard := none }) (v := .bool true) rfl (by kernel_rfl) (by kernel_rfl) (by kernel_rfl) (fun _ _ _ h => h) (Or.inl ⟨by rfl, fun w' hw' => by (clear hw'; go_simp)⟩) hHeld ?_
          simp only [Act.put, List.setIfInBounds_toArray, List.set_cons_zero, List.set_cons_succ]
          refine wpAnyH_take (i := 3) (oi := { dst := some 18, op := Op.move (Operand.tmp 17), type := 4, pos := "segment.go:30", after := #[{ on := 2, ground := Ground.data }, { on := 1, ground := Ground.chain }], guard := none }) (v := .bool true) rfl (by kernel_rfl) (by kernel_rfl) (by kernel_rfl) (fun _ _ _ h => h) (Or.inl ⟨by rfl, fun w' hw' => by (clear hw'; go_simp)⟩) hHeld ?_
          simp only [Act.put, List.setIfInBounds_toArray, List.set_cons_zero, List.set_cons_succ]
          refine wpAnyH_take (i := 4) (oi := { dst := some 19, op := Op.move (Operand.tmp 3), type := 3, pos := "segment.go:30", after := #[{ on := 3, ground := Ground.guard }], guard := some (3, false) }) (v := undef) rfl (by kernel_rfl) (by kernel_rfl) (by kernel_rfl) (fun _ _ _ h => h) (Or.inr ⟨by rfl, rfl⟩) hHeld ?_
          simp only [Act.put, List.setIfInBounds_toArray, List.set_cons_zero, List.set_cons_succ]
          refine wpAnyH_take (i := 5) (oi := { dst := some 20, op := Op.binOp BinOp.gtr 3 (Operand.tmp 19) (Operand.const (Value.int IntKind.i64 0)) 3, type := 4, pos := "segment.go:30", after := #[{ on := 4, ground := Ground.data }, { on := 3, ground := Ground.guard }], guard := some (3, false) }) (v := undef) rfl (by kernel_rfl) (by kernel_rfl) (by kernel_rfl) (fun _ _ _ h => h) (Or.inr ⟨by rfl, rfl⟩) hHeld ?_
          simp only [Act.put, List.setIfInBounds_toArray, List.set_cons_zero, List.set_cons_succ]
          refine wpAnyH_take (i := 6) (oi := { dst := some 21, op := Op.move (Operand.tmp 20), type := 4, pos := "segment.go:30", after := #[{ on := 5, ground := Ground.data }, { on := 3, ground := Ground.chain }, { on := 3, ground := Ground.guard }], guard := some (3, false) }) (v := undef) rfl (by kernel_rfl) (by kernel_rfl) (by kernel_rfl) (fun _ _ _ h => h) (Or.inr ⟨by rfl, rfl⟩) hHeld ?_
          simp only [Act.put, List.setIfInBounds_toArray, List.set_cons_zero, List.set_cons_succ]
          refine wpAnyH_take (i := 7) (oi := { dst := some 22, op := Op.move (Operand.tmp 0), type := 81, pos := "segment.go:30", after := #[{ on := 6, ground := Ground.guard }], guard := some (6, true) }) (v := undef) rfl (by kernel_rfl) (by kernel_rfl) (by kernel_rfl) (fun _ _ _ h => h) (Or.inr ⟨by rfl, rfl⟩) hHeld ?_
          simp only [Act.put, List.setIfInBounds_toArray, List.set_cons_zero, List.set_cons_succ]
          refine wpAnyH_take (i := 8) (oi := { dst := some 23, op := Op.move (Operand.tmp 3), type := 3, pos := "segment.go:30", after := #[{ on := 6, ground := Ground.guard }], guard := some (6, true) }) (v := undef) rfl (by kernel_rfl) (by kernel_rfl) (by kernel_rfl) (fun _ _ _ h => h) (Or.inr ⟨by rfl, rfl⟩) hHeld ?_
          simp only [Act.put, List.setIfInBounds_toArray, List.set_cons_zero, List.set_cons_succ]
          refine wpAnyH_take (i := 9) (oi := { dst := some 24, op := Op.binOp BinOp.sub 3 (Operand.tmp 23) (Operand.const (Value.int IntKind.i64 1)) 3, type := 3, pos := "segment.go:30", after := #[{ on := 8, ground := Ground.data }, { on := 6, ground := Ground.guard }], guard := some (6, true) }) (v := undef) rfl (by kernel_rfl) (by kernel_rfl) (by kernel_rfl) (fun _ _ _ h => h) (Or.inr ⟨by rfl, rfl⟩) hHeld ?_
          simp only [Act.put, List.setIfInBounds_toArray, List.set_cons_zero, List.set_cons_succ]
          refine wpAnyH_take (i := 10) (oi := { dst := some 25, op := Op.indexAddr 81 (Operand.tmp 22) (Operand.tmp 24), type := 0, pos := "segment.go:30", after := #[{ on := 7, ground := Ground.data }, { on := 9, ground := Ground.data }, { on := 6, ground := Ground.guard }], guard := some (6, true) }) (v := undef) rfl (by kernel_rfl) (by kernel_rfl) (by kernel_rfl) (fun _ _ _ h => h) (Or.inr ⟨by rfl, rfl⟩) hHeld ?_
          simp only [Act.put, List.setIfInBounds_toArray, List.set_cons_zero, List.set_cons_succ]
          refine wpAnyH_take (i := 11) (oi := { dst := some 26, op := Op.load 155 (Operand.tmp 25), type := 155, pos := "segment.go:30", after := #[{ on := 10, ground := Ground.data }, { on := 6, ground := Ground.guard }], guard := some (6, true) }) (v := undef) rfl (by kernel_rfl) (by kernel_rfl) (by kernel_rfl) (fun _ _ _ h => h) (Or.inr ⟨by rfl, rfl⟩) hHeld ?_
          simp only [Act.put, List.setIfInBounds_toArray, List.set_cons_zero, List.set_cons_succ]
          refine wpAnyH_take (i := 12) (oi := { dst := some 27, op := Op.load 155 (Operand.tmp 4), type := 155, pos := "segment.go:30", after := #[{ on := 6, ground := Ground.guard }], guard := some (6, true) }) (v := undef) rfl (by kernel_rfl) (by kernel_rfl) (by kernel_rfl) (fun _ _ _ h => h) (Or.inr ⟨by rfl, rfl⟩) hHeld ?_
          simp only [Act.put, List.setIfInBounds_toArray, List.set_cons_zero, List.set_cons_succ]
          refine wpAnyH_take (i := 13) (oi := { dst := some 28, op := Op.call { callee := Callee.value (Operand.func 133), args := #[Operand.tmp 26, Operand.tmp 27], argTypes := #[155, 155] }, type := 3, pos := "segment.go:30", after := #[{ on := 11, ground := Ground.data }, { on := 12, ground := Ground.data }, { on := 6, ground := Ground.chain }, { on := 6, ground := Ground.guard }], guard := some (6, true) }) (v := undef) rfl (by kernel_rfl) (by kernel_rfl) (by kernel_rfl) (fun _ _ _ h => h) (Or.inr ⟨by rfl, rfl⟩) hHeld ?_
          simp only [Act.put, List.setIfInBounds_toArray, List.set_cons_zero, List.set_cons_succ]
          refine wpAnyH_take (i := 14) (oi := { dst := some 29, op := Op.binOp BinOp.geq 3 (Operand.tmp 28) (Operand.const (Value.int IntKind.i64 0)) 3, type := 4, pos := "segment.go:30", after := #[{ on := 13, ground := Ground.data }, { on := 6, ground := Ground.guard }], guard := some (6, true) }) (v := undef) rfl (by kernel_rfl) (by kernel_rfl) (by kernel_rfl) (fun _ _ _ h => h) (Or.inr ⟨by rfl, rfl⟩) hHeld ?_
          simp only [Act.put, List.setIfInBounds_toArray, List.set_cons_zero, List.set_cons_succ]
          refine wpAnyH_take (i := 15) (oi := { dst := some 30, op := Op.pick (Operand.tmp 21) (Operand.tmp 29) (Operand.const (Value.bool false)), type := 4, pos := "segment.go:30", after := #[{ on := 6, ground := Ground.data }, { on := 14, ground := Ground.data }, { on := 3, ground := Ground.guard }], guard := some (3, false) }) (v := undef) rfl (by kernel_rfl) (by kernel_rfl) (by kernel_rfl) (fun _ _ _ h => h) (Or.inr ⟨by rfl, rfl⟩) hHeld ?_
          simp only [Act.put, List.setIfInBounds_toArray, List.set_cons_zero, List.set_cons_succ]
          refine wpAnyH_take (i := 16) (oi := { dst := some 31, op := Op.pick (Operand.tmp 18) (Operand.const (Value.bool true)) (Operand.tmp 30), type := 4, pos := "segment.go:30", after := #[{ on := 3, ground := Ground.data }, { on := 15, ground := Ground.data }], guard := none }) (v := .bool true) rfl (by kernel_rfl) (by kernel_rfl) (by kernel_rfl) (fun _ _ _ h => h) (Or.inl ⟨by rfl, fun w' hw' => by (clear hw'; go_simp)⟩) hHeld ?_
          simp only [Act.put, List.setIfInBounds_toArray, List.set_cons_zero, List.set_cons_succ]
          refine wpAnyH_done (by kernel_rfl) ?_ _
          have HK := hid (HS.out.2.andNone (HW1.out _ HK3.out).2)
          clear hHeld
          go_wp2_with fail
          go_ret
          exact ⟨⟨false, rfl, HF.out⟩, HK.out⟩
        | true =>
          rw [hpl] at HP
          by_cases hk0 : k = 0
          · subst hk0
            have HU : Hid (UpTo d (0 + 1)) := (UpTo.zero d).next he hpl (fun j x hj => by omega)
            clear hpl
            refine wp_region_held_drew (S := fun V => Kp No W1 V) (by kernel_rfl) ((Kp.refl _ _).drew) (fun hHeld => ?_)
            refine wpAnyH_take (i := 0) (oi := { dst := some 15, op := Op.load 155 (Operand.tmp 4), type := 155, pos := "segment.go:30", after := #[], guard := none }) (v := .agg cx.toArray) rfl (by kernel_rfl) (by kernel_rfl) (by kernel_rfl) (fun _ _ _ h => h) (yieldsIf_load_mid (by rfl) _ _ rfl wr.heap.size 0 rfl cx _ (fun V hV => (HW1.out V hV).1) Tryz.underlying155 rfl HI.out) hHeld ?_
            simp only [Act.put, List.setIfInBounds_toArray, List.set_cons_zero, List.set_cons_succ]
            refine wpAnyH_ready (rs := [1]) (by kernel_rfl) (by simp) ?_
            refine AllReadyH.cons (o := { dst := some 16, op := Op.call { callee := Callee.value (Operand.func 160), args := #[Operand.tmp 15], argTypes := #[155] }, type := 4, pos := "segment.go:30", after := #[{ on := 0, ground := Ground.data }], guard := none }) rfl (fun K hK => ?_) AllReadyH.nil
            go_simp
            refine (HP.out _).mono ?_
            rintro e3 w3 ⟨rfl, h3⟩
            have HK3 : Hid (Kp No W1 w3) := (Kp.refl No W1).drew.andNone (Kp.below h3)
            clear h3
            go_wp2_with fail
            refine hK.out _ _ (HK3.out) (fun hh => ?_)
            clear hK K hHeld
            have hHeld := hh
            clear hh
            try simp only [Act.put, List.setIfInBounds_toArray, List.set_cons_zero, List.set_cons_succ]
            refine wpAnyH_take (i := 2) (oi := { dst := some 17, op := Op.unOp UnOp.not 4 (Operand.tmp 16), type := 4, pos := "segment.go:30", after := #[{ on := 1, ground := Ground.data }], guard := none }) (v := .bool false) rfl (by kernel_rfl) (by kernel_rfl) (by kernel_rfl) (fun _ _ _ h => h) (Or.inl ⟨by rfl, fun w' hw' => by (clear hw'; go_simp)⟩) hHeld ?_
            simp only [Act.put, List.setIfInBounds_toArray, List.set_cons_zero, List.set_cons_succ]
            refine wpAnyH_take (i := 3) (oi := { dst := some 18, op := Op.move (Operand.tmp 17), type := 4, pos := "segment.go:30", after := #[{ on := 2, ground := Ground.data }, { on := 1, ground := Ground.chain }], guard := none }) (v := .bool false) rfl (by kernel_rfl) (by kernel_rfl) (by kernel_rfl) (fun _ _ _ h => h) (Or.inl ⟨by rfl, fun w' hw' => by (clear hw'; go_simp)⟩) hHeld ?_
            simp only [Act.put, List.setIfInBounds_toArray, List.set_cons_zero, List.set_cons_succ]
            refine wpAnyH_take (i := 4) (oi := { dst := some 19, op := Op.move (Operand.tmp 3), type := 3, pos := "segment.go:30", after := #[{ on := 3, ground := Ground.guard }], guard := some (3, false) }) (v := .int .i64 0) rfl (by kernel_rfl) (by kernel_rfl) (by kernel_rfl) (fun _ _ _ h => h) (Or.inl ⟨by rfl, fun w' hw' => by (clear hw'; go_simp)⟩) hHeld ?_
            simp only [Act.put, List.setIfInBounds_toArray, List.set_cons_zero, List.set_cons_succ]
            refine wpAnyH_take (i := 5) (oi := { dst := some 20, op := Op.binOp BinOp.gtr 3 (Operand.tmp 19) (Operand.const (Value.int IntKind.i64 0)) 3, type := 4, pos := "segment.go:30", after := #[{ on := 4, ground := Ground.data }, { on := 3, ground := Ground.guard }], guard := some (3, false) }) (v := .bool false) rfl (by kernel_rfl) (by kernel_rfl) (by kernel_rfl) (fun _ _ _ h => h) (Or.inl ⟨by rfl, fun w' hw' => by (clear hw'; go_simp)⟩) hHeld ?_
            simp only [Act.put, List.setIfInBounds_toArray, List.set_cons_zero, List.set_cons_succ]
            refine wpAnyH_take (i := 6) (oi := { dst := some 21, op := Op.move (Operand.tmp 20), type := 4, pos := "segment.go:30", after := #[{ on := 5, ground := Ground.data }, { on := 3, ground := Ground.chain }, { on := 3, ground := Ground.guard }], guard := some (3, false) }) (v := .bool false) rfl (by kernel_rfl) (by kernel_rfl) (by kernel_rfl) (fun _ _ _ h => h) (Or.inl ⟨by rfl, fun w' hw' => by (clear hw'; go_simp)⟩) hHeld ?_
            simp only [Act.put, List.setIfInBounds_toArray, List.set_cons_zero, List.set_cons_succ]
            refine wpAnyH_take (i := 7) (oi := { dst := some 22, op := Op.move (Operand.tmp 0), type := 81, pos := "segment.go:30", after := #[{ on := 6, ground := Ground.guard }], guard := some (6, true) }) (v := undef) rfl (by kernel_rfl) (by kernel_rfl) (by kernel_rfl) (fun _ _ _ h => h) (Or.inr ⟨by rfl, rfl⟩) hHeld ?_
            simp only [Act.put, List.setIfInBounds_toArray, List.set_cons_zero, List.set_cons_succ]
            refine wpAnyH_take (i := 8) (oi := { dst := some 23, op := Op.move (Operand.tmp 3), type := 3, pos := "segment.go:30", after := #[{ on := 6, ground := Ground.guard }], guard := some (6, true) }) (v := undef) rfl (by kernel_rfl) (by kernel_rfl) (by kernel_rfl) (fun _ _ _ h => h) (Or.inr ⟨by rfl, rfl⟩) hHeld ?_
            simp only [Act.put, List.setIfInBounds_toArray, List.set_cons_zero, List.set_cons_succ]
            refine wpAnyH_take (i := 9) (oi := { dst := some 24, op := Op.binOp BinOp.sub 3 (Operand.tmp 23) (Operand.const (Value.int IntKind.i64 1)) 3, type := 3, pos := "segment.go:30", after := #[{ on := 8, ground := Ground.data }, { on := 6, ground := Ground.guard }], guard := some (6, true) }) (v := undef) rfl (by kernel_rfl) (by kernel_rfl) (by kernel_rfl) (fun _ _ _ h => h) (Or.inr ⟨by rfl, rfl⟩) hHeld ?_
            simp only [Act.put, List.setIfInBounds_toArray, List.set_cons_zero, List.set_cons_succ]
            refine wpAnyH_take (i := 10) (oi := { dst := some 25, op := Op.indexAddr 81 (Operand.tmp 22) (Operand.tmp 24), type := 0, pos := "segment.go:30", after := #[{ on := 7, ground := Ground.data }, { on := 9, ground := Ground.data }, { on := 6, ground := Ground.guard }], guard := some (6, true) }) (v := undef) rfl (by kernel_rfl) (by kernel_rfl) (by kernel_rfl) (fun _ _ _ h => h) (Or.inr ⟨by rfl, rfl⟩) hHeld ?_
            simp only [Act.put, List.setIfInBounds_toArray, List.set_cons_zero, List.set_cons_succ]
            refine wpAnyH_take (i := 11) (oi := { dst := some 26, op := Op.load 155 (Operand.tmp 25), type := 155, pos := "segment.go:30", after := #[{ on := 10, ground := Ground.data }, { on := 6, ground := Ground.guard }], guard := some (6, true) }) (v := undef) rfl (by kernel_rfl) (by kernel_rfl) (by kernel_rfl) (fun _ _ _ h => h) (Or.inr ⟨by rfl, rfl⟩) hHeld ?_
            simp only [Act.put, List.setIfInBounds_toArray, List.set_cons_zero, List.set_cons_succ]
            refine wpAnyH_take (i := 12) (oi := { dst := some 27, op := Op.load 155 (Operand.tmp 4), type := 155, pos := "segment.go:30", after := #[{ on := 6, ground := Ground.guard }], guard := some (6, true) }) (v := undef) rfl (by kernel_rfl) (by kernel_rfl) (by kernel_rfl) (fun _ _ _ h => h) (Or.inr ⟨by rfl, rfl⟩) hHeld ?_
            simp only [Act.put, List.setIfInBounds_toArray, List.set_cons_zero, List.set_cons_succ]
            refine wpAnyH_take (i := 13) (oi := { dst := some 28, op := Op.call { callee := Callee.value (Operand.func 133), args := #[Operand.tmp 26, Operand.tmp 27], argTypes := #[155, 155] }, type := 3, pos := "segment.go:30", after := #[{ on := 11, ground := Ground.data }, { on := 12, ground := Ground.data }, { on := 6, ground := Ground.chain }, { on := 6, ground := Ground.guard }], guard := some (6, true) }) (v := undef) rfl (by kernel_rfl) (by kernel_rfl) (by kernel_rfl) (fun _ _ _ h => h) (Or.inr ⟨by rfl, rfl⟩) hHeld ?_
            simp only [Act.put, List.setIfInBounds_toArray, List.set_cons_zero, List.set_cons_succ]
            refine wpAnyH_take (i := 14) (oi := { dst := some 29, op := Op.binOp BinOp.geq 3 (Operand.tmp 28) (Operand.const (Value.int IntKind.i64 0)) 3, type := 4, pos := "segment.go:30", after := #[{ on := 13, ground := Ground.data }, { on := 6, ground := Ground.guard }], guard := some (6, true) }) (v := undef) rfl (by kernel_rfl) (by kernel_rfl) (by kernel_rfl) (fun _ _ _ h => h) (Or.inr ⟨by rfl, rfl⟩) hHeld ?_
            simp only [Act.put, List.setIfInBounds_toArray, List.set_cons_zero, List.set_cons_succ]
            refine wpAnyH_take (i := 15) (oi := { dst := some 30, op := Op.pick (Operand.tmp 21) (Operand.tmp 29) (Operand.const (Value.bool false)), type := 4, pos := "segment.go:30", after := #[{ on := 6, ground := Ground.data }, { on := 14, ground := Ground.data }, { on := 3, ground := Ground.guard }], guard := some (3, false) }) (v := .bool false) rfl (by kernel_rfl) (by kernel_rfl) (by kernel_rfl) (fun _ _ _ h => h) (Or.inl ⟨by rfl, fun w' hw' => by (clear hw'; go_simp)⟩) hHeld ?_
            simp only [Act.put, List.setIfInBounds_toArray, List.set_cons_zero, List.set_cons_succ]
            refine wpAnyH_take (i := 16) (oi := { dst := some 31, op := Op.pick (Operand.tmp 18) (Operand.const (Value.bool true)) (Operand.tmp 30), type := 4, pos := "segment.go:30", after := #[{ on := 3, ground := Ground.data }, { on := 15, ground := Ground.data }], guard := none }) (v := .bool false) rfl (by kernel_rfl) (by kernel_rfl) (by kernel_rfl) (fun _ _ _ h => h) (Or.inl ⟨by rfl, fun w' hw' => by (clear hw'; go_simp)⟩) hHeld ?_
            simp only [Act.put, List.setIfInBounds_toArray, List.set_cons_zero, List.set_cons_succ]
            refine wpAnyH_done (by kernel_rfl) ?_ _
            have HK := hid (HS.out.2.andNone (HW1.out _ HK3.out).2)
            clear hHeld
            go_wp2_with fail
            go_round
            case rel => exact ⟨0 + 1, by first | rfl | go_num, by omega, HU.out, HK.out⟩
            case measure => simp [intOf]; omega
          · have hkI : (0 : Int) < (k : Int) := by omega
            obtain ⟨k1, hk1⟩ : ∃ k1, k = k1 + 1 := ⟨k - 1, by omega⟩
            obtain ⟨y, hy⟩ : ∃ y, d[k1]? = some y := ⟨_, List.getElem?_eq_getElem (by rw [HN.out]; omega)⟩
            have hyo := (HROW.out.2 k1 y hy).1
            have hwk1 : IntKind.i64.wrap ((k : Int) - 1) = (k1 : Int) := by rw [IntKind.wrap_i64]; omega
            have hk1n : (k1 : Int) < (n : Int) := by omega
            have HCMP := hid (fun V => compare_any y e V hyo HX.out.1)
            have HRY : Hid (∀ V, Kp No W1 V → V.rangeAt g (o + k1 * 35) (entC y)) := fun V hV => ((HROW.out.kp (HW1.out V hV).2 (fun x => x)).2 k1 y hy).2
            have HIy := hid (inf hyo)
            have HCV : Hid (cmpE y.1 e.1 < 0 ↔ lexB y.1 e.1 = true) := cmpE_neg y.1 e.1
            have HUT : Hid (lexB y.1 e.1 = true → UpTo d (k + 1)) := fun h => HS.out.1.next he hpl (fun j x hj hx => by
              have : j = k1 := by omega
              subst this
              rw [hy] at hx
              cases hx
              exact h)
            have HUF : Hid (lexB y.1 e.1 = false → (false = true ↔ RightP d)) := fun h => ⟨fun h => (by cases h), fun hr => (by
              have := (hr.2 k e (by rw [HN.out]; exact hlt) he).2 k1 y hk1.symm hy
              rw [h] at this
              cases this)⟩
            obtain ⟨z, hz⟩ : ∃ z, cmpE y.1 e.1 = z := ⟨_, rfl⟩
            rw [hz] at HCMP HCV
            obtain ⟨cy, hcy⟩ : ∃ cy, entC y = cy := ⟨_, rfl⟩
            rw [hcy] at HRY HIy HCMP
            rw [HCX.out] at HCMP
            clear hcy hz hk1 hy hyo hpl he
            by_cases hz0 : z < 0
            · have HU := hid (HUT.out (HCV.out.1 hz0))
              have hz1 : ¬ (0 : Int) ≤ z := by omega
              refine wp_region_held_drew (S := fun V => Kp No W1 V) (by kernel_rfl) ((Kp.refl _ _).drew) (fun hHeld => ?_)
              refine wpAnyH_take (i := 0) (oi := { dst := some 15, op := Op.load 155 (Operand.tmp 4), type := 155, pos := "segment.go:30", after := #[], guard := none }) (v := .agg cx.toArray) rfl (by kernel_rfl) (by kernel_rfl) (by kernel_rfl) (fun _ _ _ h => h) (yieldsIf_load_mid (by rfl) _ _ rfl wr.heap.size 0 rfl cx _ (fun V hV => (HW1.out V hV).1) Tryz.underlying155 rfl HI.out) hHeld ?_
              simp only [Act.put, List.setIfInBounds_toArray, List.set_cons_zero, List.set_cons_succ]
              refine wpAnyH_ready (rs := [1]) (by kernel_rfl) (by simp) ?_
              refine AllReadyH.cons (o := { dst := some 16, op := Op.call { callee := Callee.value (Operand.func 160), args := #[Operand.tmp 15], argTypes := #[155] }, type := 4, pos := "segment.go:30", after := #[{ on := 0, ground := Ground.data }], guard := none }) rfl (fun K hK => ?_) AllReadyH.nil
              go_simp
              refine (HP.out _).mono ?_
              rintro e3 w3 ⟨rfl, h3⟩
              have HK3 : Hid (Kp No W1 w3) := (Kp.refl No W1).drew.andNone (Kp.below h3)
              clear h3
              go_wp2_with fail
              refine hK.out _ _ (HK3.out) (fun hh => ?_)
              clear hK K hHeld
              have hHeld := hh
              clear hh
              try simp only [Act.put, List.setIfInBounds_toArray, List.set_cons_zero, List.set_cons_succ]
              refine wpAnyH_take (i := 2) (oi := { dst := some 17, op := Op.unOp UnOp.not 4 (Operand.tmp 16), type := 4, pos := "segment.go:30", after := #[{ on := 1, ground := Ground.data }], guard := none }) (v := .bool false) rfl (by kernel_rfl) (by kernel_rfl) (by kernel_rfl) (fun _ _ _ h => h) (Or.inl ⟨by rfl, fun w' hw' => by (clear hw'; go_simp)⟩) hHeld ?_
              simp only [Act.put, List.setIfInBounds_toArray, List.set_cons_zero, List.set_cons_succ]
              refine wpAnyH_take (i := 3) (oi := { dst := some 18, op := Op.move (Operand.tmp 17), type := 4, pos := "segment.go:30", after := #[{ on := 2, ground := Ground.data }, { on := 1, ground := Ground.chain }], guard := none }) (v := .bool false) rfl (by kernel_rfl) (by kernel_rfl) (by kernel_rfl) (fun _ _ _ h => h) (Or.inl ⟨by rfl, fun w' hw' => by (clear hw'; go_simp)⟩) hHeld ?_
              simp only [Act.put, List.setIfInBounds_toArray, List.set_cons_zero, List.set_cons_succ]
              refine wpAnyH_take (i := 4) (oi := { dst := some 19, op := Op.move (Operand.tmp 3), type := 3, pos := "segment.go:30", after := #[{ on := 3, ground := Ground.guard }], guard := some (3, false) }) (v := .int .i64 (k : Int)) rfl (by kernel_rfl) (by kernel_rfl) (by kernel_rfl) (fun _ _ _ h => h) (Or.inl ⟨by rfl, fun w' hw' => by (clear hw'; go_simp)⟩) hHeld ?_
              simp only [Act.put, List.setIfInBounds_toArray, List.set_cons_zero, List.set_cons_succ]
              refine wpAnyH_take (i := 5) (oi := { dst := some 20, op := Op.binOp BinOp.gtr 3 (Operand.tmp 19) (Operand.const (Value.int IntKind.i64 0)) 3, type := 4, pos := "segment.go:30", after := #[{ on := 4, ground := Ground.data }, { on := 3, ground := Ground.guard }], guard := some (3, false) }) (v := .bool true) rfl (by kernel_rfl) (by kernel_rfl) (by kernel_rfl) (fun _ _ _ h => h) (Or.inl ⟨by rfl, fun w' hw' => by (clear hw'; go_simp <;> omega)⟩) hHeld ?_
              simp only [Act.put, List.setIfInBounds_toArray, List.set_cons_zero, List.set_cons_succ]
              refine wpAnyH_take (i := 6) (oi := { dst := some 21, op := Op.move (Operand.tmp 20), type := 4, pos := "segment.go:30", after := #[{ on := 5, ground := Ground.data }, { on := 3, ground := Ground.chain }, { on := 3, ground := Ground.guard }], guard := some (3, false) }) (v := .bool true) rfl (by kernel_rfl) (by kernel_rfl) (by kernel_rfl) (fun _ _ _ h => h) (Or.inl ⟨by rfl, fun w' hw' => by (clear hw'; go_simp)⟩) hHeld ?_
              simp only [Act.put, List.setIfInBounds_toArray, List.set_cons_zero, List.set_cons_succ]
              refine wpAnyH_take (i := 7) (oi := { dst := some 22, op := Op.move (Operand.tmp 0), type := 81, pos := "segment.go:30", after := #[{ on := 6, ground := Ground.guard }], guard := some (6, true) }) (v := .slice (some ⟨g, o, none⟩) n c) rfl (by kernel_rfl) (by kernel_rfl) (by kernel_rfl) (fun _ _ _ h => h) (Or.inl ⟨by rfl, fun w' hw' => by (clear hw'; go_simp)⟩) hHeld ?_
              simp only [Act.put, List.setIfInBounds_toArray, List.set_cons_zero, List.set_cons_succ]
              refine wpAnyH_take (i := 8) (oi := { dst := some 23, op := Op.move (Operand.tmp 3), type := 3, pos := "segment.go:30", after := #[{ on := 6, ground := Ground.guard }], guard := some (6, true) }) (v := .int .i64 (k : Int)) rfl (by kernel_rfl) (by kernel_rfl) (by kernel_rfl) (fun _ _ _ h => h) (Or.inl ⟨by rfl, fun w' hw' => by (clear hw'; go_simp)⟩) hHeld ?_
              simp only [Act.put, List.setIfInBounds_toArray, List.set_cons_zero, List.set_cons_succ]
              refine wpAnyH_take (i := 9) (oi := { dst := some 24, op := Op.binOp BinOp.sub 3 (Operand.tmp 23) (Operand.const (Value.int IntKind.i64 1)) 3, type := 3, pos := "segment.go:30", after := #[{ on := 8, ground := Ground.data }, { on := 6, ground := Ground.guard }], guard := some (6, true) }) (v := .int .i64 (k1 : Int)) rfl (by kernel_rfl) (by kernel_rfl) (by kernel_rfl) (fun _ _ _ h => h) (Or.inl ⟨by rfl, fun w' hw' => by (clear hw'; go_simp)⟩) hHeld ?_
              simp only [Act.put, List.setIfInBounds_toArray, List.set_cons_zero, List.set_cons_succ]
              refine wpAnyH_take (i := 10) (oi := { dst := some 25, op := Op.indexAddr 81 (Operand.tmp 22) (Operand.tmp 24), type := 0, pos := "segment.go:30", after := #[{ on := 7, ground := Ground.data }, { on := 9, ground := Ground.data }, { on := 6, ground := Ground.guard }], guard := some (6, true) }) (v := .pointer (some ⟨g, o + k1 * 35, none⟩)) rfl (by kernel_rfl) (by kernel_rfl) (by kernel_rfl) (fun _ _ _ h => h) (Or.inl ⟨by rfl, fun w' hw' => by (clear hw'; go_simp)⟩) hHeld ?_
              simp only [Act.put, List.setIfInBounds_toArray, List.set_cons_zero, List.set_cons_succ]
              refine wpAnyH_take (i := 11) (oi := { dst := some 26, op := Op.load 155 (Operand.tmp 25), type := 155, pos := "segment.go:30", after := #[{ on := 10, ground := Ground.data }, { on := 6, ground := Ground.guard }], guard := some (6, true) }) (v := .agg cy.toArray) rfl (by kernel_rfl) (by kernel_rfl) (by kernel_rfl) (fun _ _ _ h => h) (yieldsIf_load_mid (by rfl) _ _ rfl g (o + k1 * 35) rfl cy _ (HRY.out) Tryz.underlying155 rfl HIy.out) hHeld ?_
              simp only [Act.put, List.setIfInBounds_toArray, List.set_cons_zero, List.set_cons_succ]
              refine wpAnyH_take (i := 12) (oi := { dst := some 27, op := Op.load 155 (Operand.tmp 4), type := 155, pos := "segment.go:30", after := #[{ on := 6, ground := Ground.guard }], guard := some (6, true) }) (v := .agg cx.toArray) rfl (by kernel_rfl) (by kernel_rfl) (by kernel_rfl) (fun _ _ _ h => h) (yieldsIf_load_mid (by rfl) _ _ rfl wr.heap.size 0 rfl cx _ (fun V hV => (HW1.out V hV).1) Tryz.underlying155 rfl HI.out) hHeld ?_
              simp only [Act.put, List.setIfInBounds_toArray, List.set_cons_zero, List.set_cons_succ]
              refine wpAnyH_ready (rs := [13]) (by kernel_rfl) (by simp) ?_
              refine AllReadyH.cons (o := { dst := some 28, op := Op.call { callee := Callee.value (Operand.func 133), args := #[Operand.tmp 26, Operand.tmp 27], argTypes := #[155, 155] }, type := 3, pos := "segment.go:30", after := #[{ on := 11, ground := Ground.data }, { on := 12, ground := Ground.data }, { on := 6, ground := Ground.chain }, { on := 6, ground := Ground.guard }], guard := some (6, true) }) rfl (fun K hK => ?_) AllReadyH.nil
              go_simp
              refine (HCMP.out _).mono ?_
              rintro e4 w4 ⟨rfl, h4⟩
              have HK4 : Hid (Kp No W1 w4) := HK3.out.andNone (Kp.below h4)
              clear h4
              go_wp2_with fail
              refine hK.out _ _ (HK4.out) (fun hh => ?_)
              clear hK K hHeld
              have hHeld := hh
              clear hh
              try simp only [Act.put, List.setIfInBounds_toArray, List.set_cons_zero, List.set_cons_succ]
              refine wpAnyH_take (i := 14) (oi := { dst := some 29, op := Op.binOp BinOp.geq 3 (Operand.tmp 28) (Operand.const (Value.int IntKind.i64 0)) 3, type := 4, pos := "segment.go:30", after := #[{ on := 13, ground := Ground.data }, { on := 6, ground := Ground.guard }], guard := some (6, true) }) (v := .bool false) rfl (by kernel_rfl) (by kernel_rfl) (by kernel_rfl) (fun _ _ _ h => h) (Or.inl ⟨by rfl, fun w' hw' => by (clear hw'; go_simp)⟩) hHeld ?_
              simp only [Act.put, List.setIfInBounds_toArray, List.set_cons_zero, List.set_cons_succ]
              refine wpAnyH_take (i := 15) (oi := { dst := some 30, op := Op.pick (Operand.tmp 21) (Operand.tmp 29) (Operand.const (Value.bool false)), type := 4, pos := "segment.go:30", after := #[{ on := 6, ground := Ground.data }, { on := 14, ground := Ground.data }, { on := 3, ground := Ground.guard }], guard := some (3, false) }) (v := .bool false) rfl (by kernel_rfl) (by kernel_rfl) (by kernel_rfl) (fun _ _ _ h => h) (Or.inl ⟨by rfl, fun w' hw' => by (clear hw'; go_simp)⟩) hHeld ?_
              simp only [Act.put, List.setIfInBounds_toArray, List.set_cons_zero, List.set_cons_succ]
              refine wpAnyH_take (i := 16) (oi := { dst := some 31, op := Op.pick (Operand.tmp 18) (Operand.const (Value.bool true)) (Operand.tmp 30), type := 4, pos := "segment.go:30", after := #[{ on := 3, ground := Ground.data }, { on := 15, ground := Ground.data }], guard := none }) (v := .bool false) rfl (by kernel_rfl) (by kernel_rfl) (by kernel_rfl) (fun _ _ _ h => h) (Or.inl ⟨by rfl, fun w' hw' => by (clear hw'; go_simp)⟩) hHeld ?_
              simp only [Act.put, List.setIfInBounds_toArray, List.set_cons_zero, List.set_cons_succ]
              refine wpAnyH_done (by kernel_rfl) ?_ _
              have HK := hid (HS.out.2.andNone (HW1.out _ HK4.out).2)
              clear hHeld
              go_wp2_with fail
              go_round
              case rel => exact ⟨k + 1, by first | rfl | go_num, by omega, HU.out, HK.out⟩
              case measure => simp [intOf]; omega
            · have HU := hid (HUF.out (by
                cases hb : lexB y.1 e.1 with
                | false => rfl
                | true => exact absurd (HCV.out.2 hb) hz0))
              have hz1 : (0 : Int) ≤ z := by omega
              refine wp_region_held_drew (S := fun V => Kp No W1 V) (by kernel_rfl) ((Kp.refl _ _).drew) (fun hHeld => ?_)
              refine wpAnyH_take (i := 0) (oi := { dst := some 15, op := Op.load 155 (Operand.tmp 4), type := 155, pos := "segment.go:30", after := #[], guard := none }) (v := .agg cx.toArray) rfl (by kernel_rfl) (by kernel_rfl) (by kernel_rfl) (fun _ _ _ h => h) (yieldsIf_load_mid (by rfl) _ _ rfl wr.heap.size 0 rfl cx _ (fun V hV => (HW1.out V hV).1) Tryz.underlying155 rfl HI.out) hHeld ?_
              simp only [Act.put, List.setIfInBounds_toArray, List.set_cons_zero, List.set_cons_succ]
              refine wpAnyH_ready (rs := [1]) (by kernel_rfl) (by simp) ?_
              refine AllReadyH.cons (o := { dst := some 16, op := Op.call { callee := Callee.value (Operand.func 160), args := #[Operand.tmp 15], argTypes := #[155] }, type := 4, pos := "segment.go:30", after := #[{ on := 0, ground := Ground.data }], guard := none }) rfl (fun K hK => ?_) AllReadyH.nil
              go_simp
              refine (HP.out _).mono ?_
              rintro e3 w3 ⟨rfl, h3⟩
              have HK3 : Hid (Kp No W1 w3) := (Kp.refl No W1).drew.andNone (Kp.below h3)
              clear h3
              go_wp2_with fail
              refine hK.out _ _ (HK3.out) (fun hh => ?_)
              clear hK K hHeld
              have hHeld := hh
              clear hh
              try simp only [Act.put, List.setIfInBounds_toArray, List.set_cons_zero, List.set_cons_succ]
              refine wpAnyH_take (i := 2) (oi := { dst := some 17, op := Op.unOp UnOp.not 4 (Operand.tmp 16), type := 4, pos := "segment.go:30", after := #[{ on := 1, ground := Ground.data }], guard := none }) (v := .bool false) rfl (by kernel_rfl) (by kernel_rfl) (by kernel_rfl) (fun _ _ _ h => h) (Or.inl ⟨by rfl, fun w' hw' => by (clear hw'; go_simp)⟩) hHeld ?_
              simp only [Act.put, List.setIfInBounds_toArray, List.set_cons_zero, List.set_cons_succ]
              refine wpAnyH_take (i := 3) (oi := { dst := some 18, op := Op.move (Operand.tmp 17), type := 4, pos := "segment.go:30", after := #[{ on := 2, ground := Ground.data }, { on := 1, ground := Ground.chain }], guard := none }) (v := .bool false) rfl (by kernel_rfl) (by kernel_rfl) (by kernel_rfl) (fun _ _ _ h => h) (Or.inl ⟨by rfl, fun w' hw' => by (clear hw'; go_simp)⟩) hHeld ?_
              simp only [Act.put, List.setIfInBounds_toArray, List.set_cons_zero, List.set_cons_succ]
              refine wpAnyH_take (i := 4) (oi := { dst := some 19, op := Op.move (Operand.tmp 3), type := 3, pos := "segment.go:30", after := #[{ on := 3, ground := Ground.guard }], guard := some (3, false) }) (v := .int .i64 (k : Int)) rfl (by kernel_rfl) (by kernel_rfl) (by kernel_rfl) (fun _ _ _ h => h) (Or.inl ⟨by rfl, fun w' hw' => by (clear hw'; go_simp)⟩) hHeld ?_
              simp only [Act.put, List.setIfInBounds_toArray, List.set_cons_zero, List.set_cons_succ]
              refine wpAnyH_take (i := 5) (oi := { dst := some 20, op := Op.binOp BinOp.gtr 3 (Operand.tmp 19) (Operand.const (Value.int IntKind.i64 0)) 3, type := 4, pos := "segment.go:30", after := #[{ on := 4, ground := Ground.data }, { on := 3, ground := Ground.guard }], guard := some (3, false) }) (v := .bool true) rfl (by kernel_rfl) (by kernel_rfl) (by kernel_rfl) (fun _ _ _ h => h) (Or.inl ⟨by rfl, fun w' hw' => by (clear hw'; go_simp <;> omega)⟩) hHeld ?_
              simp only [Act.put, List.setIfInBounds_toArray, List.set_cons_zero, List.set_cons_succ]
              refine wpAnyH_take (i := 6) (oi := { dst := some 21, op := Op.move (Operand.tmp 20), type := 4, pos := "segment.go:30", after := #[{ on := 5, ground := Ground.data }, { on := 3, ground := Ground.chain }, { on := 3, ground := Ground.guard }], guard := some (3, false) }) (v := .bool true) rfl (by kernel_rfl) (by kernel_rfl) (by kernel_rfl) (fun _ _ _ h => h) (Or.inl ⟨by rfl, fun w' hw' => by (clear hw'; go_simp)⟩) hHeld ?_
              simp only [Act.put, List.setIfInBounds_toArray, List.set_cons_zero, List.set_cons_succ]
              refine wpAnyH_take (i := 7) (oi := { dst := some 22, op := Op.move (Operand.tmp 0), type := 81, pos := "segment.go:30", after := #[{ on := 6, ground := Ground.guard }], guard := some (6, true) }) (v := .slice (some ⟨g, o, none⟩) n c) rfl (by kernel_rfl) (by kernel_rfl) (by kernel_rfl) (fun _ _ _ h => h) (Or.inl ⟨by rfl, fun w' hw' => by (clear hw'; go_simp)⟩) hHeld ?_
              simp only [Act.put, List.setIfInBounds_toArray, List.set_cons_zero, List.set_cons_succ]
              refine wpAnyH_take (i := 8) (oi := { dst := some 23, op := Op.move (Operand.tmp 3), type := 3, pos := "segment.go:30", after := #[{ on := 6, ground := Ground.guard }], guard := some (6, true) }) (v := .int .i64 (k : Int)) rfl (by kernel_rfl) (by kernel_rfl) (by kernel_rfl) (fun _ _ _ h => h) (Or.inl ⟨by rfl, fun w' hw' => by (clear hw'; go_simp)⟩) hHeld ?_
              simp only [Act.put, List.setIfInBounds_toArray, List.set_cons_zero, List.set_cons_succ]
              refine wpAnyH_take (i := 9) (oi := { dst := some 24, op := Op.binOp BinOp.sub 3 (Operand.tmp 23) (Operand.const (Value.int IntKind.i64 1)) 3, type := 3, pos := "segment.go:30", after := #[{ on := 8, ground := Ground.data }, { on := 6, ground := Ground.guard }], guard := some (6, true) }) (v := .int .i64 (k1 : Int)) rfl (by kernel_rfl) (by kernel_rfl) (by kernel_rfl) (fun _ _ _ h => h) (Or.inl ⟨by rfl, fun w' hw' => by (clear hw'; go_simp)⟩) hHeld ?_
              simp only [Act.put, List.setIfInBounds_toArray, List.set_cons_zero, List.set_cons_succ]
              refine wpAnyH_take (i := 10) (oi := { dst := some 25, op := Op.indexAddr 81 (Operand.tmp 22) (Operand.tmp 24), type := 0, pos := "segment.go:30", after := #[{ on := 7, ground := Ground.data }, { on := 9, ground := Ground.data }, { on := 6, ground := Ground.guard }], guard := some (6, true) }) (v := .pointer (some ⟨g, o + k1 * 35, none⟩)) rfl (by kernel_rfl) (by kernel_rfl) (by kernel_rfl) (fun _ _ _ h => h) (Or.inl ⟨by rfl, fun w' hw' => by (clear hw'; go_simp)⟩) hHeld ?_
              simp only [Act.put, List.setIfInBounds_toArray, List.set_cons_zero, List.set_cons_succ]
              refine wpAnyH_take (i := 11) (oi := { dst := some 26, op := Op.load 155 (Operand.tmp 25), type := 155, pos := "segment.go:30", after := #[{ on := 10, ground := Ground.data }, { on := 6, ground := Ground.guard }], guard := some (6, true) }) (v := .agg cy.toArray) rfl (by kernel_rfl) (by kernel_rfl) (by kernel_rfl) (fun _ _ _ h => h) (yieldsIf_load_mid (by rfl) _ _ rfl g (o + k1 * 35) rfl cy _ (HRY.out) Tryz.underlying155 rfl HIy.out) hHeld ?_
              simp only [Act.put, List.setIfInBounds_toArray, List.set_cons_zero, List.set_cons_succ]
              refine wpAnyH_take (i := 12) (oi := { dst := some 27, op := Op.load 155 (Operand.tmp 4), type := 155, pos := "segment.go:30", after := #[{ on := 6, ground := Ground.guard }], guard := some (6, true) }) (v := .agg cx.toArray) rfl (by kernel_rfl) (by kernel_rfl) (by kernel_rfl) (fun _ _ _ h => h) (yieldsIf_load_mid (by rfl) _ _ rfl wr.heap.size 0 rfl cx _ (fun V hV => (HW1.out V hV).1) Tryz.underlying155 rfl HI.out) hHeld ?_
              simp only [Act.put, List.setIfInBounds_toArray, List.set_cons_zero, List.set_cons_succ]
              refine wpAnyH_ready (rs := [13]) (by kernel_rfl) (by simp) ?_
              refine AllReadyH.cons (o := { dst := some 28, op := Op.call { callee := Callee.value (Operand.func 133), args := #[Operand.tmp 26, Operand.tmp 27], argTypes := #[155, 155] }, type := 3, pos := "segment.go:30", after := #[{ on := 11, ground := Ground.data }, { on := 12, ground := Ground.data }, { on := 6, ground := Ground.chain }, { on := 6, ground := Ground.guard }], guard := some (6, true) }) rfl (fun K hK => ?_) AllReadyH.nil
              go_simp
              refine (HCMP.out _).mono ?_
              rintro e4 w4 ⟨rfl, h4⟩
              have HK4 : Hid (Kp No W1 w4) := HK3.out.andNone (Kp.below h4)
              clear h4
              go_wp2_with fail
              refine hK.out _ _ (HK4.out) (fun hh => ?_)
              clear hK K hHeld
              have hHeld := hh
              clear hh
              try simp only [Act.put, List.setIfInBounds_toArray, List.set_cons_zero, List.set_cons_succ]
              refine wpAnyH_take (i := 14) (oi := { dst := some 29, op := Op.binOp BinOp.geq 3 (Operand.tmp 28) (Operand.const (Value.int IntKind.i64 0)) 3, type := 4, pos := "segment.go:30", after := #[{ on := 13, ground := Ground.data }, { on := 6, ground := Ground.guard }], guard := some (6, true) }) (v := .bool true) rfl (by kernel_rfl) (by kernel_rfl) (by kernel_rfl) (fun _ _ _ h => h) (Or.inl ⟨by rfl, fun w' hw' => by (clear hw'; go_simp)⟩) hHeld ?_
              simp only [Act.put, List.setIfInBounds_toArray, List.set_cons_zero, List.set_cons_succ]
              refine wpAnyH_take (i := 15) (oi := { dst := some 30, op := Op.pick (Operand.tmp 21) (Operand.tmp 29) (Operand.const (Value.bool false)), type := 4, pos := "segment.go:30", after := #[{ on := 6, ground := Ground.data }, { on := 14, ground := Ground.data }, { on := 3, ground := Ground.guard }], guard := some (3, false) }) (v := .bool true) rfl (by kernel_rfl) (by kernel_rfl) (by kernel_rfl) (fun _ _ _ h => h) (Or.inl ⟨by rfl, fun w' hw' => by (clear hw'; go_simp)⟩) hHeld ?_
              simp only [Act.put, List.setIfInBounds_toArray, List.set_cons_zero, List.set_cons_succ]
              refine wpAnyH_take (i := 16) (oi := { dst := some 31, op := Op.pick (Operand.tmp 18) (Operand.const (Value.bool true)) (Operand.tmp 30), type := 4, pos := "segment.go:30", after := #[{ on := 3, ground := Ground.data }, { on := 15, ground := Ground.data }], guard := none }) (v := .bool true) rfl (by kernel_rfl) (by kernel_rfl) (by kernel_rfl) (fun _ _ _ h => h) (Or.inl ⟨by rfl, fun w' hw' => by (clear hw'; go_simp)⟩) hHeld ?_
              simp only [Act.put, List.setIfInBounds_toArray, List.set_cons_zero, List.set_cons_succ]
              refine wpAnyH_done (by kernel_rfl) ?_ _
              have HK := hid (HS.out.2.andNone (HW1.out _ HK4.out).2)
              clear hHeld
              go_wp2_with fail
              go_ret
              exact ⟨⟨false, rfl, HU.out⟩, HK.out⟩
      · have hltI : ¬ (k : Int) < (n : Int) := by omega
        have HF : Hid (RightP d) := ⟨by rw [HN.out]; omega, by rw [HN.out, show n = k by omega]; exact HS.out.1⟩
        go_wp2_with fail
        go_ret
        exact ⟨⟨true, rfl, ⟨fun _ => HF.out, fun _ => rfl⟩⟩, HS.out.2⟩
end Go.Proofs.YthmimipoooemjaaGreatDoor.Sg
end

section
/-
  An entry's value in tlv's words.
-/
namespace Go.Proofs.YthmimipoooemjaaGreatDoor.Sg
open Go.RowKit
open Tlv (Tr Agree)
open Sim (hid Kp No)

/-- An entry's value, and that of entries. -/
def entT (e : Ent) : Tr 2 := Tr.mk 3 0 [] [(Tr.mk 2 0 e.1 [] : Tr 1), Tr.mk 1 e.2.1 [] [], Tr.mk 1 e.2.2.1 [] [], Tr.mk 1 e.2.2.2 [] []]
def entsT (d : List Ent) : Tr 3 := Tr.mk 3 0 [] (d.map entT)

set_option maxHeartbeats 1000000 in
set_option maxRecDepth 100000 in
theorem segnum_any (n : Int) (w : World) (h0 : 0 ≤ n) (h1 : n ≤ 1000000) : Calls Tryz.prog 206 #[.int .i64 n] w fun e w' => e = .returned (.agg #[.int .i64 1, .int .u64 n, .slice none 0 0, .slice none 0 0]) ∧ Below w.heap.size w w' := by
  have hwk : IntKind.u64.wrap n = n := by rw [IntKind.wrap_u64]; omega
  have HN := hid (Tlv.number_any n)
  clear h0 h1
  go_enter Tryz.func206, Tryz.ntmps206
  go_wp2_with fail
  refine (HN.out _).mono ?_
  rintro e w1 ⟨rfl, hb⟩
  have HB := hid hb
  obtain ⟨hc, hf⟩ := Tlv.bcell hb
  have g0 : w1.cell? ⟨w.heap.size, 0, none⟩ = some (.int .i64 0) := (hc _ _ (by simp)).trans (by simp [go_sem])
  have g1 : w1.cell? ⟨w.heap.size, 1, none⟩ = some (.int .u64 0) := (hc _ _ (by simp)).trans (by simp [go_sem])
  have g2 : w1.cell? ⟨w.heap.size, 2, none⟩ = some (.slice none 0 0) := (hc _ _ (by simp)).trans (by simp [go_sem])
  have g3 : w1.cell? ⟨w.heap.size, 3, none⟩ = some (.slice none 0 0) := (hc _ _ (by simp)).trans (by simp [go_sem])
  have gf : ∀ o, w1.frozen? ⟨w.heap.size, o, none⟩ = false := fun o => (hf _ _ (by simp)).trans (by simp [go_sem])
  have hz : w.heap.size < w1.heap.size := by have := hb.size; simp at this; omega
  clear hb hc hf hwk
  go_wp2_with fail
  obtain ⟨q0, q1, q2, q3⟩ := Tlv.set4_read (u0 := .int .i64 1) (u1 := .int .u64 n) (u2 := .slice none 0 0) (u3 := .slice none 0 0) g0 g1 g2 g3
  refine bodyPost_ret (v := .agg #[.int .i64 1, .int .u64 n, .slice none 0 0, .slice none 0 0]) (by simp [results, Tryz.results206, go_sem, q0, q1, q2, q3]) rfl ⟨rfl, ?_⟩
  exact (((Below.refl _ w).alloc (Nat.le_refl _) _).trans (HB.out.mono (by simp))).trans (Tlv.bset4 (Nat.le_refl _) _ _ _ _)

/-- Four values laid in a row. -/
theorem four_in {w : World} (nm : List Int) (p q r : Int) (vn : Value) (h0 : 0 ≤ p ∧ p ≤ 1000000) (h1 : 0 ≤ q ∧ q ≤ 1000000) (h2 : 0 ≤ r ∧ r ≤ 1000000) (bn : Tlv.BySl 0 w.heap.size w vn nm) (ty : TypeId) (C : Array Value)
    (hC : C = #[.int .i64 2, .int .u64 0, vn, .slice none 0 0, .int .i64 1, .int .u64 p, .slice none 0 0, .slice none 0 0, .int .i64 1, .int .u64 q, .slice none 0 0, .slice none 0 0, .int .i64 1, .int .u64 r, .slice none 0 0, .slice none 0 0]) :
    Tlv.KSl 0 (w.heap.size + 1) (w.alloc (.cells C ty)) (Tlv.Rep 0 (w.heap.size + 1) (w.alloc (.cells C ty)) 1)
      (.slice (some ⟨w.heap.size, 0, none⟩) 4 4) [(Tr.mk 2 0 nm [] : Tr 1), Tr.mk 1 p [] [], Tr.mk 1 q [] [], Tr.mk 1 r [] []] := by
  subst hC
  have hA : ∀ o : Obj, Agree 0 w.heap.size w (w.alloc o) := fun o => (Agree.refl _ _ _).alloc (Nat.le_refl _) _
  have hc : ∀ (C : Array Value) (j : Nat), (w.alloc (.cells C ty)).cell? ⟨w.heap.size, j, none⟩ = C[j]? := fun C j => World.cell?_alloc_at _ _ _ _ rfl
  refine ⟨_, 4, rfl, Nat.le_refl _, by decide, by simp, by simp, fun _ => ⟨w.heap.size, 0, rfl, Nat.zero_le _, by omega, fun j t hj => ?_⟩⟩
  match j, hj with
  | 0, hj =>
    simp only [List.getElem?_cons_zero, Option.some.injEq] at hj
    subst hj
    exact ⟨_, _, hc _ _, hc _ _, hc _ _, hc _ _, rep2 (bn.agree (hA _) (Nat.le_refl _) (by omega))⟩
  | 1, hj =>
    simp only [List.getElem?_cons_succ, List.getElem?_cons_zero, Option.some.injEq] at hj
    subst hj
    exact ⟨_, _, hc _ _, hc _ _, hc _ _, hc _ _, rep1 _ h0.1 (by omega)⟩
  | 2, hj =>
    simp only [List.getElem?_cons_succ, List.getElem?_cons_zero, Option.some.injEq] at hj
    subst hj
    exact ⟨_, _, hc _ _, hc _ _, hc _ _, hc _ _, rep1 _ h1.1 (by omega)⟩
  | 3, hj =>
    simp only [List.getElem?_cons_succ, List.getElem?_cons_zero, Option.some.injEq] at hj
    subst hj
    exact ⟨_, _, hc _ _, hc _ _, hc _ _, hc _ _, rep1 _ h2.1 (by omega)⟩

theorem many4 {L : Nat} {w : World} {p q r : Int} {nm : List Int} {vn : Value} (h0 : 0 ≤ p ∧ p ≤ 1000000) (h1 : 0 ≤ q ∧ q ≤ 1000000) (h2 : 0 ≤ r ∧ r ≤ 1000000) (bn : Tlv.BySl L w.heap.size w vn nm) :
    Calls Tryz.prog 156 #[.slice (some ⟨w.heap.size, 0, none⟩) 4 4] (w.alloc (.cells #[.int .i64 2, .int .u64 0, vn, .slice none 0 0, .int .i64 1, .int .u64 p, .slice none 0 0, .slice none 0 0, .int .i64 1, .int .u64 q, .slice none 0 0, .slice none 0 0, .int .i64 1, .int .u64 r, .slice none 0 0, .slice none 0 0] 203))
      fun e w' => ∃ a3 l3 p3 a4 l4 p4, e = .returned (.agg #[.int .i64 3, .int .u64 0, .slice a3 l3 p3, .slice a4 l4 p4]) ∧ Tlv.Rep w.heap.size w'.heap.size w' 2 (entT (nm, p, q, r)) (.slice a3 l3 p3) (.slice a4 l4 p4) ∧ Below w.heap.size w w' := by
  have h := four_in (w := w) nm p q r vn h0 h1 h2 (bn.agree (Agree.refl _ _ _) (Nat.zero_le _) (Nat.le_refl _)) 203 _ rfl
  refine (Tlv.many_any _ _ _ (by simpa using h) (by omega)).mono ?_
  rintro e w5 ⟨sb', sk', rfl, hr5, hb5⟩
  obtain ⟨a3, l3, p3, a4, l4, p4, rfl, rfl⟩ := hr5.sl
  exact ⟨_, _, _, _, _, _, rfl, hr5.agree (Agree.refl _ _ _) (by simp) (Nat.le_refl _), ((Below.refl _ w).alloc (Nat.le_refl _) _).trans (hb5.mono (by simp))⟩

theorem nameIn {W : World} {g o : Nat} {e : Ent} (he : EOk e) (hg : g < W.heap.size) (h : W.rangeAt g o (entC e)) : Tlv.BySl 0 W.heap.size W (.slice (some ⟨g, o, none⟩) 32 32) e.1 := by
  refine ⟨_, 32, by rw [he.1], by rw [he.1]; omega, by decide, by simp, by rw [he.1]; omega, he.2, fun _ => ⟨g, o, rfl, Nat.zero_le _, hg, fun i hi => ?_⟩⟩
  have := h i (.int .u8 (e.1.getD i 0)) (by
    rw [entC, List.getElem?_append_left (by rw [b8_length]; exact hi)]
    simp [b8, List.getElem?_eq_getElem hi])
  exact this

set_option maxHeartbeats 2000000 in
set_option maxRecDepth 100000 in
theorem entval_any (nm : List Int) (p q r : Int) (w : World) (he : EOk (nm, p, q, r)) (h0 : 0 ≤ p ∧ p ≤ 1000000) (h1 : 0 ≤ q ∧ q ≤ 1000000) (h2 : 0 ≤ r ∧ r ≤ 1000000) :
    Calls Tryz.prog 162 #[.agg (entC (nm, p, q, r)).toArray] w fun e w' => ∃ a3 l3 p3 a4 l4 p4, e = .returned (.agg #[.int .i64 3, .int .u64 0, .slice a3 l3 p3, .slice a4 l4 p4]) ∧ Tlv.Rep w.heap.size w'.heap.size w' 2 (entT (nm, p, q, r)) (.slice a3 l3 p3) (.slice a4 l4 p4) ∧ Below w.heap.size w w' := by
  have HE := hid he
  have hpl : ∀ (W : World) (g : Nat), W.rangeAt g 0 (entC (nm, p, q, r)) → W.cell? ⟨g, 32, none⟩ = some (.int .i64 p) ∧ W.cell? ⟨g, 33, none⟩ = some (.int .i64 q) ∧ W.cell? ⟨g, 34, none⟩ = some (.int .i64 r) := fun W g h => by
    have h := rng_place he h
    exact ⟨h 0 _ rfl, h 1 _ rfl, h 2 _ rfl⟩
  have HPL := hid hpl
  clear hpl he
  obtain ⟨C, hC⟩ : ∃ C, entC (nm, p, q, r) = C := ⟨_, rfl⟩
  have HC := hid hC
  rw [hC]
  clear hC
  go_enter Tryz.func162, Tryz.ntmps162
  go_wp2
  obtain ⟨W0, hW0⟩ : ∃ W0, (w.alloc (.cells C.toArray 155)).alloc (.cells #[.int .i64 0, .int .u64 0, .slice none 0 0, .slice none 0 0] 203) = W0 := ⟨_, rfl⟩
  have hz : W0.heap.size = w.heap.size + 2 := by rw [← hW0]; simp
  have hbel : Below w.heap.size w W0 := by rw [← hW0]; exact ((Below.refl _ _).alloc (Nat.le_refl _) _).alloc (by simp) _
  have hrg : W0.rangeAt w.heap.size 0 C := by
    rw [← hW0]
    refine World.rangeAt_alloc (fun j v hv => ?_) _
    rw [Nat.zero_add, World.cell?_alloc_at _ _ _ _ rfl]
    simpa using hv
  have HG : Hid (∀ j u, (#[.int .i64 0, .int .u64 0, .slice none 0 0, .slice none 0 0] : Array Value)[j]? = some u → W0.cell? ⟨w.heap.size + 1, j, none⟩ = some u) := fun j u hj => by
    rw [← hW0, World.cell?_alloc_at _ _ _ _ (by simp), hj]
  have HF : Hid (∀ j, W0.frozen? ⟨w.heap.size + 1, j, none⟩ = false) := fun j => by
    rw [← hW0, World.frozen?_alloc_at _ _ _ _ (by simp)]
  rw [hW0]
  clear hW0
  have hplC := HPL.out W0 w.heap.size (by rw [HC.out]; exact hrg)
  have r32 : ∀ V, Below (w.heap.size + 1) W0 V → V.cell? ⟨w.heap.size, 32, none⟩ = some (.int .i64 p) := fun V h => (h.cell (p := ⟨w.heap.size, 32, none⟩) (by simp)).trans hplC.1
  have r33 : ∀ V, Below (w.heap.size + 1) W0 V → V.cell? ⟨w.heap.size, 33, none⟩ = some (.int .i64 q) := fun V h => (h.cell (p := ⟨w.heap.size, 33, none⟩) (by simp)).trans hplC.2.1
  have r34 : ∀ V, Below (w.heap.size + 1) W0 V → V.cell? ⟨w.heap.size, 34, none⟩ = some (.int .i64 r) := fun V h => (h.cell (p := ⟨w.heap.size, 34, none⟩) (by simp)).trans hplC.2.2
  have hwn := nameIn (W := W0) (g := w.heap.size) (o := 0) HE.out (by omega) (by rw [HC.out]; exact hrg)
  have K44n := hid (bytes44 (S := fun V => Below W0.heap.size W0 V) HE.out.1 (fun V h => h) hwn)
  have HZ := hid hz
  have HZ2 : Hid (w.heap.size + 1 ≤ W0.heap.size) := by rw [Hid]; omega
  have HBEL := hid hbel
  clear hz hbel hrg hwn hplC
  go_region_held3 (fun V => Below (w.heap.size + 1) W0 V) (first | (with_reducible exact Below.refl _ _) | (with_reducible exact (Below.refl _ _).drew) | (with_reducible exact HK2.out.mono HZ2.out) | (with_reducible exact HK3.out.mono HZ2.out) | (with_reducible exact HK4.out.mono HZ2.out) | (with_reducible exact HK5.out.mono HZ2.out) | (with_reducible exact (HK5.out.alloc HK5.out.size _).mono HZ2.out) | (with_reducible exact HK6.out.mono HZ2.out) | (with_reducible exact (HK6.out.mono HZ2.out).trans (Tlv.bset4 (Nat.le_refl _) _ _ _ _))) (first
    | (go_at_call 158; refine (K44n.out _ ?_).mono ?_; (with_reducible exact (Below.refl _ _).drew); rintro e w2 ⟨an, cn, rfl, hv3, hb3⟩; have HV2 := hid hv3; have HK2 : Hid (Below W0.heap.size W0 w2) := (Below.refl _ _).drew.trans hb3; clear hv3 hb3)
    | (go_at_call_of 206 (Value.int .i64 p); refine (segnum_any p _ h0.1 h0.2).mono ?_; rintro e w3 ⟨rfl, hb3⟩; have HV3 := hid (bySl_lift HV2.out hb3); have HK3 : Hid (Below W0.heap.size W0 w3) := HK2.out.trans (hb3.mono HK2.out.size); clear hb3)
    | (go_at_call_of 206 (Value.int .i64 q); refine (segnum_any q _ h1.1 h1.2).mono ?_; rintro e w4 ⟨rfl, hb4⟩; have HV4 := hid (bySl_lift HV3.out hb4); have HK4 : Hid (Below W0.heap.size W0 w4) := HK3.out.trans (hb4.mono HK3.out.size); clear hb4)
    | (go_at_call_of 206 (Value.int .i64 r); refine (segnum_any r _ h2.1 h2.2).mono ?_; rintro e w5 ⟨rfl, hb5⟩; have HV5 := hid (bySl_lift HV4.out hb5); have HK5 : Hid (Below W0.heap.size W0 w5) := HK4.out.trans (hb5.mono HK4.out.size); clear hb5)
    | (go_at_call 156; refine (many4 h0 h1 h2 HV5.out).mono ?_; rintro e w6 ⟨a3, l3, p3, a4, l4, p4, rfl, hr6, hb6⟩; have HR6 := hid hr6; have HK6 : Hid (Below W0.heap.size W0 w6) := HK5.out.trans (hb6.mono HK5.out.size); have hz6 : w.heap.size + 1 < w6.heap.size := (by have h1 := HK6.out.size; have h2 := HZ.out; omega); have hf6 : ∀ j, w6.frozen? ⟨w.heap.size + 1, j, none⟩ = false := (fun j => (HK6.out.frozen (p := ⟨w.heap.size + 1, j, none⟩) (by have h2 := HZ.out; simp; omega)).trans (HF.out j)); have hc6 : ∀ j u, (#[.int .i64 0, .int .u64 0, .slice none 0 0, .slice none 0 0] : Array Value)[j]? = some u → w6.cell? ⟨w.heap.size + 1, j, none⟩ = some u := (fun j u hj => (HK6.out.cell (p := ⟨w.heap.size + 1, j, none⟩) (by have h2 := HZ.out; simp; omega)).trans (HG.out j u hj)); have g0 := hc6 0 _ rfl; have g1 := hc6 1 _ rfl; have g2 := hc6 2 _ rfl; have g3 := hc6 3 _ rfl; clear hr6 hb6 hc6))
  go_wp2_with fail
  obtain ⟨q0, q1, q2, q3⟩ := Tlv.set4_read (u0 := .int .i64 3) (u1 := .int .u64 0) (u2 := .slice a3 l3 p3) (u3 := .slice a4 l4 p4) g0 g1 g2 g3
  refine bodyPost_ret (v := .agg #[.int .i64 3, .int .u64 0, .slice a3 l3 p3, .slice a4 l4 p4]) (by simp [results, Tryz.results162, go_sem, q0, q1, q2, q3]) rfl ⟨_, _, _, _, _, _, rfl, ?_, ?_⟩
  · have h1 := HK5.out.size
    have h2 := HZ.out
    exact HR6.out.agree (Agree.set4 _ (.inl (by omega)) _ _ _ _) (by omega) (by simp)
  · exact HBEL.out.trans (((HK6.out.mono HZ2.out).mono (Nat.le_succ _)).trans (Tlv.bset4 (Nat.le_succ _) _ _ _ _))
end Go.Proofs.YthmimipoooemjaaGreatDoor.Sg
end

section
/-
  Many of tlv with nothing: a list that is not there.
-/
namespace Go.Proofs.YthmimipoooemjaaGreatDoor.Sg
open Go.RowKit
open Tlv (Tr Agree bcell set4_read cell_far4 bset4)
open Sim (hid Kp No)
attribute [local go_sem ↓] Go.wp_at_zero Go.wp_at_succ

theorem bclone_none (w : World) : Calls Tryz.prog 126 #[.slice none 0 0] w fun e w' => e = .returned (.slice none 0 0) ∧ Below w.heap.size w w' := by
  have q22 := Tlv.Tryz.nilEq
  go_enter Tryz.func126, Tryz.ntmps126
  go_wp2
  go_ret
  exact ⟨rfl, Below.refl _ _⟩

set_option maxHeartbeats 2000000 in
set_option maxRecDepth 100000 in
theorem clone_none (w : World) : Calls Tryz.prog 203 #[.agg #[.int .i64 3, .int .u64 0, .slice none 0 0, .slice none 0 0], .int .i64 131072] w fun e w' => e = .returned (.tuple #[.agg #[.int .i64 3, .int .u64 0, .slice none 0 0, .slice none 0 0], .bool true]) ∧ Below w.heap.size w w' := by
  have HB := hid bclone_none
  go_enter Tryz.func203, Tryz.ntmps203
  go_upto_region 3 with fail
  obtain ⟨W0, hW0⟩ : ∃ W0, W0 = (w.alloc (Obj.cells #[Value.int IntKind.i64 3, Value.int IntKind.u64 0, Value.slice none 0 0, Value.slice none 0 0] 203)).alloc (Obj.cells #[Value.int IntKind.i64 0, Value.int IntKind.u64 0, Value.slice none 0 0, Value.slice none 0 0] 203) := ⟨_, rfl⟩
  have HW0 := hid hW0
  clear hW0
  go_cut [6] (fun s wx => ∃ (g : Nat), s = .pointer (some ⟨g, 0, none⟩) ∧ w.heap.size + 2 ≤ g ∧ g < wx.heap.size ∧ wx.cell? ⟨g, 0, none⟩ = some (.int .i64 3) ∧ wx.cell? ⟨g, 1, none⟩ = some (.int .u64 0) ∧
    wx.cell? ⟨g, 2, none⟩ = some (.slice none 0 0) ∧ wx.cell? ⟨g, 3, none⟩ = some (.slice none 0 0) ∧ (∀ o, wx.frozen? ⟨g, o, none⟩ = false) ∧ Hid (Below (w.heap.size + 2) W0 wx))
  case first =>
    go_region_held3 (fun w' => w'.cell? ⟨w.heap.size, 0, none⟩ = some (.int .i64 3) ∧ w'.cell? ⟨w.heap.size, 1, none⟩ = some (.int .u64 0) ∧ w'.cell? ⟨w.heap.size, 2, none⟩ = some (.slice none 0 0)) (first | go_keep | (refine ⟨?_, ?_, ?_⟩ <;> (rw [cell_far4 (by simp; omega)]; assumption)))
      ((go_at_call 126; refine (HB.out _).mono ?_; rintro e w1 ⟨rfl, hb⟩; have Hb := hid hb; obtain ⟨hc, hf⟩ := bcell hb; have hz := hb.size; clear hb; have q0 : w1.cell? ⟨w.heap.size, 0, none⟩ = some (.int .i64 3) := (hc _ _ (by simp; try omega)).trans (by simp [go_sem]); have q1 : w1.cell? ⟨w.heap.size, 1, none⟩ = some (.int .u64 0) := (hc _ _ (by simp; try omega)).trans (by simp [go_sem]); have q2 : w1.cell? ⟨w.heap.size, 2, none⟩ = some (.slice none 0 0) := (hc _ _ (by simp; try omega)).trans (by simp [go_sem])))
    · go_wp2_with fail
      go_meet
      simp at hz
      refine ⟨w1.heap.size, rfl, by omega, by simp, by simp, by simp, by simp, by simp, by simp, ?_⟩
      rw [HW0.out]
      exact (((Below.refl _ _).drew).trans (Hb.out.mono (by simp))).alloc (by omega) _
    · go_wp2_with fail
      go_meet
      simp at hz
      obtain ⟨r0, r1, r2, r3⟩ := set4_read (w := w1) (b := w.heap.size + 1 + 1) (u0 := .int .i64 3) (u1 := .int .u64 0) (u2 := .slice none 0 0) (u3 := .slice none 0 0) (x0 := .int .i64 0) (x1 := .int .u64 0) (x2 := .slice none 0 0) (x3 := .slice none 0 0) ((hc _ _ (by simp)).trans (by simp [go_sem])) ((hc _ _ (by simp)).trans (by simp [go_sem])) ((hc _ _ (by simp)).trans (by simp [go_sem])) ((hc _ _ (by simp)).trans (by simp [go_sem]))
      refine ⟨w.heap.size + 1 + 1, rfl, by omega, by simp; omega, r0, r1, r2, r3, ?_, ?_⟩
      · intro o
        simp only [World.frozen?_setCell]
        rw [hf _ _ (by simp)]
        simp [go_sem]
      · rw [HW0.out]
        exact ((((Below.refl _ _).alloc (by simp) _).drew).trans (Hb.out.mono (by simp))).trans (bset4 (by omega) _ _ _ _)
  case rest =>
    obtain ⟨g, rfl, hg0, hg1, e0, e1, e2, e3, hfr, HX⟩ := hcut
    have xb : ∀ o, wc.cell? ⟨w.heap.size, o, none⟩ = W0.cell? ⟨w.heap.size, o, none⟩ := fun o => HX.out.cell (p := ⟨w.heap.size, o, none⟩) (by simp)
    have b3 : wc.cell? ⟨w.heap.size, 3, none⟩ = some (.slice none 0 0) := by rw [xb, HW0.out]; simp [go_sem]
    have xr : ∀ o, wc.cell? ⟨w.heap.size + 1, o, none⟩ = W0.cell? ⟨w.heap.size + 1, o, none⟩ := fun o => HX.out.cell (p := ⟨w.heap.size + 1, o, none⟩) (by simp)
    have xf : ∀ o, wc.frozen? ⟨w.heap.size + 1, o, none⟩ = W0.frozen? ⟨w.heap.size + 1, o, none⟩ := fun o => HX.out.frozen (p := ⟨w.heap.size + 1, o, none⟩) (by simp)
    have r0 : wc.cell? ⟨w.heap.size + 1, 0, none⟩ = some (.int .i64 0) := by rw [xr, HW0.out]; simp [go_sem]
    have r1 : wc.cell? ⟨w.heap.size + 1, 1, none⟩ = some (.int .u64 0) := by rw [xr, HW0.out]; simp [go_sem]
    have r2 : wc.cell? ⟨w.heap.size + 1, 2, none⟩ = some (.slice none 0 0) := by rw [xr, HW0.out]; simp [go_sem]
    have r3 : wc.cell? ⟨w.heap.size + 1, 3, none⟩ = some (.slice none 0 0) := by rw [xr, HW0.out]; simp [go_sem]
    have rf : ∀ o, wc.frozen? ⟨w.heap.size + 1, o, none⟩ = false := fun o => by rw [xf, HW0.out]; simp [go_sem]
    clear xb xf xr
    have hB0 : Hid (Below w.heap.size w W0) := by rw [Hid, HW0.out]; exact ((Below.refl _ _).alloc (Nat.le_refl _) _).alloc (by simp) _
    go_wp2
    refine wp_loop_rounds 1 ?_
    rw [rounds_succ]
    go_wp2_with fail
    obtain ⟨q0, q1, q2, q3⟩ := set4_read (u0 := .int .i64 3) (u1 := .int .u64 0) (u2 := .slice none 0 0) (u3 := .slice none 0 0) r0 r1 r2 r3
    refine bodyPost_ret (v := .tuple #[.agg #[.int .i64 3, .int .u64 0, .slice none 0 0, .slice none 0 0], .bool true]) (by simp [results, Tryz.results203, go_sem, q0, q1, q2, q3]) rfl ⟨rfl, ?_⟩
    exact (hB0.out.trans (HX.out.mono (by omega))).trans (bset4 (by omega) _ _ _ _)

set_option maxHeartbeats 400000 in
theorem many_none (w : World) : Calls Tryz.prog 156 #[.slice none 0 0] w fun e w' => e = .returned (.agg #[.int .i64 3, .int .u64 0, .slice none 0 0, .slice none 0 0]) ∧ Below w.heap.size w w' := by
  have HC := hid clone_none
  go_enter Tryz.func156, Tryz.ntmps156
  go_wp2_with fail
  refine (HC.out _).mono ?_
  rintro e w1 ⟨rfl, hb1⟩
  have Hb1 := hid hb1
  obtain ⟨hc, hf⟩ := bcell hb1
  have hz := hb1.size
  simp at hz
  have hgw : w.heap.size < w1.heap.size := by omega
  have g0 : w1.cell? ⟨w.heap.size, 0, none⟩ = some (.int .i64 0) := by rw [hc _ _ (by simp)]; simp [go_sem]
  have g1 : w1.cell? ⟨w.heap.size, 1, none⟩ = some (.int .u64 0) := by rw [hc _ _ (by simp)]; simp [go_sem]
  have g2 : w1.cell? ⟨w.heap.size, 2, none⟩ = some (.slice none 0 0) := by rw [hc _ _ (by simp)]; simp [go_sem]
  have g3 : w1.cell? ⟨w.heap.size, 3, none⟩ = some (.slice none 0 0) := by rw [hc _ _ (by simp)]; simp [go_sem]
  have gf : ∀ o, w1.frozen? ⟨w.heap.size, o, none⟩ = false := fun o => by rw [hf _ _ (by simp)]; simp [go_sem]
  clear hc hf hb1
  go_wp2_with fail
  obtain ⟨q0, q1, q2, q3⟩ := set4_read (u0 := .int .i64 3) (u1 := .int .u64 0) (u2 := .slice none 0 0) (u3 := .slice none 0 0) g0 g1 g2 g3
  refine bodyPost_ret (v := .agg #[.int .i64 3, .int .u64 0, .slice none 0 0, .slice none 0 0]) (by simp [results, Tryz.results156, go_sem, q0, q1, q2, q3, hgw]) rfl ⟨rfl, ?_⟩
  exact (((((Below.refl _ w).alloc (Nat.le_refl _) _).trans (Hb1.out.mono (by simp))).trans (bset4 (Nat.le_refl _) _ _ _ _)).alloc (by simp; omega) _)
end Go.Proofs.YthmimipoooemjaaGreatDoor.Sg
end

section
/-
  A list of values that grows in a variable: one round's memory.
-/
namespace Go.Proofs.YthmimipoooemjaaGreatDoor.Sg
open Go.RowKit
open Tlv (Tr Agree CInv cellsK cell4)
open Sim (hid Kp No)

/-- The variable at block w1.heap.size holds a list's value: the first k entries'. -/
def VI (w1 : World) (d : List Ent) (k : Nat) (v : Value) (wr : World) : Prop :=
  wr.cell? ⟨w1.heap.size, 0, none⟩ = some (.int .i64 3) ∧ wr.cell? ⟨w1.heap.size, 1, none⟩ = some (.int .u64 0) ∧ wr.cell? ⟨w1.heap.size, 2, none⟩ = some (.slice none 0 0) ∧ wr.cell? ⟨w1.heap.size, 3, none⟩ = some v ∧
    (∀ o, wr.frozen? ⟨w1.heap.size, o, none⟩ = false) ∧ w1.heap.size < wr.heap.size ∧ CInv (w1.heap.size + 1) ((d.map entT).take k) v wr ∧ Below w1.heap.size w1 wr

theorem push_run {n base L B k : Nat} {ts : List (Tr n)} {t : Tr n} {av : Option Addr} {cv : Nat} {sb sk : Value} (w : World) (hk : ts.length = k) (h : CInv base ts (.slice av k cv) w) (hb : base ≤ w.heap.size) (hr : Tlv.Rep L B w n t sb sk) (hL : base ≤ L) (hB : B ≤ w.heap.size)
    (hd : ∀ r, (Value.slice av k cv).ownBlock = some r → r < L ∨ B ≤ r) (hl : k + 1 ≤ 2000000) (ty : TypeId) :
    ∃ g' cap w', (Builtin.append_ #[201, 201] ty #[.slice av k cv, .slice (some ⟨w.heap.size, 0, none⟩) 1 1]).run Tryz.prog (w.alloc (.cells #[.int .i64 t.hd.1, .int .u64 t.hd.2.1, sb, sk] 203)) = .ok (.slice (some ⟨g', 0, none⟩) (k + 1) cap) w' ∧
      CInv base (ts ++ [t]) (.slice (some ⟨g', 0, none⟩) (k + 1) cap) w' ∧ (w.alloc (.cells #[.int .i64 t.hd.1, .int .u64 t.hd.2.1, sb, sk] 203)).grownBy w' (Value.slice av k cv).ownBlock := by
  obtain ⟨i0, hi, hz0, hz1, hz2⟩ := info_parts Tlv.Tryz.info203
  have hlt := h.lt
  have hA : Agree base w.heap.size w (w.alloc (.cells #[.int .i64 t.hd.1, .int .u64 t.hd.2.1, sb, sk] 203)) := (Agree.refl _ _ _).alloc (Nat.le_refl _) _
  obtain ⟨ps, hl2, hown, hkid⟩ := h.agree hA (by simp)
  have hr2 := hr.agree (L' := L) (B' := B) (hA.mono hL hB) (Nat.le_refl _) (Nat.le_refl _)
  rw [hk] at hown
  have hone : ∀ u ∈ cell4 t (sb, sk), u.oneCell' = true := by
    obtain ⟨_, _, _, _, _, _, rfl, rfl⟩ := hr.sl
    intro u hu
    simp only [cell4, List.mem_cons, List.not_mem_nil, or_false] at hu
    rcases hu with rfl | rfl | rfl | rfl <;> rfl
  obtain ⟨g', cap, w', hrun, ho, hgr, hat, hlt'⟩ := run_append_lies (P := Tryz.prog) (w.alloc (.cells #[.int .i64 t.hd.1, .int .u64 t.hd.2.1, sb, sk] 203)) 201 ty base 203 i0 _ 4 64 Tryz.underlying201 hi hz0 hz1 hz2 rfl (by decide) (.slice av k cv) k (cellsK ts ps) hown ⟨w.heap.size, 0, none⟩ 1 1 (cell4 t (sb, sk)) rfl
    (World.news_of_block (cs := #[.int .i64 t.hd.1, .int .u64 t.hd.2.1, sb, sk]) (t := 203) (fr := (0, 0)) (heap_alloc_new w _)) hone (by omega) (by unfold maxLen; omega) (by omega) (by simp; omega) _ rfl
  refine ⟨g', cap, w', hrun, ?_, hgr⟩
  have P := CInv.push (g := g') (cap := cap) hl2 hkid hr2 hL (by simp; omega) hd (by rw [hk]; exact ho) hgr hat
  rw [hk] at P
  exact P

theorem VI.start (w1 : World) (d : List Ent) : VI w1 d 0 (.slice none 0 0) (w1.alloc (.cells #[.int .i64 3, .int .u64 0, .slice none 0 0, .slice none 0 0] 203)) :=
  ⟨by simp, by simp, by simp, by simp, by simp, by simp, by simpa using CInv.nil _ _, (Below.refl _ _).alloc (Nat.le_refl _) _⟩

theorem VI.step {w1 wr W1 w2 : World} {d : List Ent} {k cv : Nat} {av : Option Addr} {e : Ent} {sb sk : Value} (h : VI w1 d k (.slice av k cv) wr) (hk : Kp No wr W1) (hb : Below W1.heap.size W1 w2) (hr : Tlv.Rep W1.heap.size w2.heap.size w2 2 (entT e) sb sk) (he : d[k]? = some e) (hl : k + 1 ≤ 2000000) (ty : TypeId) :
    ∃ g' cap w4, (Builtin.append_ #[201, 201] ty #[.slice av k cv, .slice (some ⟨w2.heap.size, 0, none⟩) 1 1]).run Tryz.prog (w2.alloc (.cells #[.int .i64 3, .int .u64 0, sb, sk] 203)) = .ok (.slice (some ⟨g', 0, none⟩) (k + 1) cap) w4 ∧
      w4.cell? ⟨w1.heap.size, 3, none⟩ = some (.slice av k cv) ∧ w4.frozen? ⟨w1.heap.size, 3, none⟩ = false ∧ w1.heap.size < w4.heap.size ∧
      VI w1 d (k + 1) (.slice (some ⟨g', 0, none⟩) (k + 1) cap) (w4.setCell ⟨w1.heap.size, 3, none⟩ (.slice (some ⟨g', 0, none⟩) (k + 1) cap)) ∧ Kp (fun x => x = w1.heap.size ∨ (Value.slice av k cv).ownBlock = some x) W1 w4 := by
  obtain ⟨h0, h1, h2, h3, hf, hs, hc, hw⟩ := h
  have hlk : ((d.map entT).take k).length = k := by
    have := (List.getElem?_eq_some_iff.1 he).1
    rw [List.length_take, List.length_map]
    omega
  have hz1 := hk.size
  have hz2 := hb.size
  have hA : Agree (w1.heap.size + 1) wr.heap.size wr w2 := fun j _ hj => (hb.block j (by omega)).trans (hk.block j hj (fun x => x))
  have hc2 := hc.agree hA (by omega)
  obtain ⟨g', cap, w4, hrun, hC, hgr⟩ := push_run w2 hlk hc2 (by omega) hr (by omega) (Nat.le_refl _) (fun r hr => .inl (by have := (hc.lt r hr).2; omega)) hl ty
  have hne : ∀ r, (Value.slice av k cv).ownBlock = some r → w1.heap.size + 1 ≤ r := fun r hr => (hc.lt r hr).1
  have hnb : some w1.heap.size ≠ (Value.slice av k cv).ownBlock := fun e => by have := hne _ e.symm; omega
  have hzg := hgr.size
  simp at hzg
  have cc : ∀ j, w4.cell? ⟨w1.heap.size, j, none⟩ = wr.cell? ⟨w1.heap.size, j, none⟩ := fun j => by
    rw [hgr.cell_far ⟨w1.heap.size, j, none⟩ (by simp; omega) hnb, World.cell?_alloc_past _ _ _ (by omega), hb.cell (p := ⟨w1.heap.size, j, none⟩) (by simp; omega)]
    exact hk.cell (p := ⟨w1.heap.size, j, none⟩) hs (fun x => x)
  have cf : ∀ j, w4.frozen? ⟨w1.heap.size, j, none⟩ = false := fun j => by
    rw [hgr.frozen_far ⟨w1.heap.size, j, none⟩ (by simp; omega) hnb, World.frozen?_alloc_past _ _ _ (by omega), hb.frozen (p := ⟨w1.heap.size, j, none⟩) (by simp; omega), hk.frozen (p := ⟨w1.heap.size, j, none⟩) hs (fun x => x)]
    exact hf j
  have htake : (d.map entT).take (k + 1) = (d.map entT).take k ++ [entT e] := by
    rw [List.take_add_one, List.getElem?_map, he]
    rfl
  have hKp : Kp (fun x => x = w1.heap.size ∨ (Value.slice av k cv).ownBlock = some x) W1 w4 := (((Kp.refl _ W1).trans (Kp.below hb : Kp No _ _) (fun _ hx => hx.elim)).alloc _).grown hgr (fun x hx => .inl (.inr hx))
  refine ⟨g', cap, w4, hrun, (cc 3).trans h3, cf 3, by omega, ⟨?_, ?_, ?_, ?_, fun o => ?_, ?_, ?_, ?_⟩, hKp⟩
  · rw [Sim.cell_other (by omega)]; exact (cc 0).trans h0
  · rw [Sim.cell_other (by omega)]; exact (cc 1).trans h1
  · rw [Sim.cell_other (by omega)]; exact (cc 2).trans h2
  · exact World.cell?_setCell_same _ _ _ ((cc 3).trans h3)
  · rw [World.frozen?_setCell]; exact cf o
  · simp; omega
  · rw [htake]
    exact hC.agree ((Agree.refl _ _ _).setCell (.inl (by simp)) _) (by simp)
  · have b1 : Below w1.heap.size w1 w2 := hw.trans ⟨by rw [hb.os, hk.os], by rw [hb.tape, hk.tape], by rw [hb.output, hk.output], by omega, fun j hj => (hb.block j (by omega)).trans (hk.block j (by omega) (fun x => x))⟩
    exact ((b1.alloc (by omega) _).grown hgr (by simp; omega) (fun r hr => by have := hne r hr; omega)).setCell (by simp) _
end Go.Proofs.YthmimipoooemjaaGreatDoor.Sg
end

section
/-
  slices.BinarySearchFunc by compare: where a name stands in names that rise, or would stand.
-/
namespace Go.Proofs.YthmimipoooemjaaGreatDoor.Sg
open Go.RowKit
open Stb (Stab Srt Mrg)
open Sim (hid Kp No)

def BS (d : List Ent) (h : List Int) (i : Nat) (b : Bool) : Prop :=
  i ≤ d.length ∧ (∀ z ∈ d.take i, lexB z.1 h = true) ∧ (∀ z ∈ d.drop i, lexB z.1 h = false) ∧ (b = true ↔ ∃ y, d[i]? = some y ∧ y.1 = h)
def BAns (d : List Ent) (h : List Int) (e : Ending) : Prop := ∃ (i : Nat) (b : Bool), e = .returned (.tuple #[.int .i64 (i : Int), .bool b]) ∧ BS d h i b

set_option maxHeartbeats 4000000 in
set_option maxRecDepth 100000 in
theorem bsearch_any (w : World) (v : Value) (d : List Ent) (P : Nat → Prop) (x : Ent) (hv : EV P w v d) (hl : d.length ≤ 1000000) (hx : EOk x)
    (hm : ∀ (t u : Nat) (p q : Ent), t ≤ u → d[t]? = some p → d[u]? = some q → lexB q.1 x.1 = true → lexB p.1 x.1 = true) :
    Calls Tryz.prog 132 #[v, .agg (entC x).toArray, cmpV] w fun e w' => BAns d x.1 e ∧ Kp No w w' := by
  obtain ⟨a, c, rfl, h2, h3, h4, h5, h6⟩ := hv
  obtain ⟨n, hn⟩ : ∃ n, d.length = n := ⟨_, rfl⟩
  have HN := hid hn
  rw [hn] at hl ⊢
  have H6 := hid h6
  have HX := hid hx
  have HMO := hid hm
  obtain ⟨cy, hcy⟩ : ∃ cy, entC x = cy := ⟨_, rfl⟩
  have HIy := hid (inf hx)
  rw [hcy] at HIy ⊢
  have HCY := hid hcy
  have HBX : Hid (∀ V, Kp No (w.alloc (.cells cy.toArray 155)) V → V.rangeAt w.heap.size 0 cy ∧ Kp No w V) := fun V hV => ⟨fun j u hu => (hV.cell (p := ⟨w.heap.size, _, none⟩) (by simp) (fun x => x)).trans (rng_new w cy _ j u hu), ((Kp.refl No w).alloc _).andNone hV⟩
  have HH0 : Hid (Half (fun z => lexB z.1 x.1) d 0 n) := by rw [Hid, ← hn]; exact Half.begin _ _
  clear hn h2 h3 h4 h5 h6 hcy hx hm
  unfold cmpV
  go_enter Tryz.func132, Tryz.ntmps132
  go_wp2_with fail
  generalize hW : w.alloc (.cells cy.toArray 155) = W at *
  go_loopw [9, 10] (fun v9 v10 wr => ∃ (i j : Nat), v9 = .int .i64 (i : Int) ∧ v10 = .int .i64 (j : Int) ∧ i ≤ j ∧ j ≤ n ∧ Hid (Half (fun z => lexB z.1 x.1) d i j ∧ Kp No W wr)) (fun v9 v10 _ => (intOf v10).toNat - (intOf v9).toNat)
  case atStart => exact ⟨0, n, rfl, rfl, Nat.zero_le _, Nat.le_refl _, HH0.out, Kp.refl _ _⟩
  case round =>
    obtain ⟨i, j, rfl, rfl, hij, hjn, HS⟩ := hrel
    by_cases hlt : i < j
    · have hltI : (i : Int) < (j : Int) := by omega
      obtain ⟨h, hh⟩ : ∃ h, (i + j) / 2 = h := ⟨_, rfl⟩
      have hhI : ((i : Int) + (j : Int)) / 2 = (h : Int) := by omega
      have hih : i ≤ h ∧ h < j := by omega
      obtain ⟨hHf, hK⟩ := HS.out
      obtain ⟨g, o, rfl, _, hr⟩ := H6.out (by intro e; have := HN.out; rw [e] at this; simp at this; omega)
      obtain ⟨y, hy⟩ : ∃ y, d[h]? = some y := ⟨_, List.getElem?_eq_getElem (by have := HN.out; omega)⟩
      have hyok := (hr.2 h y hy).1
      have HCMP := hid (fun V => compare_any y x V hyok HX.out)
      have HCV : Hid (cmpE y.1 x.1 < 0 ↔ lexB y.1 x.1 = true) := cmpE_neg y.1 x.1
      have Hx : Hid (∀ V, Kp No wr V → V.rangeAt g (o + h * 35) (entC y)) := fun V hV => ((hr.kp (HBX.out V (hK.andNone hV)).2 (fun x => x)).2 h y hy).2
      have Hy : Hid (∀ V, Kp No wr V → V.rangeAt w.heap.size 0 cy) := fun V hV => (HBX.out V (hK.andNone hV)).1
      have HIx := hid (inf hyok)
      have HYES : Hid (lexB y.1 x.1 = true → Half (fun z => lexB z.1 x.1) d (h + 1) j) := fun e => hHf.yes (h := h) (by omega) (by omega) hy e HMO.out
      have HNO : Hid (lexB y.1 x.1 = false → Half (fun z => lexB z.1 x.1) d i h) := fun e => hHf.no (h := h) (by omega) (by omega) hy e HMO.out
      have HKK := hid hK
      have hhN : (h : Int) < (n : Int) := by omega
      have hwh : IntKind.i64.wrap ((h : Int) + 1) = ((h + 1 : Nat) : Int) := by rw [IntKind.wrap_i64]; omega
      obtain ⟨cx, hcx⟩ : ∃ cx, entC y = cx := ⟨_, rfl⟩
      rw [hcx, HCY.out] at HCMP
      rw [hcx] at Hx HIx
      obtain ⟨z, hzz⟩ : ∃ z, cmpE y.1 x.1 = z := ⟨_, rfl⟩
      rw [hzz] at HCMP HCV
      clear hcx hzz hHf hK hr hy hyok hh HS
      go_wp2_with fail
      by_cases hz : z < 0
      · have HH2 := hid (HYES.out (HCV.out.1 hz))
        clear HYES HNO HCV
        refine wp_region_held_drew (S := fun V => Kp No wr V) (by kernel_rfl) ((Kp.refl _ _).drew) (fun hHeld => ?_)
        refine wpAnyH_take (i := 0) (oi := { dst := some 24, op := Op.move (Operand.tmp 2), type := 222, pos := "sort.go:160", after := #[], guard := none }) (v := .func (.func 133) #[] #[]) rfl (by kernel_rfl) (by kernel_rfl) (by kernel_rfl) (fun _ _ _ h => h) (Or.inl ⟨by rfl, fun w' hw' => by (clear hw'; go_simp)⟩) hHeld ?_
        simp only [Act.put, List.setIfInBounds_toArray, List.set_cons_zero, List.set_cons_succ]
        refine wpAnyH_take (i := 1) (oi := { dst := some 25, op := Op.move (Operand.tmp 0), type := 81, pos := "sort.go:160", after := #[], guard := none }) (v := .slice (some ⟨g, o, none⟩) n c) rfl (by kernel_rfl) (by kernel_rfl) (by kernel_rfl) (fun _ _ _ h => h) (Or.inl ⟨by rfl, fun w' hw' => by (clear hw'; go_simp)⟩) hHeld ?_
        simp only [Act.put, List.setIfInBounds_toArray, List.set_cons_zero, List.set_cons_succ]
        refine wpAnyH_take (i := 2) (oi := { dst := some 26, op := Op.move (Operand.tmp 11), type := 3, pos := "sort.go:160", after := #[], guard := none }) (v := .int .i64 (h : Int)) rfl (by kernel_rfl) (by kernel_rfl) (by kernel_rfl) (fun _ _ _ h => h) (Or.inl ⟨by rfl, fun w' hw' => by (clear hw'; go_simp)⟩) hHeld ?_
        simp only [Act.put, List.setIfInBounds_toArray, List.set_cons_zero, List.set_cons_succ]
        refine wpAnyH_take (i := 3) (oi := { dst := some 27, op := Op.indexAddr 81 (Operand.tmp 25) (Operand.tmp 26), type := 0, pos := "sort.go:160", after := #[{ on := 1, ground := Ground.data }, { on := 2, ground := Ground.data }], guard := none }) (v := .pointer (some ⟨g, o + h * 35, none⟩)) rfl (by kernel_rfl) (by kernel_rfl) (by kernel_rfl) (fun _ _ _ h => h) (Or.inl ⟨by rfl, fun w' hw' => by (clear hw'; go_simp)⟩) hHeld ?_
        simp only [Act.put, List.setIfInBounds_toArray, List.set_cons_zero, List.set_cons_succ]
        refine wpAnyH_take (i := 4) (oi := { dst := some 28, op := Op.load 155 (Operand.tmp 27), type := 155, pos := "sort.go:160", after := #[{ on := 3, ground := Ground.data }], guard := none }) (v := .agg cx.toArray) rfl (by kernel_rfl) (by kernel_rfl) (by kernel_rfl) (fun _ _ _ h => h) (yieldsIf_load_mid (by rfl) _ _ rfl g (o + h * 35) rfl cx _ (Hx.out) Tryz.underlying155 rfl HIx.out) hHeld ?_
        simp only [Act.put, List.setIfInBounds_toArray, List.set_cons_zero, List.set_cons_succ]
        refine wpAnyH_take (i := 5) (oi := { dst := some 29, op := Op.load 155 (Operand.tmp 4), type := 155, pos := "sort.go:160", after := #[], guard := none }) (v := .agg cy.toArray) rfl (by kernel_rfl) (by kernel_rfl) (by kernel_rfl) (fun _ _ _ h => h) (yieldsIf_load_mid (by rfl) _ _ rfl w.heap.size 0 rfl cy _ (Hy.out) Tryz.underlying155 rfl HIy.out) hHeld ?_
        simp only [Act.put, List.setIfInBounds_toArray, List.set_cons_zero, List.set_cons_succ]
        refine wpAnyH_ready (rs := [6]) (by kernel_rfl) (by simp) ?_
        refine AllReadyH.cons (o := { dst := some 30, op := Op.call { callee := Callee.value (Operand.tmp 24), args := #[Operand.tmp 28, Operand.tmp 29], argTypes := #[155, 155] }, type := 3, pos := "sort.go:160", after := #[{ on := 0, ground := Ground.data }, { on := 4, ground := Ground.data }, { on := 5, ground := Ground.data }], guard := none }) rfl (fun K hK => ?_) AllReadyH.nil
        go_simp
        refine (HCMP.out _).mono ?_
        rintro e w3 ⟨rfl, h3⟩
        have HK3 : Hid (Kp No wr w3) := (Kp.refl No wr).drew.andNone (Kp.below h3)
        clear h3
        go_wp2_with fail
        refine hK.out _ _ (HK3.out) (fun hh => ?_)
        clear hK K hHeld
        have hHeld := hh
        clear hh
        try simp only [Act.put, List.setIfInBounds_toArray, List.set_cons_zero, List.set_cons_succ]
        refine wpAnyH_take (i := 7) (oi := { dst := some 31, op := Op.binOp BinOp.lss 3 (Operand.tmp 30) (Operand.const (Value.int IntKind.i64 0)) 3, type := 4, pos := "sort.go:160", after := #[{ on := 6, ground := Ground.data }], guard := none }) (v := .bool true) rfl (by kernel_rfl) (by kernel_rfl) (by kernel_rfl) (fun _ _ _ h => h) (Or.inl ⟨by rfl, fun w' hw' => by (clear hw'; go_simp)⟩) hHeld ?_
        simp only [Act.put, List.setIfInBounds_toArray, List.set_cons_zero, List.set_cons_succ]
        refine wpAnyH_done (by kernel_rfl) ?_ _
        have HA3 := hid (HKK.out.andNone HK3.out)
        clear hHeld HK3 HCMP Hx Hy HIx HKK
        go_wp2_with fail
        go_round
        case rel => exact ⟨h + 1, j, by go_num, rfl, by omega, by omega, HH2.out, HA3.out⟩
        case measure => simp [intOf]; omega
      · have hls : lexB y.1 x.1 = false := by
          cases hb : lexB y.1 x.1 with
          | false => rfl
          | true => exact absurd (HCV.out.2 hb) hz
        have HH2 := hid (HNO.out hls)
        clear HYES HNO HCV hls
        refine wp_region_held_drew (S := fun V => Kp No wr V) (by kernel_rfl) ((Kp.refl _ _).drew) (fun hHeld => ?_)
        refine wpAnyH_take (i := 0) (oi := { dst := some 24, op := Op.move (Operand.tmp 2), type := 222, pos := "sort.go:160", after := #[], guard := none }) (v := .func (.func 133) #[] #[]) rfl (by kernel_rfl) (by kernel_rfl) (by kernel_rfl) (fun _ _ _ h => h) (Or.inl ⟨by rfl, fun w' hw' => by (clear hw'; go_simp)⟩) hHeld ?_
        simp only [Act.put, List.setIfInBounds_toArray, List.set_cons_zero, List.set_cons_succ]
        refine wpAnyH_take (i := 1) (oi := { dst := some 25, op := Op.move (Operand.tmp 0), type := 81, pos := "sort.go:160", after := #[], guard := none }) (v := .slice (some ⟨g, o, none⟩) n c) rfl (by kernel_rfl) (by kernel_rfl) (by kernel_rfl) (fun _ _ _ h => h) (Or.inl ⟨by rfl, fun w' hw' => by (clear hw'; go_simp)⟩) hHeld ?_
        simp only [Act.put, List.setIfInBounds_toArray, List.set_cons_zero, List.set_cons_succ]
        refine wpAnyH_take (i := 2) (oi := { dst := some 26, op := Op.move (Operand.tmp 11), type := 3, pos := "sort.go:160", after := #[], guard := none }) (v := .int .i64 (h : Int)) rfl (by kernel_rfl) (by kernel_rfl) (by kernel_rfl) (fun _ _ _ h => h) (Or.inl ⟨by rfl, fun w' hw' => by (clear hw'; go_simp)⟩) hHeld ?_
        simp only [Act.put, List.setIfInBounds_toArray, List.set_cons_zero, List.set_cons_succ]
        refine wpAnyH_take (i := 3) (oi := { dst := some 27, op := Op.indexAddr 81 (Operand.tmp 25) (Operand.tmp 26), type := 0, pos := "sort.go:160", after := #[{ on := 1, ground := Ground.data }, { on := 2, ground := Ground.data }], guard := none }) (v := .pointer (some ⟨g, o + h * 35, none⟩)) rfl (by kernel_rfl) (by kernel_rfl) (by kernel_rfl) (fun _ _ _ h => h) (Or.inl ⟨by rfl, fun w' hw' => by (clear hw'; go_simp)⟩) hHeld ?_
        simp only [Act.put, List.setIfInBounds_toArray, List.set_cons_zero, List.set_cons_succ]
        refine wpAnyH_take (i := 4) (oi := { dst := some 28, op := Op.load 155 (Operand.tmp 27), type := 155, pos := "sort.go:160", after := #[{ on := 3, ground := Ground.data }], guard := none }) (v := .agg cx.toArray) rfl (by kernel_rfl) (by kernel_rfl) (by kernel_rfl) (fun _ _ _ h => h) (yieldsIf_load_mid (by rfl) _ _ rfl g (o + h * 35) rfl cx _ (Hx.out) Tryz.underlying155 rfl HIx.out) hHeld ?_
        simp only [Act.put, List.setIfInBounds_toArray, List.set_cons_zero, List.set_cons_succ]
        refine wpAnyH_take (i := 5) (oi := { dst := some 29, op := Op.load 155 (Operand.tmp 4), type := 155, pos := "sort.go:160", after := #[], guard := none }) (v := .agg cy.toArray) rfl (by kernel_rfl) (by kernel_rfl) (by kernel_rfl) (fun _ _ _ h => h) (yieldsIf_load_mid (by rfl) _ _ rfl w.heap.size 0 rfl cy _ (Hy.out) Tryz.underlying155 rfl HIy.out) hHeld ?_
        simp only [Act.put, List.setIfInBounds_toArray, List.set_cons_zero, List.set_cons_succ]
        refine wpAnyH_ready (rs := [6]) (by kernel_rfl) (by simp) ?_
        refine AllReadyH.cons (o := { dst := some 30, op := Op.call { callee := Callee.value (Operand.tmp 24), args := #[Operand.tmp 28, Operand.tmp 29], argTypes := #[155, 155] }, type := 3, pos := "sort.go:160", after := #[{ on := 0, ground := Ground.data }, { on := 4, ground := Ground.data }, { on := 5, ground := Ground.data }], guard := none }) rfl (fun K hK => ?_) AllReadyH.nil
        go_simp
        refine (HCMP.out _).mono ?_
        rintro e w3 ⟨rfl, h3⟩
        have HK3 : Hid (Kp No wr w3) := (Kp.refl No wr).drew.andNone (Kp.below h3)
        clear h3
        go_wp2_with fail
        refine hK.out _ _ (HK3.out) (fun hh => ?_)
        clear hK K hHeld
        have hHeld := hh
        clear hh
        try simp only [Act.put, List.setIfInBounds_toArray, List.set_cons_zero, List.set_cons_succ]
        refine wpAnyH_take (i := 7) (oi := { dst := some 31, op := Op.binOp BinOp.lss 3 (Operand.tmp 30) (Operand.const (Value.int IntKind.i64 0)) 3, type := 4, pos := "sort.go:160", after := #[{ on := 6, ground := Ground.data }], guard := none }) (v := .bool false) rfl (by kernel_rfl) (by kernel_rfl) (by kernel_rfl) (fun _ _ _ h => h) (Or.inl ⟨by rfl, fun w' hw' => by (clear hw'; go_simp)⟩) hHeld ?_
        simp only [Act.put, List.setIfInBounds_toArray, List.set_cons_zero, List.set_cons_succ]
        refine wpAnyH_done (by kernel_rfl) ?_ _
        have HA3 := hid (HKK.out.andNone HK3.out)
        clear hHeld HK3 HCMP Hx Hy HIx HKK
        go_wp2_with fail
        go_round
        case rel => exact ⟨i, h, rfl, rfl, by omega, by omega, HH2.out, HA3.out⟩
        case measure => simp [intOf]; omega
    · have hltI : ¬ (i : Int) < (j : Int) := by omega
      obtain ⟨hHf, hK⟩ := HS.out
      have hji : j = i := by omega
      rw [hji] at hHf
      have HE := hid hHf.end
      have HKK := hid hK
      clear hHf hK HS
      by_cases hin : i < n
      · have hinI : (i : Int) < (n : Int) := by omega
        obtain ⟨g, o, rfl, _, hr⟩ := H6.out (by intro e; have := HN.out; rw [e] at this; simp at this; omega)
        obtain ⟨y, hy⟩ : ∃ y, d[i]? = some y := ⟨_, List.getElem?_eq_getElem (by have := HN.out; omega)⟩
        have hyok := (hr.2 i y hy).1
        have HCMP := hid (fun V => compare_any y x V hyok HX.out)
        have HCV : Hid (cmpE y.1 x.1 = 0 ↔ y.1 = x.1) := cmpE_zero y.1 x.1
        have Hx : Hid (∀ V, Kp No wr V → V.rangeAt g (o + i * 35) (entC y)) := fun V hV => ((hr.kp (HBX.out V (HKK.out.andNone hV)).2 (fun x => x)).2 i y hy).2
        have Hy : Hid (∀ V, Kp No wr V → V.rangeAt w.heap.size 0 cy) := fun V hV => (HBX.out V (HKK.out.andNone hV)).1
        have HIx := hid (inf hyok)
        have HYE := hid hy
        obtain ⟨cx, hcx⟩ : ∃ cx, entC y = cx := ⟨_, rfl⟩
        rw [hcx, HCY.out] at HCMP
        rw [hcx] at Hx HIx
        obtain ⟨z, hzz⟩ : ∃ z, cmpE y.1 x.1 = z := ⟨_, rfl⟩
        rw [hzz] at HCMP HCV
        clear hcx hzz hr hy hyok
        go_wp2_with fail
        by_cases hz : z = 0
        · have HB : Hid (BS d x.1 i true) := ⟨by rw [HN.out]; omega, HE.out.1, HE.out.2, ⟨fun _ => ⟨y, HYE.out, HCV.out.1 hz⟩, fun _ => rfl⟩⟩
          clear HCV
          refine wp_region_held_drew (S := fun V => Kp No wr V) (by kernel_rfl) ((Kp.refl _ _).drew) (fun hHeld => ?_)
          refine wpAnyH_take (i := 0) (oi := { dst := some 35, op := Op.move (Operand.tmp 9), type := 3, pos := "sort.go:167", after := #[], guard := none }) (v := .int .i64 (i : Int)) rfl (by kernel_rfl) (by kernel_rfl) (by kernel_rfl) (fun _ _ _ h => h) (Or.inl ⟨by rfl, fun w' hw' => by (clear hw'; go_simp)⟩) hHeld ?_
          simp only [Act.put, List.setIfInBounds_toArray, List.set_cons_zero, List.set_cons_succ]
          refine wpAnyH_take (i := 1) (oi := { dst := some 36, op := Op.move (Operand.tmp 9), type := 3, pos := "sort.go:167", after := #[], guard := none }) (v := .int .i64 (i : Int)) rfl (by kernel_rfl) (by kernel_rfl) (by kernel_rfl) (fun _ _ _ h => h) (Or.inl ⟨by rfl, fun w' hw' => by (clear hw'; go_simp)⟩) hHeld ?_
          simp only [Act.put, List.setIfInBounds_toArray, List.set_cons_zero, List.set_cons_succ]
          refine wpAnyH_take (i := 2) (oi := { dst := some 37, op := Op.move (Operand.tmp 8), type := 3, pos := "sort.go:167", after := #[], guard := none }) (v := .int .i64 (n : Int)) rfl (by kernel_rfl) (by kernel_rfl) (by kernel_rfl) (fun _ _ _ h => h) (Or.inl ⟨by rfl, fun w' hw' => by (clear hw'; go_simp)⟩) hHeld ?_
          simp only [Act.put, List.setIfInBounds_toArray, List.set_cons_zero, List.set_cons_succ]
          refine wpAnyH_take (i := 3) (oi := { dst := some 38, op := Op.binOp BinOp.lss 3 (Operand.tmp 36) (Operand.tmp 37) 3, type := 4, pos := "sort.go:167", after := #[{ on := 1, ground := Ground.data }, { on := 2, ground := Ground.data }], guard := none }) (v := .bool true) rfl (by kernel_rfl) (by kernel_rfl) (by kernel_rfl) (fun _ _ _ h => h) (Or.inl ⟨by rfl, fun w' hw' => by (clear hw'; go_simp)⟩) hHeld ?_
          simp only [Act.put, List.setIfInBounds_toArray, List.set_cons_zero, List.set_cons_succ]
          refine wpAnyH_take (i := 4) (oi := { dst := some 39, op := Op.move (Operand.tmp 38), type := 4, pos := "sort.go:167", after := #[{ on := 3, ground := Ground.data }], guard := none }) (v := .bool true) rfl (by kernel_rfl) (by kernel_rfl) (by kernel_rfl) (fun _ _ _ h => h) (Or.inl ⟨by rfl, fun w' hw' => by (clear hw'; go_simp)⟩) hHeld ?_
          simp only [Act.put, List.setIfInBounds_toArray, List.set_cons_zero, List.set_cons_succ]
          refine wpAnyH_take (i := 5) (oi := { dst := some 40, op := Op.move (Operand.tmp 2), type := 222, pos := "sort.go:167", after := #[{ on := 4, ground := Ground.guard }], guard := some (4, true) }) (v := .func (.func 133) #[] #[]) rfl (by kernel_rfl) (by kernel_rfl) (by kernel_rfl) (fun _ _ _ h => h) (Or.inl ⟨by rfl, fun w' hw' => by (clear hw'; go_simp)⟩) hHeld ?_
          simp only [Act.put, List.setIfInBounds_toArray, List.set_cons_zero, List.set_cons_succ]
          refine wpAnyH_take (i := 6) (oi := { dst := some 41, op := Op.move (Operand.tmp 0), type := 81, pos := "sort.go:167", after := #[{ on := 4, ground := Ground.guard }], guard := some (4, true) }) (v := .slice (some ⟨g, o, none⟩) n c) rfl (by kernel_rfl) (by kernel_rfl) (by kernel_rfl) (fun _ _ _ h => h) (Or.inl ⟨by rfl, fun w' hw' => by (clear hw'; go_simp)⟩) hHeld ?_
          simp only [Act.put, List.setIfInBounds_toArray, List.set_cons_zero, List.set_cons_succ]
          refine wpAnyH_take (i := 7) (oi := { dst := some 42, op := Op.move (Operand.tmp 9), type := 3, pos := "sort.go:167", after := #[{ on := 4, ground := Ground.guard }], guard := some (4, true) }) (v := .int .i64 (i : Int)) rfl (by kernel_rfl) (by kernel_rfl) (by kernel_rfl) (fun _ _ _ h => h) (Or.inl ⟨by rfl, fun w' hw' => by (clear hw'; go_simp)⟩) hHeld ?_
          simp only [Act.put, List.setIfInBounds_toArray, List.set_cons_zero, List.set_cons_succ]
          refine wpAnyH_take (i := 8) (oi := { dst := some 43, op := Op.indexAddr 81 (Operand.tmp 41) (Operand.tmp 42), type := 0, pos := "sort.go:167", after := #[{ on := 6, ground := Ground.data }, { on := 7, ground := Ground.data }, { on := 4, ground := Ground.guard }], guard := some (4, true) }) (v := .pointer (some ⟨g, o + i * 35, none⟩)) rfl (by kernel_rfl) (by kernel_rfl) (by kernel_rfl) (fun _ _ _ h => h) (Or.inl ⟨by rfl, fun w' hw' => by (clear hw'; go_simp)⟩) hHeld ?_
          simp only [Act.put, List.setIfInBounds_toArray, List.set_cons_zero, List.set_cons_succ]
          refine wpAnyH_take (i := 9) (oi := { dst := some 44, op := Op.load 155 (Operand.tmp 43), type := 155, pos := "sort.go:167", after := #[{ on := 8, ground := Ground.data }, { on := 4, ground := Ground.guard }], guard := some (4, true) }) (v := .agg cx.toArray) rfl (by kernel_rfl) (by kernel_rfl) (by kernel_rfl) (fun _ _ _ h => h) (yieldsIf_load_mid (by rfl) _ _ rfl g (o + i * 35) rfl cx _ (Hx.out) Tryz.underlying155 rfl HIx.out) hHeld ?_
          simp only [Act.put, List.setIfInBounds_toArray, List.set_cons_zero, List.set_cons_succ]
          refine wpAnyH_take (i := 10) (oi := { dst := some 45, op := Op.load 155 (Operand.tmp 4), type := 155, pos := "sort.go:167", after := #[{ on := 4, ground := Ground.guard }], guard := some (4, true) }) (v := .agg cy.toArray) rfl (by kernel_rfl) (by kernel_rfl) (by kernel_rfl) (fun _ _ _ h => h) (yieldsIf_load_mid (by rfl) _ _ rfl w.heap.size 0 rfl cy _ (Hy.out) Tryz.underlying155 rfl HIy.out) hHeld ?_
          simp only [Act.put, List.setIfInBounds_toArray, List.set_cons_zero, List.set_cons_succ]
          refine wpAnyH_ready (rs := [11]) (by kernel_rfl) (by simp) ?_
          refine AllReadyH.cons (o := { dst := some 46, op := Op.call { callee := Callee.value (Operand.tmp 40), args := #[Operand.tmp 44, Operand.tmp 45], argTypes := #[155, 155] }, type := 3, pos := "sort.go:167", after := #[{ on := 5, ground := Ground.data }, { on := 9, ground := Ground.data }, { on := 10, ground := Ground.data }, { on := 4, ground := Ground.chain }, { on := 4, ground := Ground.guard }], guard := some (4, true) }) rfl (fun K hK => ?_) AllReadyH.nil
          go_simp
          refine (HCMP.out _).mono ?_
          rintro e w3 ⟨rfl, h3⟩
          have HK3 : Hid (Kp No wr w3) := (Kp.refl No wr).drew.andNone (Kp.below h3)
          clear h3
          go_wp2_with fail
          refine hK.out _ _ (HK3.out) (fun hh => ?_)
          clear hK K hHeld
          have hHeld := hh
          clear hh
          try simp only [Act.put, List.setIfInBounds_toArray, List.set_cons_zero, List.set_cons_succ]
          refine wpAnyH_take (i := 12) (oi := { dst := some 47, op := Op.binOp BinOp.eql 3 (Operand.tmp 46) (Operand.const (Value.int IntKind.i64 0)) 3, type := 4, pos := "sort.go:167", after := #[{ on := 11, ground := Ground.data }, { on := 4, ground := Ground.guard }, { on := 14, ground := Ground.gcOnly Departure.lateStores }], guard := some (4, true) }) (v := .bool true) rfl (by kernel_rfl) (by kernel_rfl) (by kernel_rfl) (fun _ _ _ h => h) (Or.inl ⟨by rfl, fun w' hw' => by (clear hw'; go_simp)⟩) hHeld ?_
          simp only [Act.put, List.setIfInBounds_toArray, List.set_cons_zero, List.set_cons_succ]
          refine wpAnyH_take (i := 13) (oi := { dst := some 48, op := Op.pick (Operand.tmp 39) (Operand.tmp 47) (Operand.const (Value.bool false)), type := 4, pos := "sort.go:167", after := #[{ on := 4, ground := Ground.data }, { on := 12, ground := Ground.data }, { on := 14, ground := Ground.gcOnly Departure.lateStores }], guard := none }) (v := .bool true) rfl (by kernel_rfl) (by kernel_rfl) (by kernel_rfl) (fun _ _ _ h => h) (Or.inl ⟨by rfl, fun w' hw' => by (clear hw'; go_simp)⟩) hHeld ?_
          simp only [Act.put, List.setIfInBounds_toArray, List.set_cons_zero, List.set_cons_succ]
          refine wpAnyH_take (i := 14) (oi := { dst := some 6, op := Op.assign (Operand.tmp 35), type := 3, pos := "sort.go:167", after := #[{ on := 0, ground := Ground.data }, { on := 11, ground := Ground.chain }, { on := 0, ground := Ground.phase }, { on := 1, ground := Ground.textOnly Departure.lateStores }, { on := 2, ground := Ground.textOnly Departure.lateStores }, { on := 3, ground := Ground.textOnly Departure.lateStores }, { on := 4, ground := Ground.textOnly Departure.lateStores }, { on := 5, ground := Ground.textOnly Departure.lateStores }, { on := 6, ground := Ground.textOnly Departure.lateStores }, { on := 7, ground := Ground.textOnly Departure.lateStores }, { on := 8, ground := Ground.textOnly Departure.lateStores }, { on := 9, ground := Ground.textOnly Departure.lateStores }, { on := 10, ground := Ground.textOnly Departure.lateStores }, { on := 11, ground := Ground.textOnly Departure.lateStoresUnsure }, { on := 12, ground := Ground.textOnly Departure.lateStores }, { on := 13, ground := Ground.textOnly Departure.lateStores }], guard := none }) (v := .int .i64 (i : Int)) rfl (by kernel_rfl) (by kernel_rfl) (by kernel_rfl) (fun _ _ _ h => h) (Or.inl ⟨by rfl, fun w' hw' => by (clear hw'; go_simp)⟩) hHeld ?_
          simp only [Act.put, List.setIfInBounds_toArray, List.set_cons_zero, List.set_cons_succ]
          refine wpAnyH_take (i := 15) (oi := { dst := some 7, op := Op.assign (Operand.tmp 48), type := 4, pos := "sort.go:167", after := #[{ on := 13, ground := Ground.data }, { on := 14, ground := Ground.chain }, { on := 0, ground := Ground.phase }, { on := 1, ground := Ground.phase }, { on := 2, ground := Ground.phase }, { on := 3, ground := Ground.phase }, { on := 4, ground := Ground.phase }, { on := 5, ground := Ground.phase }, { on := 6, ground := Ground.phase }, { on := 7, ground := Ground.phase }, { on := 8, ground := Ground.phase }, { on := 9, ground := Ground.phase }, { on := 10, ground := Ground.phase }, { on := 11, ground := Ground.phase }, { on := 12, ground := Ground.phase }, { on := 13, ground := Ground.phase }, { on := 14, ground := Ground.phase }], guard := none }) (v := .bool true) rfl (by kernel_rfl) (by kernel_rfl) (by kernel_rfl) (fun _ _ _ h => h) (Or.inl ⟨by rfl, fun w' hw' => by (clear hw'; go_simp)⟩) hHeld ?_
          simp only [Act.put, List.setIfInBounds_toArray, List.set_cons_zero, List.set_cons_succ]
          refine wpAnyH_done (by kernel_rfl) ?_ _
          have HA3 := hid (HBX.out _ (HKK.out.andNone HK3.out)).2
          clear hHeld HK3 HCMP Hx Hy HIx HKK
          go_wp2_with fail
          go_ret2
          exact ⟨⟨i, true, rfl, HB.out⟩, HA3.out⟩
        · have HB : Hid (BS d x.1 i false) := ⟨by rw [HN.out]; omega, HE.out.1, HE.out.2, ⟨fun h => (by cases h), fun ⟨q, hq, hqe⟩ => (by
            rw [HYE.out] at hq
            cases hq
            exact absurd (HCV.out.2 hqe) hz)⟩⟩
          clear HCV
          refine wp_region_held_drew (S := fun V => Kp No wr V) (by kernel_rfl) ((Kp.refl _ _).drew) (fun hHeld => ?_)
          refine wpAnyH_take (i := 0) (oi := { dst := some 35, op := Op.move (Operand.tmp 9), type := 3, pos := "sort.go:167", after := #[], guard := none }) (v := .int .i64 (i : Int)) rfl (by kernel_rfl) (by kernel_rfl) (by kernel_rfl) (fun _ _ _ h => h) (Or.inl ⟨by rfl, fun w' hw' => by (clear hw'; go_simp)⟩) hHeld ?_
          simp only [Act.put, List.setIfInBounds_toArray, List.set_cons_zero, List.set_cons_succ]
          refine wpAnyH_take (i := 1) (oi := { dst := some 36, op := Op.move (Operand.tmp 9), type := 3, pos := "sort.go:167", after := #[], guard := none }) (v := .int .i64 (i : Int)) rfl (by kernel_rfl) (by kernel_rfl) (by kernel_rfl) (fun _ _ _ h => h) (Or.inl ⟨by rfl, fun w' hw' => by (clear hw'; go_simp)⟩) hHeld ?_
          simp only [Act.put, List.setIfInBounds_toArray, List.set_cons_zero, List.set_cons_succ]
          refine wpAnyH_take (i := 2) (oi := { dst := some 37, op := Op.move (Operand.tmp 8), type := 3, pos := "sort.go:167", after := #[], guard := none }) (v := .int .i64 (n : Int)) rfl (by kernel_rfl) (by kernel_rfl) (by kernel_rfl) (fun _ _ _ h => h) (Or.inl ⟨by rfl, fun w' hw' => by (clear hw'; go_simp)⟩) hHeld ?_
          simp only [Act.put, List.setIfInBounds_toArray, List.set_cons_zero, List.set_cons_succ]
          refine wpAnyH_take (i := 3) (oi := { dst := some 38, op := Op.binOp BinOp.lss 3 (Operand.tmp 36) (Operand.tmp 37) 3, type := 4, pos := "sort.go:167", after := #[{ on := 1, ground := Ground.data }, { on := 2, ground := Ground.data }], guard := none }) (v := .bool true) rfl (by kernel_rfl) (by kernel_rfl) (by kernel_rfl) (fun _ _ _ h => h) (Or.inl ⟨by rfl, fun w' hw' => by (clear hw'; go_simp)⟩) hHeld ?_
          simp only [Act.put, List.setIfInBounds_toArray, List.set_cons_zero, List.set_cons_succ]
          refine wpAnyH_take (i := 4) (oi := { dst := some 39, op := Op.move (Operand.tmp 38), type := 4, pos := "sort.go:167", after := #[{ on := 3, ground := Ground.data }], guard := none }) (v := .bool true) rfl (by kernel_rfl) (by kernel_rfl) (by kernel_rfl) (fun _ _ _ h => h) (Or.inl ⟨by rfl, fun w' hw' => by (clear hw'; go_simp)⟩) hHeld ?_
          simp only [Act.put, List.setIfInBounds_toArray, List.set_cons_zero, List.set_cons_succ]
          refine wpAnyH_take (i := 5) (oi := { dst := some 40, op := Op.move (Operand.tmp 2), type := 222, pos := "sort.go:167", after := #[{ on := 4, ground := Ground.guard }], guard := some (4, true) }) (v := .func (.func 133) #[] #[]) rfl (by kernel_rfl) (by kernel_rfl) (by kernel_rfl) (fun _ _ _ h => h) (Or.inl ⟨by rfl, fun w' hw' => by (clear hw'; go_simp)⟩) hHeld ?_
          simp only [Act.put, List.setIfInBounds_toArray, List.set_cons_zero, List.set_cons_succ]
          refine wpAnyH_take (i := 6) (oi := { dst := some 41, op := Op.move (Operand.tmp 0), type := 81, pos := "sort.go:167", after := #[{ on := 4, ground := Ground.guard }], guard := some (4, true) }) (v := .slice (some ⟨g, o, none⟩) n c) rfl (by kernel_rfl) (by kernel_rfl) (by kernel_rfl) (fun _ _ _ h => h) (Or.inl ⟨by rfl, fun w' hw' => by (clear hw'; go_simp)⟩) hHeld ?_
          simp only [Act.put, List.setIfInBounds_toArray, List.set_cons_zero, List.set_cons_succ]
          refine wpAnyH_take (i := 7) (oi := { dst := some 42, op := Op.move (Operand.tmp 9), type := 3, pos := "sort.go:167", after := #[{ on := 4, ground := Ground.guard }], guard := some (4, true) }) (v := .int .i64 (i : Int)) rfl (by kernel_rfl) (by kernel_rfl) (by kernel_rfl) (fun _ _ _ h => h) (Or.inl ⟨by rfl, fun w' hw' => by (clear hw'; go_simp)⟩) hHeld ?_
          simp only [Act.put, List.setIfInBounds_toArray, List.set_cons_zero, List.set_cons_succ]
          refine wpAnyH_take (i := 8) (oi := { dst := some 43, op := Op.indexAddr 81 (Operand.tmp 41) (Operand.tmp 42), type := 0, pos := "sort.go:167", after := #[{ on := 6, ground := Ground.data }, { on := 7, ground := Ground.data }, { on := 4, ground := Ground.guard }], guard := some (4, true) }) (v := .pointer (some ⟨g, o + i * 35, none⟩)) rfl (by kernel_rfl) (by kernel_rfl) (by kernel_rfl) (fun _ _ _ h => h) (Or.inl ⟨by rfl, fun w' hw' => by (clear hw'; go_simp)⟩) hHeld ?_
          simp only [Act.put, List.setIfInBounds_toArray, List.set_cons_zero, List.set_cons_succ]
          refine wpAnyH_take (i := 9) (oi := { dst := some 44, op := Op.load 155 (Operand.tmp 43), type := 155, pos := "sort.go:167", after := #[{ on := 8, ground := Ground.data }, { on := 4, ground := Ground.guard }], guard := some (4, true) }) (v := .agg cx.toArray) rfl (by kernel_rfl) (by kernel_rfl) (by kernel_rfl) (fun _ _ _ h => h) (yieldsIf_load_mid (by rfl) _ _ rfl g (o + i * 35) rfl cx _ (Hx.out) Tryz.underlying155 rfl HIx.out) hHeld ?_
          simp only [Act.put, List.setIfInBounds_toArray, List.set_cons_zero, List.set_cons_succ]
          refine wpAnyH_take (i := 10) (oi := { dst := some 45, op := Op.load 155 (Operand.tmp 4), type := 155, pos := "sort.go:167", after := #[{ on := 4, ground := Ground.guard }], guard := some (4, true) }) (v := .agg cy.toArray) rfl (by kernel_rfl) (by kernel_rfl) (by kernel_rfl) (fun _ _ _ h => h) (yieldsIf_load_mid (by rfl) _ _ rfl w.heap.size 0 rfl cy _ (Hy.out) Tryz.underlying155 rfl HIy.out) hHeld ?_
          simp only [Act.put, List.setIfInBounds_toArray, List.set_cons_zero, List.set_cons_succ]
          refine wpAnyH_ready (rs := [11]) (by kernel_rfl) (by simp) ?_
          refine AllReadyH.cons (o := { dst := some 46, op := Op.call { callee := Callee.value (Operand.tmp 40), args := #[Operand.tmp 44, Operand.tmp 45], argTypes := #[155, 155] }, type := 3, pos := "sort.go:167", after := #[{ on := 5, ground := Ground.data }, { on := 9, ground := Ground.data }, { on := 10, ground := Ground.data }, { on := 4, ground := Ground.chain }, { on := 4, ground := Ground.guard }], guard := some (4, true) }) rfl (fun K hK => ?_) AllReadyH.nil
          go_simp
          refine (HCMP.out _).mono ?_
          rintro e w3 ⟨rfl, h3⟩
          have HK3 : Hid (Kp No wr w3) := (Kp.refl No wr).drew.andNone (Kp.below h3)
          clear h3
          go_wp2_with fail
          refine hK.out _ _ (HK3.out) (fun hh => ?_)
          clear hK K hHeld
          have hHeld := hh
          clear hh
          try simp only [Act.put, List.setIfInBounds_toArray, List.set_cons_zero, List.set_cons_succ]
          refine wpAnyH_take (i := 12) (oi := { dst := some 47, op := Op.binOp BinOp.eql 3 (Operand.tmp 46) (Operand.const (Value.int IntKind.i64 0)) 3, type := 4, pos := "sort.go:167", after := #[{ on := 11, ground := Ground.data }, { on := 4, ground := Ground.guard }, { on := 14, ground := Ground.gcOnly Departure.lateStores }], guard := some (4, true) }) (v := .bool false) rfl (by kernel_rfl) (by kernel_rfl) (by kernel_rfl) (fun _ _ _ h => h) (Or.inl ⟨by rfl, fun w' hw' => by (clear hw'; go_simp)⟩) hHeld ?_
          simp only [Act.put, List.setIfInBounds_toArray, List.set_cons_zero, List.set_cons_succ]
          refine wpAnyH_take (i := 13) (oi := { dst := some 48, op := Op.pick (Operand.tmp 39) (Operand.tmp 47) (Operand.const (Value.bool false)), type := 4, pos := "sort.go:167", after := #[{ on := 4, ground := Ground.data }, { on := 12, ground := Ground.data }, { on := 14, ground := Ground.gcOnly Departure.lateStores }], guard := none }) (v := .bool false) rfl (by kernel_rfl) (by kernel_rfl) (by kernel_rfl) (fun _ _ _ h => h) (Or.inl ⟨by rfl, fun w' hw' => by (clear hw'; go_simp)⟩) hHeld ?_
          simp only [Act.put, List.setIfInBounds_toArray, List.set_cons_zero, List.set_cons_succ]
          refine wpAnyH_take (i := 14) (oi := { dst := some 6, op := Op.assign (Operand.tmp 35), type := 3, pos := "sort.go:167", after := #[{ on := 0, ground := Ground.data }, { on := 11, ground := Ground.chain }, { on := 0, ground := Ground.phase }, { on := 1, ground := Ground.textOnly Departure.lateStores }, { on := 2, ground := Ground.textOnly Departure.lateStores }, { on := 3, ground := Ground.textOnly Departure.lateStores }, { on := 4, ground := Ground.textOnly Departure.lateStores }, { on := 5, ground := Ground.textOnly Departure.lateStores }, { on := 6, ground := Ground.textOnly Departure.lateStores }, { on := 7, ground := Ground.textOnly Departure.lateStores }, { on := 8, ground := Ground.textOnly Departure.lateStores }, { on := 9, ground := Ground.textOnly Departure.lateStores }, { on := 10, ground := Ground.textOnly Departure.lateStores }, { on := 11, ground := Ground.textOnly Departure.lateStoresUnsure }, { on := 12, ground := Ground.textOnly Departure.lateStores }, { on := 13, ground := Ground.textOnly Departure.lateStores }], guard := none }) (v := .int .i64 (i : Int)) rfl (by kernel_rfl) (by kernel_rfl) (by kernel_rfl) (fun _ _ _ h => h) (Or.inl ⟨by rfl, fun w' hw' => by (clear hw'; go_simp)⟩) hHeld ?_
          simp only [Act.put, List.setIfInBounds_toArray, List.set_cons_zero, List.set_cons_succ]
          refine wpAnyH_take (i := 15) (oi := { dst := some 7, op := Op.assign (Operand.tmp 48), type := 4, pos := "sort.go:167", after := #[{ on := 13, ground := Ground.data }, { on := 14, ground := Ground.chain }, { on := 0, ground := Ground.phase }, { on := 1, ground := Ground.phase }, { on := 2, ground := Ground.phase }, { on := 3, ground := Ground.phase }, { on := 4, ground := Ground.phase }, { on := 5, ground := Ground.phase }, { on := 6, ground := Ground.phase }, { on := 7, ground := Ground.phase }, { on := 8, ground := Ground.phase }, { on := 9, ground := Ground.phase }, { on := 10, ground := Ground.phase }, { on := 11, ground := Ground.phase }, { on := 12, ground := Ground.phase }, { on := 13, ground := Ground.phase }, { on := 14, ground := Ground.phase }], guard := none }) (v := .bool false) rfl (by kernel_rfl) (by kernel_rfl) (by kernel_rfl) (fun _ _ _ h => h) (Or.inl ⟨by rfl, fun w' hw' => by (clear hw'; go_simp)⟩) hHeld ?_
          simp only [Act.put, List.setIfInBounds_toArray, List.set_cons_zero, List.set_cons_succ]
          refine wpAnyH_done (by kernel_rfl) ?_ _
          have HA3 := hid (HBX.out _ (HKK.out.andNone HK3.out)).2
          clear hHeld HK3 HCMP Hx Hy HIx HKK
          go_wp2_with fail
          go_ret2
          exact ⟨⟨i, false, rfl, HB.out⟩, HA3.out⟩
      · have hinI : ¬ (i : Int) < (n : Int) := by omega
        have HB : Hid (BS d x.1 i false) := ⟨by rw [HN.out]; omega, HE.out.1, HE.out.2, ⟨fun h => (by cases h), fun ⟨y, hy, _⟩ => (by have := (List.getElem?_eq_some_iff.1 hy).1; have := HN.out; omega)⟩⟩
        go_wp2_with fail
        refine wp_region_held_drew (S := fun V => Kp No wr V) (by kernel_rfl) ((Kp.refl _ _).drew) (fun hHeld => ?_)
        refine wpAnyH_take (i := 0) (oi := { dst := some 35, op := Op.move (Operand.tmp 9), type := 3, pos := "sort.go:167", after := #[], guard := none }) (v := .int .i64 (i : Int)) rfl (by kernel_rfl) (by kernel_rfl) (by kernel_rfl) (fun _ _ _ h => h) (Or.inl ⟨by rfl, fun w' hw' => by (clear hw'; go_simp)⟩) hHeld ?_
        simp only [Act.put, List.setIfInBounds_toArray, List.set_cons_zero, List.set_cons_succ]
        refine wpAnyH_take (i := 1) (oi := { dst := some 36, op := Op.move (Operand.tmp 9), type := 3, pos := "sort.go:167", after := #[], guard := none }) (v := .int .i64 (i : Int)) rfl (by kernel_rfl) (by kernel_rfl) (by kernel_rfl) (fun _ _ _ h => h) (Or.inl ⟨by rfl, fun w' hw' => by (clear hw'; go_simp)⟩) hHeld ?_
        simp only [Act.put, List.setIfInBounds_toArray, List.set_cons_zero, List.set_cons_succ]
        refine wpAnyH_take (i := 2) (oi := { dst := some 37, op := Op.move (Operand.tmp 8), type := 3, pos := "sort.go:167", after := #[], guard := none }) (v := .int .i64 (n : Int)) rfl (by kernel_rfl) (by kernel_rfl) (by kernel_rfl) (fun _ _ _ h => h) (Or.inl ⟨by rfl, fun w' hw' => by (clear hw'; go_simp)⟩) hHeld ?_
        simp only [Act.put, List.setIfInBounds_toArray, List.set_cons_zero, List.set_cons_succ]
        refine wpAnyH_take (i := 3) (oi := { dst := some 38, op := Op.binOp BinOp.lss 3 (Operand.tmp 36) (Operand.tmp 37) 3, type := 4, pos := "sort.go:167", after := #[{ on := 1, ground := Ground.data }, { on := 2, ground := Ground.data }], guard := none }) (v := .bool false) rfl (by kernel_rfl) (by kernel_rfl) (by kernel_rfl) (fun _ _ _ h => h) (Or.inl ⟨by rfl, fun w' hw' => by (clear hw'; go_simp)⟩) hHeld ?_
        simp only [Act.put, List.setIfInBounds_toArray, List.set_cons_zero, List.set_cons_succ]
        refine wpAnyH_take (i := 4) (oi := { dst := some 39, op := Op.move (Operand.tmp 38), type := 4, pos := "sort.go:167", after := #[{ on := 3, ground := Ground.data }], guard := none }) (v := .bool false) rfl (by kernel_rfl) (by kernel_rfl) (by kernel_rfl) (fun _ _ _ h => h) (Or.inl ⟨by rfl, fun w' hw' => by (clear hw'; go_simp)⟩) hHeld ?_
        simp only [Act.put, List.setIfInBounds_toArray, List.set_cons_zero, List.set_cons_succ]
        refine wpAnyH_take (i := 5) (oi := { dst := some 40, op := Op.move (Operand.tmp 2), type := 222, pos := "sort.go:167", after := #[{ on := 4, ground := Ground.guard }], guard := some (4, true) }) (v := undef) rfl (by kernel_rfl) (by kernel_rfl) (by kernel_rfl) (fun _ _ _ h => h) (Or.inr ⟨by rfl, rfl⟩) hHeld ?_
        simp only [Act.put, List.setIfInBounds_toArray, List.set_cons_zero, List.set_cons_succ]
        refine wpAnyH_take (i := 6) (oi := { dst := some 41, op := Op.move (Operand.tmp 0), type := 81, pos := "sort.go:167", after := #[{ on := 4, ground := Ground.guard }], guard := some (4, true) }) (v := undef) rfl (by kernel_rfl) (by kernel_rfl) (by kernel_rfl) (fun _ _ _ h => h) (Or.inr ⟨by rfl, rfl⟩) hHeld ?_
        simp only [Act.put, List.setIfInBounds_toArray, List.set_cons_zero, List.set_cons_succ]
        refine wpAnyH_take (i := 7) (oi := { dst := some 42, op := Op.move (Operand.tmp 9), type := 3, pos := "sort.go:167", after := #[{ on := 4, ground := Ground.guard }], guard := some (4, true) }) (v := undef) rfl (by kernel_rfl) (by kernel_rfl) (by kernel_rfl) (fun _ _ _ h => h) (Or.inr ⟨by rfl, rfl⟩) hHeld ?_
        simp only [Act.put, List.setIfInBounds_toArray, List.set_cons_zero, List.set_cons_succ]
        refine wpAnyH_take (i := 8) (oi := { dst := some 43, op := Op.indexAddr 81 (Operand.tmp 41) (Operand.tmp 42), type := 0, pos := "sort.go:167", after := #[{ on := 6, ground := Ground.data }, { on := 7, ground := Ground.data }, { on := 4, ground := Ground.guard }], guard := some (4, true) }) (v := undef) rfl (by kernel_rfl) (by kernel_rfl) (by kernel_rfl) (fun _ _ _ h => h) (Or.inr ⟨by rfl, rfl⟩) hHeld ?_
        simp only [Act.put, List.setIfInBounds_toArray, List.set_cons_zero, List.set_cons_succ]
        refine wpAnyH_take (i := 9) (oi := { dst := some 44, op := Op.load 155 (Operand.tmp 43), type := 155, pos := "sort.go:167", after := #[{ on := 8, ground := Ground.data }, { on := 4, ground := Ground.guard }], guard := some (4, true) }) (v := undef) rfl (by kernel_rfl) (by kernel_rfl) (by kernel_rfl) (fun _ _ _ h => h) (Or.inr ⟨by rfl, rfl⟩) hHeld ?_
        simp only [Act.put, List.setIfInBounds_toArray, List.set_cons_zero, List.set_cons_succ]
        refine wpAnyH_take (i := 10) (oi := { dst := some 45, op := Op.load 155 (Operand.tmp 4), type := 155, pos := "sort.go:167", after := #[{ on := 4, ground := Ground.guard }], guard := some (4, true) }) (v := undef) rfl (by kernel_rfl) (by kernel_rfl) (by kernel_rfl) (fun _ _ _ h => h) (Or.inr ⟨by rfl, rfl⟩) hHeld ?_
        simp only [Act.put, List.setIfInBounds_toArray, List.set_cons_zero, List.set_cons_succ]
        refine wpAnyH_take (i := 11) (oi := { dst := some 46, op := Op.call { callee := Callee.value (Operand.tmp 40), args := #[Operand.tmp 44, Operand.tmp 45], argTypes := #[155, 155] }, type := 3, pos := "sort.go:167", after := #[{ on := 5, ground := Ground.data }, { on := 9, ground := Ground.data }, { on := 10, ground := Ground.data }, { on := 4, ground := Ground.chain }, { on := 4, ground := Ground.guard }], guard := some (4, true) }) (v := undef) rfl (by kernel_rfl) (by kernel_rfl) (by kernel_rfl) (fun _ _ _ h => h) (Or.inr ⟨by rfl, rfl⟩) hHeld ?_
        simp only [Act.put, List.setIfInBounds_toArray, List.set_cons_zero, List.set_cons_succ]
        refine wpAnyH_take (i := 12) (oi := { dst := some 47, op := Op.binOp BinOp.eql 3 (Operand.tmp 46) (Operand.const (Value.int IntKind.i64 0)) 3, type := 4, pos := "sort.go:167", after := #[{ on := 11, ground := Ground.data }, { on := 4, ground := Ground.guard }, { on := 14, ground := Ground.gcOnly Departure.lateStores }], guard := some (4, true) }) (v := undef) rfl (by kernel_rfl) (by kernel_rfl) (by kernel_rfl) (fun _ _ _ h => h) (Or.inr ⟨by rfl, rfl⟩) hHeld ?_
        simp only [Act.put, List.setIfInBounds_toArray, List.set_cons_zero, List.set_cons_succ]
        refine wpAnyH_take (i := 13) (oi := { dst := some 48, op := Op.pick (Operand.tmp 39) (Operand.tmp 47) (Operand.const (Value.bool false)), type := 4, pos := "sort.go:167", after := #[{ on := 4, ground := Ground.data }, { on := 12, ground := Ground.data }, { on := 14, ground := Ground.gcOnly Departure.lateStores }], guard := none }) (v := .bool false) rfl (by kernel_rfl) (by kernel_rfl) (by kernel_rfl) (fun _ _ _ h => h) (Or.inl ⟨by rfl, fun w' hw' => by (clear hw'; go_simp)⟩) hHeld ?_
        simp only [Act.put, List.setIfInBounds_toArray, List.set_cons_zero, List.set_cons_succ]
        refine wpAnyH_take (i := 14) (oi := { dst := some 6, op := Op.assign (Operand.tmp 35), type := 3, pos := "sort.go:167", after := #[{ on := 0, ground := Ground.data }, { on := 11, ground := Ground.chain }, { on := 0, ground := Ground.phase }, { on := 1, ground := Ground.textOnly Departure.lateStores }, { on := 2, ground := Ground.textOnly Departure.lateStores }, { on := 3, ground := Ground.textOnly Departure.lateStores }, { on := 4, ground := Ground.textOnly Departure.lateStores }, { on := 5, ground := Ground.textOnly Departure.lateStores }, { on := 6, ground := Ground.textOnly Departure.lateStores }, { on := 7, ground := Ground.textOnly Departure.lateStores }, { on := 8, ground := Ground.textOnly Departure.lateStores }, { on := 9, ground := Ground.textOnly Departure.lateStores }, { on := 10, ground := Ground.textOnly Departure.lateStores }, { on := 11, ground := Ground.textOnly Departure.lateStoresUnsure }, { on := 12, ground := Ground.textOnly Departure.lateStores }, { on := 13, ground := Ground.textOnly Departure.lateStores }], guard := none }) (v := .int .i64 (i : Int)) rfl (by kernel_rfl) (by kernel_rfl) (by kernel_rfl) (fun _ _ _ h => h) (Or.inl ⟨by rfl, fun w' hw' => by (clear hw'; go_simp)⟩) hHeld ?_
        simp only [Act.put, List.setIfInBounds_toArray, List.set_cons_zero, List.set_cons_succ]
        refine wpAnyH_take (i := 15) (oi := { dst := some 7, op := Op.assign (Operand.tmp 48), type := 4, pos := "sort.go:167", after := #[{ on := 13, ground := Ground.data }, { on := 14, ground := Ground.chain }, { on := 0, ground := Ground.phase }, { on := 1, ground := Ground.phase }, { on := 2, ground := Ground.phase }, { on := 3, ground := Ground.phase }, { on := 4, ground := Ground.phase }, { on := 5, ground := Ground.phase }, { on := 6, ground := Ground.phase }, { on := 7, ground := Ground.phase }, { on := 8, ground := Ground.phase }, { on := 9, ground := Ground.phase }, { on := 10, ground := Ground.phase }, { on := 11, ground := Ground.phase }, { on := 12, ground := Ground.phase }, { on := 13, ground := Ground.phase }, { on := 14, ground := Ground.phase }], guard := none }) (v := .bool false) rfl (by kernel_rfl) (by kernel_rfl) (by kernel_rfl) (fun _ _ _ h => h) (Or.inl ⟨by rfl, fun w' hw' => by (clear hw'; go_simp)⟩) hHeld ?_
        simp only [Act.put, List.setIfInBounds_toArray, List.set_cons_zero, List.set_cons_succ]
        refine wpAnyH_done (by kernel_rfl) ?_ _
        have HA3 := hid (HBX.out _ (HKK.out.andNone ((Kp.refl _ _).drew))).2
        clear hHeld HKK
        go_wp2_with fail
        go_ret2
        exact ⟨⟨i, false, rfl, HB.out⟩, HA3.out⟩
end Go.Proofs.YthmimipoooemjaaGreatDoor.Sg
end

section
/-
  segment.Find: where the object of a name stands.
-/
namespace Go.Proofs.YthmimipoooemjaaGreatDoor.Sg
open Go.RowKit
open Stb (Stab Srt Mrg)
open Sim (hid Kp No)

theorem UpTo.lt {d : List Ent} (h : UpTo d d.length) : ∀ (m t u : Nat) (p q : Ent), u = t + 1 + m → d[t]? = some p → d[u]? = some q → lexB p.1 q.1 = true
  | 0, t, u, p, q, hu, hp, hq => (h u q (List.getElem?_eq_some_iff.1 hq).1 hq).2 t p (by omega) hp
  | m + 1, t, u, p, q, hu, hp, hq => by
    have hul := (List.getElem?_eq_some_iff.1 hq).1
    obtain ⟨r, hr⟩ : ∃ r, d[t + 1 + m]? = some r := ⟨_, List.getElem?_eq_getElem (by omega)⟩
    exact lexB_trans _ _ _ (UpTo.lt h m t (t + 1 + m) p r rfl hp hr) ((h u q hul hq).2 (t + 1 + m) r (by omega) hr)
theorem UpTo.mono {d : List Ent} (h : UpTo d d.length) (x : List Int) : ∀ (t u : Nat) (p q : Ent), t ≤ u → d[t]? = some p → d[u]? = some q → lexB q.1 x = true → lexB p.1 x = true := fun t u p q htu hp hq hl => by
  by_cases e : t = u
  · subst e
    rw [hp] at hq
    cases hq
    exact hl
  · exact lexB_trans _ _ _ (h.lt (u - t - 1) t u p q (by omega) hp hq) hl

theorem results_cell_two {P : Program} {fn : Func} {p u : Tmp} {ty : TypeId} (h : fn.results = #[.cell p ty, .tmp u]) (tmps : Array Value) (w : World) (g o : Nat) (cs : List Value) (d : TypeDesc)
    (hp : tmps.getD p undef = .pointer (some ⟨g, o, none⟩)) (hc : w.rangeAt g o cs) (hu : P.underlying ty = some d) (hd : d.isRow = true) (hi : (P.info? ty).map (·.size) = some cs.length) :
    (results fn tmps).run P w = .ok (.tuple #[.agg cs.toArray, tmps.getD u undef]) w := by
  have hp' : tmps[p]?.getD undef = .pointer (some ⟨g, o, none⟩) := by simpa using hp
  simp only [results, h]
  simp [Result.andThen, hp', asAddr, run_loadVar_mid w g o ty cs d hc hu hd hi]

theorem wpList_build1 {P : Program} {ops : Array Oper} {rest : List Oper} {o : Oper} {a : Act} {w : World} {Q : Exit → Act → World → Prop} (hg : o.guard = none) (ty : TypeId) (x : Operand) (ho : o.op = .build ty #[(0, x)])
    (vx : Value) (hx : a.eval x = vx) (C : Array Value) (hb : P.built ty [(0, vx)] = some C)
    (h : wpList P ops Q rest (a.put o.dst (.agg C)) w) : wpList P ops Q (o :: rest) a w := by
  have e : P.built ty ((#[(0, x)] : Array (Nat × Operand)).map fun (i, x) => (i, a.eval x)).toList = some C := by
    rw [← hb]
    simp only [List.map_toArray, List.map_cons, List.map_nil, hx]
  refine wpList_plain hg fun _ hK => ?_
  unfold Oper.wp execOp
  simp only [ho, Sem.run_bind, run_build w ty _ C e, Result.andThen_ok]
  exact hK _ _ h

theorem built48 (nm : List Int) (h : nm.length = 32) : Tryz.prog.built 155 [(0, .agg (b8 nm).toArray)] = some (entC (nm, 0, 0, 0)).toArray := by
  rcases nm with _ | ⟨x0, _ | ⟨x1, _ | ⟨x2, _ | ⟨x3, _ | ⟨x4, _ | ⟨x5, _ | ⟨x6, _ | ⟨x7, _ | ⟨x8, _ | ⟨x9, _ | ⟨x10, _ | ⟨x11, _ | ⟨x12, _ | ⟨x13, _ | ⟨x14, _ | ⟨x15, _ | ⟨x16, _ | ⟨x17, _ | ⟨x18, _ | ⟨x19, _ | ⟨x20, _ | ⟨x21, _ | ⟨x22, _ | ⟨x23, _ | ⟨x24, _ | ⟨x25, _ | ⟨x26, _ | ⟨x27, _ | ⟨x28, _ | ⟨x29, _ | ⟨x30, _ | ⟨x31, _ | ⟨x32, r⟩⟩⟩⟩⟩⟩⟩⟩⟩⟩⟩⟩⟩⟩⟩⟩⟩⟩⟩⟩⟩⟩⟩⟩⟩⟩⟩⟩⟩⟩⟩⟩⟩ <;> first | (exfalso; simp at h; done) | (exfalso; simp at h; omega) | kernel_rfl

/-- What Find answers. -/
def FAns (d : List Ent) (h : List Int) (e : Ending) : Prop :=
  ∃ (p : Int × Int × Int) (b : Bool), e = .returned (.tuple #[.agg #[.int .i64 p.1, .int .i64 p.2.1, .int .i64 p.2.2], .bool b]) ∧ (b = true ↔ RightP d ∧ ∃ y ∈ d, y.1 = h) ∧ (b = true → (h, p) ∈ d) ∧ (b = false → p = (0, 0, 0))
theorem FAns.no {d : List Ent} {h : List Int} (hn : ¬ (RightP d ∧ ∃ y ∈ d, y.1 = h)) : FAns d h (.returned (.tuple #[.agg #[.int .i64 0, .int .i64 0, .int .i64 0], .bool false])) :=
  ⟨(0, 0, 0), false, rfl, ⟨fun e => (by cases e), fun e => absurd e hn⟩, fun e => (by cases e), fun _ => rfl⟩

set_option maxHeartbeats 4000000 in
set_option maxRecDepth 100000 in
theorem find_any (w : World) (v : Value) (d : List Ent) (P : Nat → Prop) (h : List Int) (hv : EV P w v d) (hl : d.length ≤ 1000000) (hh : h.length = 32) (hb : ∀ x ∈ h, 0 ≤ x ∧ x ≤ 255) :
    Calls Tryz.prog 83 #[v, .agg (b8 h).toArray] w fun e w' => FAns d h e ∧ Kp No w w' := by
  have HI1 : Hid ((Tryz.prog.info? 53).map (·.size) = some (b8 h).length) := by rw [Hid, b8_length, hh]; exact infH
  have HB1 := hid (built48 h hh)
  have HOK := hid hv.ok
  have HRT : Hid (∀ V, Kp No w V → Calls Tryz.prog 112 #[v] V fun e w' => RAns d e ∧ Kp No V w') := fun V hV => right_any V v d P (hv.kept hV) hl
  have HBS : Hid (RightP d → ∀ V, Kp No w V → Calls Tryz.prog 132 #[v, .agg (entC (h, 0, 0, 0)).toArray, cmpV] V fun e w' => BAns d h e ∧ Kp No V w') := fun hr V hV => bsearch_any V v d P (h, 0, 0, 0) (hv.kept hV) hl ⟨hh, hb⟩ (hr.2.mono h)
  unfold cmpV at HBS
  have HV := hid hv
  obtain ⟨a, c, rfl, h2, h3, h4, h5, h6⟩ := hv
  obtain ⟨n, hn⟩ : ∃ n, d.length = n := ⟨_, rfl⟩
  have HN := hid hn
  rw [hn] at hl HRT HBS ⊢
  have H6 := hid h6
  clear hn h2 h3 h4 h5 h6 HV
  generalize b8 h = bh at *
  generalize (entC (h, 0, 0, 0)).toArray = E0 at *
  obtain ⟨W, hW⟩ : ∃ W, (w.alloc (.cells bh.toArray 53)).alloc (.cells #[.int .i64 0, .int .i64 0, .int .i64 0] 51) = W := ⟨_, rfl⟩
  have hsz : (w.alloc (.cells bh.toArray 53)).heap.size = w.heap.size + 1 := by simp
  have hKW : Kp No w W := by rw [← hW]; exact ((Kp.refl No w).alloc _).alloc _
  have hWs : W.heap.size = w.heap.size + 2 := by rw [← hW]; simp
  have HBX : Hid (∀ V, Kp No W V → V.rangeAt w.heap.size 0 bh ∧ V.there (w.heap.size + 1) 0 3 ∧ Kp No w V) := fun V hV => by
    have h1 : W.rangeAt w.heap.size 0 bh := by rw [← hW]; exact World.rangeAt_alloc (rng_new w bh _) _
    have h2 : W.there (w.heap.size + 1) 0 3 := by
      rw [← hW, ← hsz]
      exact thereE _ _ _ _ (by simp)
    refine ⟨fun j u hu => (hV.cell (p := ⟨w.heap.size, _, none⟩) (by show w.heap.size < _; omega) (fun x => x)).trans (h1 j u hu), fun j hj => ?_, hKW.andNone hV⟩
    rw [hV.cell (p := ⟨w.heap.size + 1, _, none⟩) (by show w.heap.size + 1 < _; omega) (fun x => x), hV.frozen (p := ⟨w.heap.size + 1, _, none⟩) (by show w.heap.size + 1 < _; omega) (fun x => x)]
    exact h2 j hj
  have HST : Hid (∀ (V : World) (p q r : Int), Kp No W V → (fun V' => V'.rangeAt (w.heap.size + 1) 0 [.int .i64 p, .int .i64 q, .int .i64 r] ∧ Kp No w V') (V.setCells (w.heap.size + 1) 0 (#[.int .i64 p, .int .i64 q, .int .i64 r] : Array Value).toList)) := fun V p q r hV => ⟨World.rangeAt_setCells_same _ _ _ _ (HBX.out V hV).2.1, (HBX.out V hV).2.2.trans (setCells_kp V _ _ _) (fun x hx => .inr (by omega))⟩
  have HI3 : Hid ((Tryz.prog.info? 51).map (·.size) = some 3) := infW (h, 0, 0, 0)
  have HO3 : Hid (∀ p q r : Int, (#[.int .i64 p, .int .i64 q, .int .i64 r] : Array Value).all (·.oneCell') = true) := fun p q r => all_oneCell_toArray (cs := [.int .i64 p, .int .i64 q, .int .i64 r]) (by
    intro v hv
    simp at hv
    rcases hv with rfl | rfl | rfl <;> rfl)
  go_enter Tryz.func83, Tryz.ntmps83
  go_wp2_with fail
  have HKW := hid hKW
  clear hW hsz hKW hWs
  refine (HRT.out _ HKW.out).mono ?_
  rintro e3 w3 ⟨⟨b, rfl, hb1⟩, k3⟩
  have HB3 := hid hb1
  have HK3 := hid k3
  clear hb1 k3
  cases b with
  | false =>
    have HF : Hid (FAns d h (.returned (.tuple #[.agg #[.int .i64 0, .int .i64 0, .int .i64 0], .bool false]))) := FAns.no (fun hr => by have := HB3.out.2 hr.1; cases this)
    go_wp2_with (first
      | (refine wpList_store_box (fun V' => V'.rangeAt (w.heap.size + 1) 0 [.int .i64 0, .int .i64 0, .int .i64 0] ∧ Kp No w V') (by rfl) 51 _ _ (by rfl) (w.heap.size + 1) 0 #[.int .i64 0, .int .i64 0, .int .i64 0] (by rfl) (by rfl) (HBX.out _ HK3.out).2.1 HI3.out (HO3.out _ _ _) (HST.out _ 0 0 0 HK3.out) ?_; intro w5 h5; have H5 := hid h5; clear h5))
    refine bodyPost_ret (results_cell_two rfl _ _ (w.heap.size + 1) 0 [.int .i64 0, .int .i64 0, .int .i64 0] _ rfl H5.out.1 Tryz.underlying51 rfl HI3.out) rfl ?_
    exact ⟨HF.out, H5.out.2⟩
  | true =>
    have HR := hid (HB3.out.1 rfl)
    go_wp2_with (first
      | (refine wpList_load_mid (by rfl) 53 _ (by rfl) w.heap.size 0 (by rfl) bh _ (HBX.out _ HK3.out).1 Tryz.underlying53 rfl HI1.out ?_)
      | (refine wpList_build1 (by rfl) 155 _ (by rfl) _ (by rfl) E0 HB1.out ?_))
    refine (HBS.out HR.out _ (HBX.out _ HK3.out).2.2).mono ?_
    rintro e4 w4 ⟨⟨i, b4, rfl, hbs⟩, k4⟩
    have HS4 := hid hbs
    have HK4 : Hid (Kp No W w4) := HK3.out.andNone k4
    clear hbs k4
    cases b4 with
    | false =>
      have HF : Hid (FAns d h (.returned (.tuple #[.agg #[.int .i64 0, .int .i64 0, .int .i64 0], .bool false]))) := FAns.no (fun hr => by
        obtain ⟨_, y, hy, hyh⟩ := hr
        obtain ⟨h1, h2, h3, h4⟩ := HS4.out
        rw [← List.take_append_drop i d] at hy
        rcases List.mem_append.1 hy with hy | hy
        · have := h2 y hy
          rw [hyh, lexB_irr] at this
          cases this
        · obtain ⟨k, hk⟩ := List.mem_iff_getElem?.1 hy
          rw [List.getElem?_drop] at hk
          have hkl := (List.getElem?_eq_some_iff.1 hk).1
          by_cases hk0 : k = 0
          · subst hk0
            have := h4.2 ⟨y, hk, hyh⟩
            cases this
          · obtain ⟨z, hz⟩ : ∃ z, d[i]? = some z := ⟨_, List.getElem?_eq_getElem (by omega)⟩
            have h5 := HR.out.2.lt (k - 1) i (i + k) z y (by omega) hz hk
            rw [hyh] at h5
            have h6 := h3 z (List.mem_iff_getElem?.2 ⟨0, by rw [List.getElem?_drop]; exact hz⟩)
            rw [h5] at h6
            cases h6)
      go_wp2_with (first
        | (refine wpList_store_box (fun V' => V'.rangeAt (w.heap.size + 1) 0 [.int .i64 0, .int .i64 0, .int .i64 0] ∧ Kp No w V') (by rfl) 51 _ _ (by rfl) (w.heap.size + 1) 0 #[.int .i64 0, .int .i64 0, .int .i64 0] (by rfl) (by rfl) (HBX.out _ HK4.out).2.1 HI3.out (HO3.out _ _ _) (HST.out _ 0 0 0 HK4.out) ?_; intro w5 h5; have H5 := hid h5; clear h5))
      refine bodyPost_ret (results_cell_two rfl _ _ (w.heap.size + 1) 0 [.int .i64 0, .int .i64 0, .int .i64 0] _ rfl H5.out.1 Tryz.underlying51 rfl HI3.out) rfl ?_
      exact ⟨HF.out, H5.out.2⟩
    | true =>
      obtain ⟨y, hy, hyh⟩ := HS4.out.2.2.2.1 rfl
      have hil := (List.getElem?_eq_some_iff.1 hy).1
      rw [HN.out] at hil
      have hilI : (i : Int) < (n : Int) := by omega
      obtain ⟨g, o, rfl, _, hr⟩ := H6.out (by intro e; rw [e] at hy; simp at hy)
      have hrow := (hr.kp (HBX.out _ HK4.out).2.2 (fun x => x)).2 i y hy
      have hpl := rng_place hrow.1 hrow.2
      unfold plC at hpl
      obtain ⟨nm, p, q, r⟩ := y
      dsimp only at hpl hyh
      subst hyh
      have HPL := hid hpl
      have HF : Hid (FAns d nm (.returned (.tuple #[.agg #[.int .i64 p, .int .i64 q, .int .i64 r], .bool true]))) := ⟨(p, q, r), true, rfl, ⟨fun _ => ⟨HR.out, _, List.mem_of_getElem? hy, rfl⟩, fun _ => rfl⟩, fun _ => List.mem_of_getElem? hy, fun e => (by cases e)⟩
      clear hpl hrow hr hy
      go_wp2_with (first
        | (refine wpList_load_mid (by rfl) 51 _ (by rfl) g (o + i * 35 + 32) (by rfl) [.int .i64 p, .int .i64 q, .int .i64 r] _ HPL.out Tryz.underlying51 rfl HI3.out ?_)
        | (refine wpList_store_box (fun V' => V'.rangeAt (w.heap.size + 1) 0 [.int .i64 p, .int .i64 q, .int .i64 r] ∧ Kp No w V') (by rfl) 51 _ _ (by rfl) (w.heap.size + 1) 0 #[.int .i64 p, .int .i64 q, .int .i64 r] (by rfl) (by rfl) (HBX.out _ HK4.out).2.1 HI3.out (HO3.out _ _ _) (HST.out _ p q r HK4.out) ?_; intro w5 h5; have H5 := hid h5; clear h5))
      refine bodyPost_ret (results_cell_two rfl _ _ (w.heap.size + 1) 0 [.int .i64 p, .int .i64 q, .int .i64 r] _ rfl H5.out.1 Tryz.underlying51 rfl HI3.out) rfl ?_
      exact ⟨HF.out, H5.out.2⟩
end Go.Proofs.YthmimipoooemjaaGreatDoor.Sg
end

section
/-
  slices.Concat of two rows of entries, and segment.Join.
-/
namespace Go.Proofs.YthmimipoooemjaaGreatDoor.Sg
open Go.RowKit
open Stb (Stab Srt Mrg)
open Sim (hid Kp No)

theorem ev_of_row {w : World} {v : Value} {d : List Ent} {P : Nat → Prop} (h : Sim.Row w 155 35 v d.length (ents d)) (hd : ∀ e ∈ d, EOk e) (hP : ∀ x, v.ownBlock = some x → P x) : EV P w v d := by
  obtain ⟨a, cap, rfl, h2, h3, h4, h5⟩ := h.shape
  refine ⟨a, cap, rfl, h2, h3, fun e => ⟨List.length_eq_zero_iff.1 (h4 e).1, (h4 e).2⟩, hd, fun hne => ?_⟩
  cases a with
  | none => exact absurd (List.length_eq_zero_iff.1 (h4 rfl).1) hne
  | some x =>
    obtain ⟨g, o, sp⟩ := x
    obtain ⟨e1, e2⟩ := h5 _ rfl
    cases e1
    cases e2
    exact ⟨g, 0, rfl, hP g rfl, (own_row h rfl hd).1⟩

/-- A row of the call's own that began at u. -/
def Mine (u w : World) (v : Value) (d : List Ent) : Prop := Sim.Row w 155 35 v d.length (ents d) ∧ (∀ x, v.ownBlock = some x → u.heap.size ≤ x) ∧ Kp No u w
theorem Mine.more {u w w' : World} {v v' : Value} {d d' : List Ent} (h : Mine u w v d) (hr : Sim.Row w' 155 35 v' (d.length + d'.length) (ents d ++ ents d')) (hg : w.grownBy w' v.ownBlock) (ho : v'.ownBlock = v.ownBlock ∨ v'.ownBlock = some w.heap.size) : Mine u w' v' (d ++ d') := by
  refine ⟨by rw [List.length_append, ents_append]; exact hr, fun x hx => ?_, h.2.2.grown hg (fun x hx => .inr (h.2.1 x hx))⟩
  rcases ho with e | e
  · exact h.2.1 x (by rw [← e]; exact hx)
  · rw [e] at hx
    cases hx
    exact h.2.2.size

theorem grown35 (w : World) (n G : Nat) (hG : n ≤ G) (hm : G ≤ maxLen) : Sim.Row (w.drew.alloc (.cells (Builtin.zeroCells (Value.agg zE.toArray).cells n ++ Builtin.zeroCells (Value.agg zE.toArray).cells (G - n)) 155)) 155 35 (.slice (some ⟨w.heap.size, 0, none⟩) 0 G) 0 [] := by
  exact World.ownsRow_made w.drew _ G (Nat.zero_le _) hm (by rw [Array.size_append, size_zeroCells, size_zeroCells]; simp [Value.cells, zE, entC, b8]; omega)

set_option maxHeartbeats 1000000 in
theorem growE_any (n : Nat) (w : World) (h0 : 0 < n) (hn : n ≤ 2000000) :
    Calls Tryz.prog 175 #[.slice none 0 0, .int .i64 n] w fun e w' => ∃ v, e = .returned v ∧ Mine w w' v [] := by
  obtain ⟨i0, hi, hz0, hz1, hz2⟩ := info_parts infoE
  have hrz : ∀ ty, (Builtin.append_ #[81, 3] ty #[.slice none 0 0, .int .i64 n]).run Tryz.prog w = _ := fun ty => Lib.run_append_nil_zeros w 81 3 ty 155 i0 (.agg zE.toArray) .i64 .i64 Tryz.underlying81 Tryz.underlying3 hi hz0 n h0 (by omega) (by omega) (by rw [hz2]; omega)
  have hGn : n ≤ grownCap w n 0 155 := grownCap_ge w _ _ _
  have hGm := grownCap_le_maxLen w n 0 155 (by unfold maxLen; omega)
  generalize grownCap w n 0 155 = G at *
  have hG63 : G ≤ 9223372036854775807 := by unfold maxLen at hGm; omega
  have HF : Hid (Mine w (w.drew.alloc (.cells (Builtin.zeroCells (Value.agg zE.toArray).cells n ++ Builtin.zeroCells (Value.agg zE.toArray).cells (G - n)) 155)) (.slice (some ⟨w.heap.size, 0, none⟩) 0 G) []) := ⟨grown35 w n G hGn hGm, fun x hx => by simp [Value.ownBlock] at hx; omega, (Kp.refl No w).drew.alloc _⟩
  clear hGm hz0 hz1 hz2 hi
  have hnn : ¬ ((n : Int) < 0) := by omega
  have hn2 : (n : Int) > 0 := by omega
  go_enter Tryz.func175, Tryz.ntmps175
  go_wp2_with (at_builtin; refine Lib.wpList_append_run _ rfl _ _ _ _ rfl _ _ rfl rfl _ _ (hrz _) ?_)
  all_goals (go_ret; exact ⟨_, rfl, HF.out⟩)
theorem growE_zero (w : World) :
    Calls Tryz.prog 175 #[.slice none 0 0, .int .i64 0] w fun e w' => ∃ v, e = .returned v ∧ Mine w w' v [] := by
  have HF : Hid (Mine w w (.slice none 0 0) []) := ⟨Sim.Row.nil _ _ _, by intro x hx; simp [Value.ownBlock] at hx, Kp.refl _ _⟩
  go_enter Tryz.func175, Tryz.ntmps175
  go_wp2_with fail
  go_ret
  exact ⟨_, rfl, HF.out⟩
theorem growE (z : Int) (n : Nat) (w : World) (hz : z = n) (hn : n ≤ 2000000) :
    Calls Tryz.prog 175 #[.slice none 0 0, .int .i64 z] w fun e w' => ∃ v, e = .returned v ∧ Mine w w' v [] := by
  subst hz
  by_cases h : n = 0
  · subst h
    exact growE_zero w
  · exact growE_any n w (by omega) hn

set_option maxHeartbeats 4000000 in
set_option maxRecDepth 100000 in
/-- slices.Concat of two. -/
theorem concatE (w : World) (g : Nat) (v1 v2 : Value) (xs ys : List Ent) (P1 P2 : Nat → Prop) (c0 : w.cell? ⟨g, 0, none⟩ = some v1) (c1 : w.cell? ⟨g, 1, none⟩ = some v2) (hg : g < w.heap.size) (h1 : EV P1 w v1 xs) (h2 : EV P2 w v2 ys) (hl : xs.length + ys.length ≤ 1000000) :
    Calls Tryz.prog 137 #[.slice (some ⟨g, 0, none⟩) 2 2] w fun e w' => ∃ v, e = .returned v ∧ Mine w w' v (xs ++ ys) := by
  have H1 := hid h1
  have H2 := hid h2
  obtain ⟨a1, k1, rfl, r1⟩ := h1
  obtain ⟨a2, k2, rfl, r2⟩ := h2
  clear r1 r2
  obtain ⟨L1, hL1⟩ : ∃ L, xs.length = L := ⟨_, rfl⟩
  obtain ⟨L2, hL2⟩ : ∃ L, ys.length = L := ⟨_, rfl⟩
  rw [hL1] at H1 c0 hl
  rw [hL2] at H2 c1 hl
  have HL1 := hid hL1
  have HL2 := hid hL2
  clear hL1 hL2
  go_enter Tryz.func137, Tryz.ntmps137
  go_wp2
  refine wp_loop_rounds 3 ?_
  rw [rounds_succ]
  go_wp2
  rw [rounds_succ]
  go_wp2
  rw [rounds_succ]
  go_wp2_with fail
  refine (growE _ (L1 + L2) w (by omega) (by omega)).mono ?_
  rintro e w1 ⟨v, rfl, hM⟩
  obtain ⟨aN, cN, rfl, _⟩ := hM.1.shape
  have HM := hid hM
  have HR1 := hid hM.1
  have HS1 := hid (H1.out.kept hM.2.2).src
  have hk1 := hM.2.2
  have d0 : w1.cell? ⟨g, 0, none⟩ = some (.slice a1 L1 k1) := (hk1.cell (p := ⟨g, 0, none⟩) hg (fun x => x)).trans c0
  have d1 : w1.cell? ⟨g, 1, none⟩ = some (.slice a2 L2 k2) := (hk1.cell (p := ⟨g, 1, none⟩) hg (fun x => x)).trans c1
  rw [HL1.out] at HS1
  clear hM hk1 c0 c1
  go_wp2
  refine wp_loop_rounds 3 ?_
  rw [rounds_succ]
  go_wp2_with (refine Sim.app_row _ (by rfl) _ _ 81 155 (.agg zE.toArray) 35 56 (by rfl) Tryz.underlying81 infoE rfl (by omega) (.slice aN 0 cN) (.slice a1 L1 k1) 0 L1 [] (ents xs) (by rfl) (by rfl) HR1.out HS1.out (by omega) (by omega) ?_; intro ad2 cap2 w2 hrow2 hgr2 hown2)
  have hM2 : Mine w w2 (.slice ad2 L1 cap2) ([] ++ xs) := by
    rw [Nat.zero_add] at hrow2 hown2
    exact HM.out.more (by rw [HL1.out]; simpa [ents] using hrow2) hgr2 hown2
  rw [List.nil_append] at hM2
  have HM2 := hid hM2
  have HR2 := hid hM2.1
  rw [HL1.out] at HR2
  have HS2 := hid (H2.out.kept hM2.2.2).src
  rw [HL2.out] at HS2
  have e0 : w2.cell? ⟨g, 0, none⟩ = some (.slice a1 L1 k1) := by
    refine ((Kp.refl (fun x => (Value.slice aN 0 cN).ownBlock = some x) w1).grown hgr2 (fun _ h => .inl h)).cell (p := ⟨g, 0, none⟩) (Nat.lt_of_lt_of_le hg HM.out.2.2.size) (fun hx => ?_) |>.trans d0
    have := HM.out.2.1 g hx
    omega
  have e1 : w2.cell? ⟨g, 1, none⟩ = some (.slice a2 L2 k2) := by
    refine ((Kp.refl (fun x => (Value.slice aN 0 cN).ownBlock = some x) w1).grown hgr2 (fun _ h => .inl h)).cell (p := ⟨g, 1, none⟩) (Nat.lt_of_lt_of_le hg HM.out.2.2.size) (fun hx => ?_) |>.trans d1
    have := HM.out.2.1 g hx
    omega
  clear hM2 hrow2 hgr2 hown2 d0 d1 HM HR1 HS1
  go_wp2
  rw [rounds_succ]
  go_wp2_with (refine Sim.app_row _ (by rfl) _ _ 81 155 (.agg zE.toArray) 35 56 (by rfl) Tryz.underlying81 infoE rfl (by omega) (.slice ad2 L1 cap2) (.slice a2 L2 k2) L1 L2 (ents xs) (ents ys) (by rfl) (by rfl) HR2.out HS2.out (by omega) (by omega) ?_; intro ad3 cap3 w3 hrow3 hgr3 hown3)
  have HF : Hid (Mine w w3 (.slice ad3 (L1 + L2) cap3) (xs ++ ys)) := HM2.out.more (by rw [HL1.out, HL2.out]; exact hrow3) hgr3 hown3
  clear hrow3 hgr3 hown3 HM2 HR2 HS2 e0 e1
  go_wp2
  rw [rounds_succ]
  go_wp2
  go_ret
  exact ⟨_, rfl, HF.out⟩

set_option maxHeartbeats 4000000 in
set_option maxRecDepth 100000 in
theorem join_any (w : World) (v1 v2 : Value) (xs ys : List Ent) (P1 P2 : Nat → Prop) (h1 : EV P1 w v1 xs) (h2 : EV P2 w v2 ys) (hl : xs.length + ys.length ≤ 1000000) :
    Calls Tryz.prog 85 #[v1, v2] w fun e w' => ∃ r X, e = .returned r ∧ Stab ky (xs ++ ys) X ∧ Srt ky lexB X ∧ Kp No w w' ∧ EV (fun g => w.heap.size ≤ g) w' r (cmpct X) := by
  have HC : Hid (∀ t, Calls Tryz.prog 137 #[.slice (some ⟨w.heap.size, 0, none⟩) 2 2] (w.alloc (.cells #[v1, v2] t)) fun e w' => ∃ v, e = .returned v ∧ Mine (w.alloc (.cells #[v1, v2] t)) w' v (xs ++ ys)) := fun t => by
    have hk : Kp No w (w.alloc (.cells #[v1, v2] t)) := (Kp.refl No w).alloc _
    exact concatE _ w.heap.size v1 v2 xs ys P1 P2 (by rw [World.cell?_alloc_at _ _ _ _ rfl]; rfl) (by rw [World.cell?_alloc_at _ _ _ _ rfl]; rfl) (by simp) (h1.kept hk) (h2.kept hk) hl
  have HOK : Hid (∀ e ∈ xs ++ ys, EOk e) := fun e he => by
    rcases List.mem_append.1 he with he | he
    · exact h1.ok e he
    · exact h2.ok e he
  have HL : Hid ((xs ++ ys).length ≤ 1000000) := by rw [Hid, List.length_append]; exact hl
  obtain ⟨a1, k1, rfl, r1⟩ := h1
  obtain ⟨a2, k2, rfl, r2⟩ := h2
  clear r1 r2
  go_enter Tryz.func85, Tryz.ntmps85
  go_wp2_with fail
  refine (HC.out _).mono ?_
  rintro e w2 ⟨v, rfl, hM⟩
  have HSO := hid (sort_any w2 v (xs ++ ys) _ (ev_of_row hM.1 HOK.out hM.2.1) HL.out)
  have HK2 : Hid (Kp No w w2) := ((Kp.refl No w).alloc _).andNone hM.2.2
  obtain ⟨a3, k3, rfl, _⟩ := hM.1.shape
  rw [List.length_append] at HSO
  clear hM
  go_wp2_with fail
  refine HSO.out.mono ?_
  rintro e w3 ⟨r, X, rfl, h1, h2, h3, h4⟩
  have HF : Hid (Stab ky (xs ++ ys) X ∧ Srt ky lexB X ∧ Kp No w w3 ∧ EV (fun g => w.heap.size ≤ g) w3 r (cmpct X)) := ⟨h1, h2, HK2.out.andNone h3, h4.mono (fun g hg => Nat.le_trans HK2.out.size hg)⟩
  clear h1 h2 h3 h4
  go_wp2_with fail
  go_ret
  exact ⟨_, X, rfl, HF.out⟩
end Go.Proofs.YthmimipoooemjaaGreatDoor.Sg
end

section
/-
  Of a stable sort the first of each name: strictly rising names, and of each name the first of what was sorted.
-/
namespace Go.Proofs.YthmimipoooemjaaGreatDoor.Sg
open Go.RowKit
open Stb (Stab Srt Mrg)
open Sim (hid Kp No)

/-- Names that rise strictly. -/
def Rise (d : List Ent) : Prop := d.Pairwise (fun a b => lexB a.1 b.1 = true)

theorem Rise.get {d : List Ent} (h : Rise d) {y : Ent} (hy : y ∈ d) : d.find? (fun x => decide (x.1 = y.1)) = some y := by
  induction d with
  | nil => cases hy
  | cons x r ih =>
    obtain ⟨h1, h2⟩ := List.pairwise_cons.1 h
    rcases List.mem_cons.1 hy with rfl | hy
    · rw [List.find?_cons_of_pos (by simp)]
    · have hx : x.1 ≠ y.1 := fun e => by
        have := h1 y hy
        rw [e, lexB_irr] at this
        cases this
      rw [List.find?_cons_of_neg (by simpa using hx)]
      exact ih h2 hy
theorem Rise.mem {d : List Ent} (h : Rise d) {y : Ent} {k : List Int} : d.find? (fun x => decide (x.1 = k)) = some y ↔ y ∈ d ∧ y.1 = k := by
  refine ⟨fun e => ⟨List.mem_of_find?_eq_some e, by simpa using List.find?_some e⟩, fun ⟨hy, e⟩ => ?_⟩
  rw [← e]
  exact h.get hy
end Go.Proofs.YthmimipoooemjaaGreatDoor.Sg
end

section
/-
  Own of the tenth law: entries of the document's type as the program's.
-/
namespace Go.Proofs.YthmimipoooemjaaGreatDoor.Sg
open Go.RowKit
open Stb (Stab Srt Mrg)
open Sim (hid Kp No)

theorem x32 {nm : List Int} (h : nm.length = 32) : ∃ x0 x1 x2 x3 x4 x5 x6 x7 x8 x9 x10 x11 x12 x13 x14 x15 x16 x17 x18 x19 x20 x21 x22 x23 x24 x25 x26 x27 x28 x29 x30 x31,
    nm = [x0, x1, x2, x3, x4, x5, x6, x7, x8, x9, x10, x11, x12, x13, x14, x15, x16, x17, x18, x19, x20, x21, x22, x23, x24, x25, x26, x27, x28, x29, x30, x31] := by
  match nm, h with
  | [x0, x1, x2, x3, x4, x5, x6, x7, x8, x9, x10, x11, x12, x13, x14, x15, x16, x17, x18, x19, x20, x21, x22, x23, x24, x25, x26, x27, x28, x29, x30, x31], _ => exact ⟨_, _, _, _, _, _, _, _, _, _, _, _, _, _, _, _, _, _, _, _, _, _, _, _, _, _, _, _, _, _, _, _, rfl⟩
theorem built48b (nm : List Int) (p q r : Int) (h : nm.length = 32) : Tryz.prog.built 155 [(0, .agg (b8 nm).toArray), (1, .agg #[.int .i64 p, .int .i64 q, .int .i64 r])] = some (entC (nm, p, q, r)).toArray := by
  obtain ⟨x0, x1, x2, x3, x4, x5, x6, x7, x8, x9, x10, x11, x12, x13, x14, x15, x16, x17, x18, x19, x20, x21, x22, x23, x24, x25, x26, x27, x28, x29, x30, x31, rfl⟩ := x32 h
  kernel_rfl
theorem run_oneE (nm : List Int) (p q r : Int) (h : nm.length = 32) (w : World) : (Instr.buildSlice 81 1 #[(0, .agg (entC (nm, p, q, r)).toArray)]).run Tryz.prog w = .ok (.slice (some ⟨w.heap.size, 0, none⟩) 1 1) (w.alloc (.cells (entC (nm, p, q, r)).toArray 155)) := by
  obtain ⟨x0, x1, x2, x3, x4, x5, x6, x7, x8, x9, x10, x11, x12, x13, x14, x15, x16, x17, x18, x19, x20, x21, x22, x23, x24, x25, x26, x27, x28, x29, x30, x31, rfl⟩ := x32 h
  kernel_rfl
theorem yields_two {P : Program} {ops : Array Oper} {S : World → Prop} {o : Oper} {a : Act} (hw : Region.wanted o (yielded ops a.tmps) = true) (t : TypeId) (i j : Nat) (x y : Operand) (ho : o.op = .build t #[(i, x), (j, y)])
    (vx vy : Value) (hx : a.eval x = vx) (hy : a.eval y = vy) (C : Array Value) (hb : P.built t [(i, vx), (j, vy)] = some C) : YieldsIf P ops S o (.agg C) a :=
  .inl ⟨hw, fun w _ => by
    have e : P.built t ((#[(i, x), (j, y)] : Array (Nat × Operand)).map fun (i, x) => (i, a.eval x)).toList = some C := by
      rw [← hb]
      simp only [List.map_toArray, List.map_cons, List.map_nil, hx, hy]
    unfold execOp
    simp only [ho, Sem.run_bind, run_build w t _ C e, Result.andThen_ok]
    rfl⟩
theorem exec_sliceE {P : Program} {o : Oper} {a : Act} {w w' : World} (t : TypeId) (x : Operand) (ho : o.op = .buildSlice t 1 #[(0, x)]) (v u : Value) (hx : a.eval x = v) (hr : (Instr.buildSlice t 1 #[(0, v)]).run P w = .ok u w') : (execOp a.eval o).run P w = .ok (.value u) w' := by
  unfold execOp
  simp [ho, hx, hr, Result.andThen]
theorem exec_appE {P : Program} {o : Oper} {a : Act} {w w' : World} (s x : Operand) (t : TypeId) (ho : o.op = .call { callee := .builtin .append, args := #[s, x], argTypes := #[t, t] }) (vs vx v : Value) (hs : a.eval s = vs) (hx : a.eval x = vx)
    (hr : (Builtin.append_ #[t, t] o.type #[vs, vx]).run P w = .ok v w') : (execOp a.eval o).run P w = .ok (.value v) w' := by
  unfold execOp
  simp [ho, resolve, invoke, builtin, hs, hx, hr, Result.andThen]
theorem wp_valE {P : Program} {o : Oper} {a : Act} {K : Act → World → Prop} {Q : Exit → Act → World → Prop} {w w' : World} {v : Value} (hr : (execOp a.eval o).run P w = .ok (.value v) w') (h : K (a.put o.dst v) w') : Oper.wp P o a w K Q := by
  unfold Oper.wp
  rw [hr]
  exact h
/-- append of a row of the call's own, with its world. -/
theorem app_run (w : World) (ty : TypeId) (v vx : Value) (n m : Nat) (xs ys : List Value) (hown : Sim.Row w 155 35 v n xs) (hy : Sim.Src w vx m 35 ys) (hm : 0 < m) (hlen : n + m ≤ 2000000) :
    ∃ ad cap w', (Builtin.append_ #[81, 81] ty #[v, vx]).run Tryz.prog w = .ok (.slice ad (n + m) cap) w' ∧ Sim.Row w' 155 35 (.slice ad (n + m) cap) (n + m) (xs ++ ys) ∧ w.grownBy w' v.ownBlock ∧ ((Value.slice ad (n + m) cap).ownBlock = v.ownBlock ∨ (Value.slice ad (n + m) cap).ownBlock = some w.heap.size) := by
  obtain ⟨i0, hi, hz0, hz1', hz2⟩ := info_parts infoE
  rcases hy with ⟨rfl, rfl, rfl⟩ | ⟨ad, c, rfl, hl, hc, h1⟩
  · omega
  · obtain ⟨v', w', hr, h8, h9, _, h10⟩ := run_append_own_at (P := Tryz.prog) w 0 81 ty 155 i0 (.agg zE.toArray) 35 56 Tryz.underlying81 hi hz0 hz1' hz2 rfl (by omega) v n xs hown ad m c ys hl hc h1 (by unfold maxLen; omega) (by omega) (Nat.zero_le _)
    have h8' : Sim.Row w' 155 35 v' (n + m) (xs ++ ys) := h8
    obtain ⟨ad', cap', rfl, _⟩ := h8'.shape
    exact ⟨ad', cap', w', hr, h8, h9, h10⟩

set_option maxHeartbeats 4000000 in
set_option maxRecDepth 100000 in
theorem own_any (w : World) (v : Value) (d : List Ent) (P : Nat → Prop) (hv : EV P w v d) (hl : d.length ≤ 1000000) :
    Calls Tryz.prog 35 #[v] w fun e w' => ∃ r, e = .returned r ∧ Mine w w' r d := by
  obtain ⟨a, c, rfl, h2, h3, h4, h5, h6⟩ := hv
  obtain ⟨n, hn⟩ : ∃ n, d.length = n := ⟨_, rfl⟩
  have HN := hid hn
  rw [hn] at hl ⊢
  have H6 := hid h6
  have HM0 : Hid (Mine w w (.slice none 0 0) (d.take 0)) := ⟨Sim.Row.nil _ _ _, by intro x hx; simp [Value.ownBlock] at hx, Kp.refl _ _⟩
  clear hn h2 h3 h4 h5 h6
  go_enter Tryz.func35, Tryz.ntmps35
  go_wp2_with fail
  go_loopw [3, 4] (fun v3 v4 wr => ∃ (k : Nat) (ad : Option Addr) (cap : Nat), v3 = .slice ad k cap ∧ v4 = .int .i64 (k : Int) ∧ k ≤ n ∧ Hid (Mine w wr (.slice ad k cap) (d.take k))) (fun _ v4 _ => n - (intOf v4).toNat)
  case atStart => exact ⟨0, none, 0, rfl, rfl, Nat.zero_le _, HM0.out⟩
  case round =>
    obtain ⟨k, ad, cap, rfl, rfl, hkn, HS⟩ := hrel
    by_cases hlt : k < n
    · have hltI : (k : Int) < (n : Int) := by omega
      have hwk : IntKind.i64.wrap ((k : Int) + 1) = ((k + 1 : Nat) : Int) := by rw [IntKind.wrap_i64]; omega
      obtain ⟨g, o, rfl, _, hr⟩ := H6.out (by intro e; have := HN.out; rw [e] at this; simp at this; omega)
      obtain ⟨e, he⟩ : ∃ e, d[k]? = some e := ⟨_, List.getElem?_eq_getElem (by rw [HN.out]; exact hlt)⟩
      obtain ⟨heo, _⟩ := hr.2 k e he
      obtain ⟨nm, p, q, r⟩ := e
      have hnm : nm.length = 32 := heo.1
      have hgO : (Value.slice ad k cap).ownBlock ≠ some g := fun e => by have := HS.out.2.1 g e; have := hr.1; omega
      have hgw : g < wr.heap.size := Nat.lt_of_lt_of_le hr.1 HS.out.2.2.size
      have hrow : ∀ V, Kp (fun x => (Value.slice ad k cap).ownBlock = some x) wr V → V.rangeAt g (o + k * 35) (entC (nm, p, q, r)) := fun V hV j u hu => (hV.cell (p := ⟨g, _, none⟩) hgw hgO).trans (((hr.kp HS.out.2.2 (fun x => x)).2 k _ he).2 j u hu)
      have HLX : Hid (∀ V, Kp (fun x => (Value.slice ad k cap).ownBlock = some x) wr V → V.rangeAt g (o + k * 35) (b8 nm)) := fun V hV => rng_name (hrow V hV)
      have HLP : Hid (∀ V, Kp (fun x => (Value.slice ad k cap).ownBlock = some x) wr V → V.cell? ⟨g, o + k * 35 + 32, none⟩ = some (.int .i64 p) ∧ V.cell? ⟨g, o + k * 35 + 32 + 1, none⟩ = some (.int .i64 q) ∧ V.cell? ⟨g, o + k * 35 + 32 + 2, none⟩ = some (.int .i64 r)) := fun V hV => by
        have h := rng_place heo (hrow V hV)
        exact ⟨h 0 _ rfl, h 1 _ rfl, h 2 _ rfl⟩
      have HI1 : Hid ((Tryz.prog.info? 53).map (·.size) = some (b8 nm).length) := by rw [Hid, b8_length, hnm]; exact infH
      have HB1 := hid (built48b nm p q r hnm)
      have HB2 := hid (fun W => run_oneE nm p q r hnm W)
      have hkl : (d.take k).length = k := by rw [List.length_take, HN.out]; omega
      have HNX : Hid (d.take (k + 1) = d.take k ++ [(nm, p, q, r)]) := by rw [Hid, List.take_add_one, he]; rfl
      obtain ⟨C, hC⟩ : ∃ C, entC (nm, p, q, r) = C := ⟨_, rfl⟩
      have hRA : Sim.Row (wr.drew.alloc (.cells C.toArray 155)) 155 35 (.slice ad k cap) k (ents (d.take k)) := by
        have := HS.out.1
        rw [hkl] at this
        exact this.kept (((Kp.refl No wr).drew).alloc _)
      have hSC : Sim.Src (wr.drew.alloc (.cells C.toArray 155)) (.slice (some ⟨wr.heap.size, 0, none⟩) 1 1) 1 35 C := Sim.Src.one wr.drew C 35 155 (by rw [← hC]; exact entC_length heo) (by rw [← hC]; exact entC_one _)
      obtain ⟨ad2, cap2, w2, hap, hrow2, hgr2, hown2⟩ := app_run _ 81 (.slice ad k cap) (.slice (some ⟨wr.heap.size, 0, none⟩) 1 1) k 1 _ _ hRA hSC (by omega) (by omega)
      have hgr : wr.grownBy w2 (Value.slice ad k cap).ownBlock → True := fun _ => trivial
      have HKA : Hid (Kp (fun x => (Value.slice ad k cap).ownBlock = some x) wr (wr.drew.alloc (.cells C.toArray 155))) := ((Kp.refl _ wr).drew).alloc _
      have HK2 : Hid (Kp (fun x => (Value.slice ad k cap).ownBlock = some x) wr w2) := HKA.out.grown hgr2 (fun x hx => .inl hx)
      have HF : Hid (Mine w w2 (.slice ad2 (k + 1) cap2) (d.take (k + 1))) := by
        rw [HNX.out]
        refine ⟨?_, fun x hx => ?_, HS.out.2.2.trans HK2.out (fun x hx => .inr (HS.out.2.1 x hx))⟩
        · rw [List.length_append, hkl, ents_append]
          have : ents [(nm, p, q, r)] = C := by simp [ents, hC]
          rw [this]
          exact hrow2
        · rcases hown2 with e | e
          · exact HS.out.2.1 x (by rw [← e]; exact hx)
          · rw [e] at hx
            cases hx
            exact Nat.le_trans HS.out.2.2.size HKA.out.size
      have HAP := hid hap
      rw [hC] at HB1 HB2
      clear hC hRA hSC hap hrow2 hgr2 hown2 hkl hrow hr he heo hgO hgw hgr HNX HS
      generalize b8 nm = bx at *
      go_wp2_with fail
      refine wp_region_held_drew (S := fun V => Kp (fun x => (Value.slice ad k cap).ownBlock = some x) wr V) (by kernel_rfl) ((Kp.refl _ _).drew) (fun hHeld => ?_)
      refine wpAnyH_take (i := 0) (oi := { dst := some 11, op := Op.move (Operand.tmp 3), type := 81, pos := "law.go:19", after := #[], guard := none }) (v := .slice ad k cap) rfl (by kernel_rfl) (by kernel_rfl) (by kernel_rfl) (fun _ _ _ h => h) (Or.inl ⟨by rfl, fun w' hw' => by (clear hw'; go_simp)⟩) hHeld ?_
      simp only [Act.put, List.setIfInBounds_toArray, List.set_cons_zero, List.set_cons_succ]
      refine wpAnyH_take (i := 1) (oi := { dst := some 12, op := Op.move (Operand.tmp 0), type := 77, pos := "law.go:19", after := #[], guard := none }) (v := .slice (some ⟨g, o, none⟩) n c) rfl (by kernel_rfl) (by kernel_rfl) (by kernel_rfl) (fun _ _ _ h => h) (Or.inl ⟨by rfl, fun w' hw' => by (clear hw'; go_simp)⟩) hHeld ?_
      simp only [Act.put, List.setIfInBounds_toArray, List.set_cons_zero, List.set_cons_succ]
      refine wpAnyH_take (i := 2) (oi := { dst := some 13, op := Op.move (Operand.tmp 4), type := 3, pos := "law.go:19", after := #[], guard := none }) (v := .int .i64 (k : Int)) rfl (by kernel_rfl) (by kernel_rfl) (by kernel_rfl) (fun _ _ _ h => h) (Or.inl ⟨by rfl, fun w' hw' => by (clear hw'; go_simp)⟩) hHeld ?_
      simp only [Act.put, List.setIfInBounds_toArray, List.set_cons_zero, List.set_cons_succ]
      refine wpAnyH_take (i := 3) (oi := { dst := some 14, op := Op.indexAddr 77 (Operand.tmp 12) (Operand.tmp 13), type := 0, pos := "law.go:19", after := #[{ on := 1, ground := Ground.data }, { on := 2, ground := Ground.data }], guard := none }) (v := .pointer (some ⟨g, o + k * 35, none⟩)) rfl (by kernel_rfl) (by kernel_rfl) (by kernel_rfl) (fun _ _ _ h => h) (Or.inl ⟨by rfl, fun w' hw' => by (clear hw'; go_simp)⟩) hHeld ?_
      simp only [Act.put, List.setIfInBounds_toArray, List.set_cons_zero, List.set_cons_succ]
      refine wpAnyH_take (i := 4) (oi := { dst := some 15, op := Op.fieldAddr 159 (Operand.tmp 14) 0, type := 0, pos := "law.go:19", after := #[{ on := 3, ground := Ground.data }], guard := none }) (v := .pointer (some ⟨g, o + k * 35, none⟩)) rfl (by kernel_rfl) (by kernel_rfl) (by kernel_rfl) (fun _ _ _ h => h) (Or.inl ⟨by rfl, fun w' hw' => by (clear hw'; go_simp)⟩) hHeld ?_
      simp only [Act.put, List.setIfInBounds_toArray, List.set_cons_zero, List.set_cons_succ]
      refine wpAnyH_take (i := 5) (oi := { dst := some 16, op := Op.load 53 (Operand.tmp 15), type := 53, pos := "law.go:19", after := #[{ on := 4, ground := Ground.data }], guard := none }) (v := .agg bx.toArray) rfl (by kernel_rfl) (by kernel_rfl) (by kernel_rfl) (fun _ _ _ h => h) (yieldsIf_load_mid (by rfl) _ _ rfl g (o + k * 35) rfl bx _ (HLX.out) Tryz.underlying53 rfl HI1.out) hHeld ?_
      simp only [Act.put, List.setIfInBounds_toArray, List.set_cons_zero, List.set_cons_succ]
      refine wpAnyH_take (i := 6) (oi := { dst := some 17, op := Op.move (Operand.tmp 0), type := 77, pos := "law.go:19", after := #[], guard := none }) (v := .slice (some ⟨g, o, none⟩) n c) rfl (by kernel_rfl) (by kernel_rfl) (by kernel_rfl) (fun _ _ _ h => h) (Or.inl ⟨by rfl, fun w' hw' => by (clear hw'; go_simp)⟩) hHeld ?_
      simp only [Act.put, List.setIfInBounds_toArray, List.set_cons_zero, List.set_cons_succ]
      refine wpAnyH_take (i := 7) (oi := { dst := some 18, op := Op.move (Operand.tmp 4), type := 3, pos := "law.go:19", after := #[], guard := none }) (v := .int .i64 (k : Int)) rfl (by kernel_rfl) (by kernel_rfl) (by kernel_rfl) (fun _ _ _ h => h) (Or.inl ⟨by rfl, fun w' hw' => by (clear hw'; go_simp)⟩) hHeld ?_
      simp only [Act.put, List.setIfInBounds_toArray, List.set_cons_zero, List.set_cons_succ]
      refine wpAnyH_take (i := 8) (oi := { dst := some 19, op := Op.indexAddr 77 (Operand.tmp 17) (Operand.tmp 18), type := 0, pos := "law.go:19", after := #[{ on := 6, ground := Ground.data }, { on := 7, ground := Ground.data }], guard := none }) (v := .pointer (some ⟨g, o + k * 35, none⟩)) rfl (by kernel_rfl) (by kernel_rfl) (by kernel_rfl) (fun _ _ _ h => h) (Or.inl ⟨by rfl, fun w' hw' => by (clear hw'; go_simp)⟩) hHeld ?_
      simp only [Act.put, List.setIfInBounds_toArray, List.set_cons_zero, List.set_cons_succ]
      refine wpAnyH_take (i := 9) (oi := { dst := some 20, op := Op.fieldAddr 159 (Operand.tmp 19) 1, type := 0, pos := "law.go:19", after := #[{ on := 8, ground := Ground.data }], guard := none }) (v := .pointer (some ⟨g, o + k * 35 + 32, none⟩)) rfl (by kernel_rfl) (by kernel_rfl) (by kernel_rfl) (fun _ _ _ h => h) (Or.inl ⟨by rfl, fun w' hw' => by (clear hw'; go_simp)⟩) hHeld ?_
      simp only [Act.put, List.setIfInBounds_toArray, List.set_cons_zero, List.set_cons_succ]
      refine wpAnyH_take (i := 10) (oi := { dst := some 21, op := Op.fieldAddr 157 (Operand.tmp 20) 0, type := 0, pos := "law.go:19", after := #[{ on := 9, ground := Ground.data }], guard := none }) (v := .pointer (some ⟨g, o + k * 35 + 32, none⟩)) rfl (by kernel_rfl) (by kernel_rfl) (by kernel_rfl) (fun _ _ _ h => h) (Or.inl ⟨by rfl, fun w' hw' => by (clear hw'; go_simp)⟩) hHeld ?_
      simp only [Act.put, List.setIfInBounds_toArray, List.set_cons_zero, List.set_cons_succ]
      refine wpAnyH_take (i := 11) (oi := { dst := some 22, op := Op.load 3 (Operand.tmp 21), type := 3, pos := "law.go:19", after := #[{ on := 10, ground := Ground.data }], guard := none }) (v := .int .i64 p) rfl (by kernel_rfl) (by kernel_rfl) (by kernel_rfl) (fun _ _ _ h => h) (Or.inl ⟨by rfl, fun w' hw' => by (have q := (HLP.out _ hw').1; clear hw'; go_simp)⟩) hHeld ?_
      simp only [Act.put, List.setIfInBounds_toArray, List.set_cons_zero, List.set_cons_succ]
      refine wpAnyH_take (i := 12) (oi := { dst := some 23, op := Op.move (Operand.tmp 0), type := 77, pos := "law.go:19", after := #[], guard := none }) (v := .slice (some ⟨g, o, none⟩) n c) rfl (by kernel_rfl) (by kernel_rfl) (by kernel_rfl) (fun _ _ _ h => h) (Or.inl ⟨by rfl, fun w' hw' => by (clear hw'; go_simp)⟩) hHeld ?_
      simp only [Act.put, List.setIfInBounds_toArray, List.set_cons_zero, List.set_cons_succ]
      refine wpAnyH_take (i := 13) (oi := { dst := some 24, op := Op.move (Operand.tmp 4), type := 3, pos := "law.go:19", after := #[], guard := none }) (v := .int .i64 (k : Int)) rfl (by kernel_rfl) (by kernel_rfl) (by kernel_rfl) (fun _ _ _ h => h) (Or.inl ⟨by rfl, fun w' hw' => by (clear hw'; go_simp)⟩) hHeld ?_
      simp only [Act.put, List.setIfInBounds_toArray, List.set_cons_zero, List.set_cons_succ]
      refine wpAnyH_take (i := 14) (oi := { dst := some 25, op := Op.indexAddr 77 (Operand.tmp 23) (Operand.tmp 24), type := 0, pos := "law.go:19", after := #[{ on := 12, ground := Ground.data }, { on := 13, ground := Ground.data }], guard := none }) (v := .pointer (some ⟨g, o + k * 35, none⟩)) rfl (by kernel_rfl) (by kernel_rfl) (by kernel_rfl) (fun _ _ _ h => h) (Or.inl ⟨by rfl, fun w' hw' => by (clear hw'; go_simp)⟩) hHeld ?_
      simp only [Act.put, List.setIfInBounds_toArray, List.set_cons_zero, List.set_cons_succ]
      refine wpAnyH_take (i := 15) (oi := { dst := some 26, op := Op.fieldAddr 159 (Operand.tmp 25) 1, type := 0, pos := "law.go:19", after := #[{ on := 14, ground := Ground.data }], guard := none }) (v := .pointer (some ⟨g, o + k * 35 + 32, none⟩)) rfl (by kernel_rfl) (by kernel_rfl) (by kernel_rfl) (fun _ _ _ h => h) (Or.inl ⟨by rfl, fun w' hw' => by (clear hw'; go_simp)⟩) hHeld ?_
      simp only [Act.put, List.setIfInBounds_toArray, List.set_cons_zero, List.set_cons_succ]
      refine wpAnyH_take (i := 16) (oi := { dst := some 27, op := Op.fieldAddr 157 (Operand.tmp 26) 1, type := 0, pos := "law.go:19", after := #[{ on := 15, ground := Ground.data }], guard := none }) (v := .pointer (some ⟨g, o + k * 35 + 32 + 1, none⟩)) rfl (by kernel_rfl) (by kernel_rfl) (by kernel_rfl) (fun _ _ _ h => h) (Or.inl ⟨by rfl, fun w' hw' => by (clear hw'; go_simp)⟩) hHeld ?_
      simp only [Act.put, List.setIfInBounds_toArray, List.set_cons_zero, List.set_cons_succ]
      refine wpAnyH_take (i := 17) (oi := { dst := some 28, op := Op.load 3 (Operand.tmp 27), type := 3, pos := "law.go:19", after := #[{ on := 16, ground := Ground.data }], guard := none }) (v := .int .i64 q) rfl (by kernel_rfl) (by kernel_rfl) (by kernel_rfl) (fun _ _ _ h => h) (Or.inl ⟨by rfl, fun w' hw' => by (have q := (HLP.out _ hw').2.1; clear hw'; go_simp)⟩) hHeld ?_
      simp only [Act.put, List.setIfInBounds_toArray, List.set_cons_zero, List.set_cons_succ]
      refine wpAnyH_take (i := 18) (oi := { dst := some 29, op := Op.move (Operand.tmp 0), type := 77, pos := "law.go:19", after := #[], guard := none }) (v := .slice (some ⟨g, o, none⟩) n c) rfl (by kernel_rfl) (by kernel_rfl) (by kernel_rfl) (fun _ _ _ h => h) (Or.inl ⟨by rfl, fun w' hw' => by (clear hw'; go_simp)⟩) hHeld ?_
      simp only [Act.put, List.setIfInBounds_toArray, List.set_cons_zero, List.set_cons_succ]
      refine wpAnyH_take (i := 19) (oi := { dst := some 30, op := Op.move (Operand.tmp 4), type := 3, pos := "law.go:19", after := #[], guard := none }) (v := .int .i64 (k : Int)) rfl (by kernel_rfl) (by kernel_rfl) (by kernel_rfl) (fun _ _ _ h => h) (Or.inl ⟨by rfl, fun w' hw' => by (clear hw'; go_simp)⟩) hHeld ?_
      simp only [Act.put, List.setIfInBounds_toArray, List.set_cons_zero, List.set_cons_succ]
      refine wpAnyH_take (i := 20) (oi := { dst := some 31, op := Op.indexAddr 77 (Operand.tmp 29) (Operand.tmp 30), type := 0, pos := "law.go:19", after := #[{ on := 18, ground := Ground.data }, { on := 19, ground := Ground.data }], guard := none }) (v := .pointer (some ⟨g, o + k * 35, none⟩)) rfl (by kernel_rfl) (by kernel_rfl) (by kernel_rfl) (fun _ _ _ h => h) (Or.inl ⟨by rfl, fun w' hw' => by (clear hw'; go_simp)⟩) hHeld ?_
      simp only [Act.put, List.setIfInBounds_toArray, List.set_cons_zero, List.set_cons_succ]
      refine wpAnyH_take (i := 21) (oi := { dst := some 32, op := Op.fieldAddr 159 (Operand.tmp 31) 1, type := 0, pos := "law.go:19", after := #[{ on := 20, ground := Ground.data }], guard := none }) (v := .pointer (some ⟨g, o + k * 35 + 32, none⟩)) rfl (by kernel_rfl) (by kernel_rfl) (by kernel_rfl) (fun _ _ _ h => h) (Or.inl ⟨by rfl, fun w' hw' => by (clear hw'; go_simp)⟩) hHeld ?_
      simp only [Act.put, List.setIfInBounds_toArray, List.set_cons_zero, List.set_cons_succ]
      refine wpAnyH_take (i := 22) (oi := { dst := some 33, op := Op.fieldAddr 157 (Operand.tmp 32) 2, type := 0, pos := "law.go:19", after := #[{ on := 21, ground := Ground.data }], guard := none }) (v := .pointer (some ⟨g, o + k * 35 + 32 + 2, none⟩)) rfl (by kernel_rfl) (by kernel_rfl) (by kernel_rfl) (fun _ _ _ h => h) (Or.inl ⟨by rfl, fun w' hw' => by (clear hw'; go_simp)⟩) hHeld ?_
      simp only [Act.put, List.setIfInBounds_toArray, List.set_cons_zero, List.set_cons_succ]
      refine wpAnyH_take (i := 23) (oi := { dst := some 34, op := Op.load 3 (Operand.tmp 33), type := 3, pos := "law.go:19", after := #[{ on := 22, ground := Ground.data }], guard := none }) (v := .int .i64 r) rfl (by kernel_rfl) (by kernel_rfl) (by kernel_rfl) (fun _ _ _ h => h) (Or.inl ⟨by rfl, fun w' hw' => by (have q := (HLP.out _ hw').2.2; clear hw'; go_simp)⟩) hHeld ?_
      simp only [Act.put, List.setIfInBounds_toArray, List.set_cons_zero, List.set_cons_succ]
      refine wpAnyH_take (i := 24) (oi := { dst := some 35, op := Op.build 51 #[(0, Operand.tmp 22), (1, Operand.tmp 28), (2, Operand.tmp 34)], type := 51, pos := "law.go:19", after := #[{ on := 11, ground := Ground.data }, { on := 17, ground := Ground.data }, { on := 23, ground := Ground.data }], guard := none }) (v := .agg #[.int .i64 p, .int .i64 q, .int .i64 r]) rfl (by kernel_rfl) (by kernel_rfl) (by kernel_rfl) (fun _ _ _ h => h) (Or.inl ⟨by rfl, fun w' hw' => by (clear hw'; go_simp)⟩) hHeld ?_
      simp only [Act.put, List.setIfInBounds_toArray, List.set_cons_zero, List.set_cons_succ]
      refine wpAnyH_take (i := 25) (oi := { dst := some 36, op := Op.build 155 #[(0, Operand.tmp 16), (1, Operand.tmp 35)], type := 155, pos := "law.go:19", after := #[{ on := 5, ground := Ground.data }, { on := 24, ground := Ground.data }], guard := none }) (v := .agg C.toArray) rfl (by kernel_rfl) (by kernel_rfl) (by kernel_rfl) (fun _ _ _ h => h) (yields_two (by rfl) 155 0 1 (.tmp 16) (.tmp 35) rfl (.agg bx.toArray) (.agg #[.int .i64 p, .int .i64 q, .int .i64 r]) rfl rfl _ HB1.out) hHeld ?_
      simp only [Act.put, List.setIfInBounds_toArray, List.set_cons_zero, List.set_cons_succ]
      refine wpAnyH_ready (rs := [26]) (by kernel_rfl) (by simp) ?_
      refine AllReadyH.cons (o := { dst := some 37, op := Op.buildSlice 81 1 #[(0, Operand.tmp 36)], type := 81, pos := "law.go:19", after := #[{ on := 25, ground := Ground.data }], guard := none }) rfl (fun K hK => ?_) AllReadyH.nil
      rw [if_pos (by rfl)]
      refine wp_valE (exec_sliceE 81 _ rfl (.agg C.toArray) _ rfl (HB2.out _)) ?_
      refine hK.out _ _ HKA.out (fun hh => ?_)
      clear hK K hHeld
      have hHeld := hh
      clear hh
      try simp only [Act.put, List.setIfInBounds_toArray, List.set_cons_zero, List.set_cons_succ]
      refine wpAnyH_ready (rs := [27]) (by kernel_rfl) (by simp) ?_
      refine AllReadyH.cons (o := { dst := some 38, op := Op.call { callee := Callee.builtin Builtin.append, args := #[Operand.tmp 11, Operand.tmp 37], argTypes := #[81, 81] }, type := 81, pos := "law.go:19", after := #[{ on := 0, ground := Ground.data }, { on := 26, ground := Ground.data }], guard := none }) rfl (fun K hK => ?_) AllReadyH.nil
      rw [if_pos (by rfl)]
      refine wp_valE (exec_appE _ _ 81 rfl (.slice ad k cap) (.slice (some ⟨wr.heap.size, 0, none⟩) 1 1) _ rfl rfl HAP.out) ?_
      refine hK.out _ _ HK2.out (fun hh => ?_)
      clear hK K hHeld
      have hHeld := hh
      clear hh
      try simp only [Act.put, List.setIfInBounds_toArray, List.set_cons_zero, List.set_cons_succ]
      refine wpAnyH_take (i := 28) (oi := { dst := some 3, op := Op.assign (Operand.tmp 38), type := 81, pos := "law.go:19", after := #[{ on := 27, ground := Ground.data }, { on := 27, ground := Ground.chain }, { on := 0, ground := Ground.phase }, { on := 1, ground := Ground.phase }, { on := 2, ground := Ground.phase }, { on := 3, ground := Ground.phase }, { on := 4, ground := Ground.phase }, { on := 5, ground := Ground.phase }, { on := 6, ground := Ground.phase }, { on := 7, ground := Ground.phase }, { on := 8, ground := Ground.phase }, { on := 9, ground := Ground.phase }, { on := 10, ground := Ground.phase }, { on := 11, ground := Ground.phase }, { on := 12, ground := Ground.phase }, { on := 13, ground := Ground.phase }, { on := 14, ground := Ground.phase }, { on := 15, ground := Ground.phase }, { on := 16, ground := Ground.phase }, { on := 17, ground := Ground.phase }, { on := 18, ground := Ground.phase }, { on := 19, ground := Ground.phase }, { on := 20, ground := Ground.phase }, { on := 21, ground := Ground.phase }, { on := 22, ground := Ground.phase }, { on := 23, ground := Ground.phase }, { on := 24, ground := Ground.phase }, { on := 25, ground := Ground.phase }, { on := 26, ground := Ground.phase }, { on := 27, ground := Ground.phase }], guard := none }) (v := .slice ad2 (k + 1) cap2) rfl (by kernel_rfl) (by kernel_rfl) (by kernel_rfl) (fun _ _ _ h => h) (Or.inl ⟨by rfl, fun w' hw' => by (clear hw'; go_simp)⟩) hHeld ?_
      simp only [Act.put, List.setIfInBounds_toArray, List.set_cons_zero, List.set_cons_succ]
      refine wpAnyH_done (by kernel_rfl) ?_ _
      clear hHeld
      go_wp2_with fail
      go_round
      case rel => exact ⟨k + 1, ad2, cap2, rfl, by first | rfl | go_num, by omega, HF.out⟩
      case measure => simp [intOf]; omega
    · have hltI : ¬ (k : Int) < (n : Int) := by omega
      have hkn' : k = n := by omega
      have HF : Hid (Mine w wr (.slice ad k cap) d) := by
        have := HS.out
        rw [hkn', ← HN.out, List.take_length] at this
        rw [Hid, hkn', ← HN.out]
        exact this
      clear hkn'
      go_wp2_with fail
      go_ret
      exact ⟨_, rfl, HF.out⟩
end Go.Proofs.YthmimipoooemjaaGreatDoor.Sg
end
