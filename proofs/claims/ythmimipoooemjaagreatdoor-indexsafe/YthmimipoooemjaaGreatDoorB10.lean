/- Of the proof: the texts SgStable, SgCompact, SgSort, one behind the other. -/
import Derived.Test.YthmimipoooemjaaGreatDoorAbb
import Derived.Test.YthmimipoooemjaaGreatDoorB9
import Derived.Stop.BytesEq
section
/-
  A row of entries is sorted, each name's entries in their order: slices.SortStableFunc by compare.
-/
namespace Go.Proofs.YthmimipoooemjaaGreatDoor.Sg
open Go.RowKit
open Stb (Stab Srt Mrg)
open Sim (hid Kp No)

theorem SymOk.mono {k K : Nat} (h : SymOk K) (hk : k ≤ K) : SymOk k := fun w g o L A B R N cap hl => h w g o L A B R N cap (by omega)
theorem sym_ok : ∀ K, SymOk K
  | 0 => fun w g o L A B R N cap hl => by omega
  | K + 1 => fun w g o L A B R N cap hl h hN hN2 sa sb hA hB => by
    have ih := sym_ok K
    have ha := List.length_pos_iff.2 hA
    have hb := List.length_pos_iff.2 hB
    by_cases h1 : A.length = 1
    · obtain ⟨x, rfl⟩ := List.length_eq_one_iff.1 h1
      exact symA_any w g o L B R x N cap h hN hN2 sb
    · by_cases h2 : B.length = 1
      · obtain ⟨x, rfl⟩ := List.length_eq_one_iff.1 h2
        exact symB_any w g o L A R x N cap h hN hN2 sa (by omega)
      · exact symC_any w g o L A B R N cap h hN hN2 sa sb (by omega) (by omega) (ih.mono (by omega))

/-- Sorted block by block. -/
def Bl (bs : Nat) (D : List Ent) : Prop := ∀ i, Srt ky lexB ((D.drop (i * bs)).take bs)
theorem Bl.nil (bs : Nat) : Bl bs [] := fun i => by simp [Srt]
theorem Bl.one {bs : Nat} {M : List Ent} (h : Srt ky lexB M) (hl : M.length ≤ bs) : Bl bs M := fun i => by
  by_cases h0 : i = 0
  · subst h0
    rw [Nat.zero_mul, List.drop_zero, List.take_of_length_le hl]
    exact h
  · have : bs ≤ i * bs := Nat.le_mul_of_pos_left bs (by omega)
    rw [List.drop_eq_nil_of_le (by omega)]
    simp [Srt]
theorem Bl.all {bs : Nat} {M : List Ent} (h : Bl bs M) (hl : M.length ≤ bs) : Srt ky lexB M := by
  have := h 0
  rwa [Nat.zero_mul, List.drop_zero, List.take_of_length_le hl] at this
theorem Bl.append {bs k : Nat} {P Q : List Ent} (hP : Bl bs P) (hQ : Bl bs Q) (hl : P.length = k * bs) : Bl bs (P ++ Q) := fun i => by
  by_cases hi : i < k
  · have h1 : (i + 1) * bs ≤ k * bs := Nat.mul_le_mul_right bs hi
    rw [Nat.add_mul, Nat.one_mul] at h1
    rw [List.drop_append_of_le_length (by omega), List.take_append_of_le_length (by rw [List.length_drop]; omega)]
    exact hP i
  · have h1 : i * bs = P.length + (i - k) * bs := by
      rw [hl, ← Nat.add_mul]
      congr 1
      omega
    rw [h1, List.drop_length_add_append]
    exact hQ (i - k)
theorem Bl.drop {bs k : Nat} {P Q : List Ent} (h : Bl bs (P ++ Q)) (hl : P.length = k * bs) : Bl bs Q := fun i => by
  have := h (k + i)
  rwa [Nat.add_mul, ← hl, List.drop_length_add_append] at this
theorem Bl.head {bs : Nat} {A Q : List Ent} (h : Bl bs (A ++ Q)) (hl : A.length = bs) : Srt ky lexB A ∧ Bl bs Q := by
  refine ⟨?_, h.drop (k := 1) (by omega)⟩
  have := h 0
  rwa [Nat.zero_mul, List.drop_zero, List.take_left' hl] at this

set_option maxHeartbeats 4000000 in
set_option maxRecDepth 100000 in
theorem stable_any (w : World) (g o : Nat) (X : List Ent) (N cap : Nat) (h : EOwn w g o X) (hN : X.length = N) (hl : N ≤ 1000000) :
    Calls Tryz.prog 174 #[.slice (some ⟨g, o, none⟩) N cap, .int .i64 (N : Int), cmpV] w fun e w' => e = .returned (.tuple #[]) ∧ ∃ X', Stab ky X X' ∧ Srt ky lexB X' ∧ At w g o X' w' := by
  have H0 := hid (At.start h)
  have HN := hid hN
  have HINS := hid (fun V (L B R : List Ent) (h : EOwn V g o (L ++ (B ++ R))) (hN : (L ++ (B ++ R)).length = N) => ins_any V g o L B R N cap h hN hl)
  have HSYM := hid (fun V (L A B R : List Ent) (h : EOwn V g o (L ++ (A ++ (B ++ R)))) (hN : (L ++ (A ++ (B ++ R))).length = N) => sym_ok (A.length + B.length + 1) V g o L A B R N cap (by omega) h hN hl)
  unfold cmpV at HINS HSYM ⊢
  clear h hN
  go_enter Tryz.func174, Tryz.ntmps174
  go_wp2_with fail
  go_loopw [7, 8] (fun v7 v8 wr => ∃ (a b : Nat), v7 = .int .i64 (a : Int) ∧ v8 = .int .i64 (b : Int) ∧ b = a + 20 ∧ a ≤ N ∧ Hid (∃ P Q k, P.length = a ∧ a = k * 20 ∧ (P ++ Q).length = N ∧ Bl 20 P ∧ Stab ky X (P ++ Q) ∧ At w g o (P ++ Q) wr)) (fun _ v8 _ => N + 20 - (intOf v8).toNat)
  case atStart => exact ⟨0, 20, rfl, rfl, rfl, Nat.zero_le _, [], X, 0, rfl, rfl, HN.out, Bl.nil _, Stab.refl _, H0.out⟩
  case round =>
    obtain ⟨a, b, rfl, rfl, hb, ha, HS⟩ := hrel
    have HB := hid hb
    clear hb
    by_cases hle : b ≤ N
    · have hleI : (b : Int) ≤ (N : Int) := by omega
      obtain ⟨P, Q, k, h1, h2, h3, h4, h5, h6⟩ := HS.out
      have hb := HB.out
      have hQl : 20 ≤ Q.length := by rw [List.length_append] at h3; omega
      have hQ : Q.take 20 ++ Q.drop 20 = Q := List.take_append_drop _ _
      have htl : (Q.take 20).length = 20 := by rw [List.length_take]; omega
      have hi := HINS.out wr P (Q.take 20) (Q.drop 20) (by rw [hQ]; exact h6.2) (by rw [hQ]; exact h3)
      rw [h1, htl, ← hb] at hi
      have HI := hid hi
      have HX := hid (And.intro h1 (And.intro h2 (And.intro h3 (And.intro h4 (And.intro h5 (And.intro h6 (And.intro hQ htl)))))))
      have hwb : IntKind.i64.wrap ((b : Int) + 20) = ((b + 20 : Nat) : Int) := by rw [IntKind.wrap_i64]; omega
      clear hi h1 h2 h3 h4 h5 h6 hQ htl hQl hb HS
      go_wp2_with fail
      refine HI.out.mono ?_
      rintro e w2 ⟨rfl, B', hst, hsr, hat⟩
      have HF : Hid (∃ P Q k, P.length = b ∧ b = k * 20 ∧ (P ++ Q).length = N ∧ Bl 20 P ∧ Stab ky X (P ++ Q) ∧ At w g o (P ++ Q) w2) := by
        obtain ⟨h1, h2, h3, h4, h5, h6, hQ, htl⟩ := HX.out
        have hb := HB.out
        have hBl : B'.length = 20 := by rw [hst.length, htl]
        have e : (P ++ B') ++ Q.drop 20 = P ++ (B' ++ Q.drop 20) := by simp
        refine ⟨P ++ B', Q.drop 20, k + 1, by rw [List.length_append]; omega, by omega, ?_, h4.append (Bl.one hsr (by omega)) (k := k) (by omega), ?_, ?_⟩
        · simp only [List.length_append, List.length_drop] at h3 ⊢
          omega
        · rw [e]
          refine h5.trans ?_
          have := (Stab.refl (key := ky) P).append (hst.append (Stab.refl (key := ky) (Q.drop 20)))
          rwa [hQ] at this
        · rw [e]
          exact h6.next hat
      clear hst hsr hat HX HI
      go_wp2_with fail
      go_round
      case rel => exact ⟨b, b + 20, rfl, by go_num, rfl, hle, HF⟩
      case measure => simp [intOf]; omega
    · have hleI : ¬ (b : Int) ≤ (N : Int) := by omega
      obtain ⟨P, Q, k, h1, h2, h3, h4, h5, h6⟩ := HS.out
      have hb := HB.out
      have hQl : a + Q.length = N := by rw [List.length_append] at h3; omega
      have hi := HINS.out wr P Q [] (by rw [List.append_nil]; exact h6.2) (by rw [List.append_nil]; exact h3)
      rw [h1, hQl] at hi
      have HI := hid hi
      have HX := hid (And.intro h1 (And.intro h2 (And.intro h3 (And.intro h4 (And.intro h5 (And.intro h6 hQl))))))
      clear hi h1 h2 h3 h4 h5 h6 hQl hb HS
      go_wp2_with fail
      refine HI.out.mono ?_
      rintro e w2 ⟨rfl, B', hst, hsr, hat⟩
      have HF : Hid (∃ D, D.length = N ∧ Bl 20 D ∧ Stab ky X D ∧ At w g o D w2) := by
        obtain ⟨h1, h2, h3, h4, h5, h6, hQl⟩ := HX.out
        have hb := HB.out
        rw [List.append_nil] at hat
        refine ⟨P ++ B', by rw [List.length_append, hst.length]; omega, h4.append (Bl.one hsr (by rw [hst.length]; omega)) (k := k) (by omega), h5.trans ((Stab.refl (key := ky) P).append hst), h6.next hat⟩
      clear hst hsr hat HX HI
      go_wp2_with fail
      go_loopw [6, 7, 8, 9] (fun v6 v7 v8 v9 wr => ∃ (bs : Nat), v6 = .int .i64 (bs : Int) ∧ 0 < bs ∧ bs ≤ 4000000 ∧ Hid (∃ D, D.length = N ∧ Bl bs D ∧ Stab ky X D ∧ At w g o D wr)) (fun v6 _ _ _ _ => N - (intOf v6).toNat)
      case atStart => exact ⟨20, rfl, by omega, by omega, HF.out⟩
      case round =>
        obtain ⟨bs, rfl, hbs0, hbs1, HD⟩ := hrel
        by_cases hlt : bs < N
        · have hltI : (bs : Int) < (N : Int) := by omega
          obtain ⟨b2, hb2⟩ : ∃ b2, 2 * bs = b2 := ⟨_, rfl⟩
          have hw2 : IntKind.i64.wrap (2 * (bs : Int)) = (b2 : Int) := by rw [IntKind.wrap_i64]; omega
          have hw2' : IntKind.i64.wrap ((bs : Int) * 2) = (b2 : Int) := by rw [IntKind.wrap_i64]; omega
          have HB2 := hid hb2
          have HD0 : Hid (∃ P Q k, P.length = 0 ∧ 0 = k * b2 ∧ (P ++ Q).length = N ∧ Bl b2 P ∧ Bl bs Q ∧ Stab ky X (P ++ Q) ∧ At w g o (P ++ Q) wr) := by
            obtain ⟨D, d1, d2, d3, d4⟩ := HD.out
            exact ⟨[], D, 0, rfl, by simp, d1, Bl.nil _, d2, d3, d4⟩
          have hb2N : b2 ≤ 2 * N := by omega
          clear hb2 HD HF
          go_wp2_with fail
          go_loopw [7, 8] (fun v7 v8 wr => ∃ (a b : Nat), v7 = .int .i64 (a : Int) ∧ v8 = .int .i64 (b : Int) ∧ b ≤ N + b2 ∧ a ≤ N ∧ Hid (b = a + b2 ∧ ∃ P Q k, P.length = a ∧ a = k * b2 ∧ (P ++ Q).length = N ∧ Bl b2 P ∧ Bl bs Q ∧ Stab ky X (P ++ Q) ∧ At w g o (P ++ Q) wr)) (fun _ v8 _ => N + b2 - (intOf v8).toNat)
          case atStart => exact ⟨0, b2, rfl, rfl, by omega, Nat.zero_le _, by omega, HD0.out⟩
          case round =>
            obtain ⟨a, b, rfl, rfl, hbN, haN, HS⟩ := hrel
            obtain ⟨m, hm⟩ : ∃ m, a + bs = m := ⟨_, rfl⟩
            have hwm : IntKind.i64.wrap ((a : Int) + (bs : Int)) = (m : Int) := by rw [IntKind.wrap_i64]; omega
            by_cases hle : b ≤ N
            · have hleI : (b : Int) ≤ (N : Int) := by omega
              obtain ⟨hb, P, Q, k, h1, h2, h3, h4, h5, h6, h7⟩ := HS.out
              have hbb := HB2.out
              have hQl : b2 ≤ Q.length := by rw [List.length_append] at h3; omega
              obtain ⟨A, B, R, hQ, hAl, hBl⟩ : ∃ A B R, Q = A ++ (B ++ R) ∧ A.length = bs ∧ B.length = bs := ⟨Q.take bs, (Q.drop bs).take bs, (Q.drop bs).drop bs, by rw [List.take_append_drop, List.take_append_drop], by rw [List.length_take]; omega, by rw [List.length_take, List.length_drop]; omega⟩
              subst hQ
              obtain ⟨sA, hq2⟩ := h5.head hAl
              obtain ⟨sB, hq3⟩ := hq2.head hBl
              have hi := HSYM.out wr P A B R h7.2 h3 sA sB (by intro e; rw [e] at hAl; simp at hAl; omega) (by intro e; rw [e] at hBl; simp at hBl; omega)
              rw [h1, hAl, hm, show m + B.length = b by omega] at hi
              have HI := hid hi
              have HX := hid (And.intro hb (And.intro h1 (And.intro h2 (And.intro h3 (And.intro h4 (And.intro hq3 (And.intro h6 (And.intro h7 (And.intro hAl hBl)))))))))
              obtain ⟨bn, hbn⟩ : ∃ bn, b + b2 = bn := ⟨_, rfl⟩
              have hwb : IntKind.i64.wrap ((b : Int) + (b2 : Int)) = (bn : Int) := by rw [IntKind.wrap_i64]; omega
              have HBN := hid hbn
              have hbn2 : bn ≤ N + b2 ∧ b < bn := by omega
              clear hi hb h1 h2 h3 h4 h5 h6 h7 sA sB hq2 hq3 hAl hBl hQl hbb hm hbn HS
              go_wp2_with fail
              refine HI.out.mono ?_
              rintro e w2 ⟨rfl, M, hM, hat⟩
              have HF : Hid (bn = b + b2 ∧ ∃ P Q k, P.length = b ∧ b = k * b2 ∧ (P ++ Q).length = N ∧ Bl b2 P ∧ Bl bs Q ∧ Stab ky X (P ++ Q) ∧ At w g o (P ++ Q) w2) := by
                obtain ⟨hb, h1, h2, h3, h4, hq3, h6, h7, hAl, hBl⟩ := HX.out
                have hbb := HB2.out
                have hMl : M.length = b2 := by rw [hM.1.length, List.length_append]; omega
                have e : (P ++ M) ++ R = P ++ (M ++ R) := by simp
                refine ⟨HBN.out.symm, P ++ M, R, k + 1, by rw [List.length_append]; omega, by rw [Nat.add_mul]; omega, ?_, h4.append (Bl.one hM.2 (by omega)) (k := k) (by omega), hq3, ?_, ?_⟩
                · simp only [List.length_append] at h3 ⊢
                  omega
                · rw [e]
                  refine h6.trans ?_
                  have := (Stab.refl (key := ky) P).append (hM.1.append (Stab.refl (key := ky) R))
                  simpa [List.append_assoc] using this
                · rw [e]
                  exact h7.next hat
              clear hM hat HX HI
              go_wp2_with fail
              go_round
              case rel => exact ⟨b, bn, rfl, rfl, hbn2.1, hle, HF⟩
              case measure => simp [intOf]; omega
            · have hleI : ¬ (b : Int) ≤ (N : Int) := by omega
              by_cases hmn : m < N
              · have hmnI : (m : Int) < (N : Int) := by omega
                obtain ⟨hb, P, Q, k, h1, h2, h3, h4, h5, h6, h7⟩ := HS.out
                have hbb := HB2.out
                have hQl : a + Q.length = N := by rw [List.length_append] at h3; omega
                obtain ⟨A, B, hQ, hAl, hBl⟩ : ∃ A B, Q = A ++ B ∧ A.length = bs ∧ B.length = N - m := ⟨Q.take bs, Q.drop bs, by rw [List.take_append_drop], by rw [List.length_take]; omega, by rw [List.length_drop]; omega⟩
                subst hQ
                obtain ⟨sA, hq2⟩ := h5.head hAl
                have sB := hq2.all (by omega)
                have hi := HSYM.out wr P A B [] (by rw [List.append_nil]; exact h7.2) (by rw [List.append_nil]; exact h3) sA sB (by intro e; rw [e] at hAl; simp at hAl; omega) (by intro e; rw [e] at hBl; simp at hBl; omega)
                rw [h1, hAl, hm, show m + B.length = N by omega] at hi
                have HI := hid hi
                have HX := hid (And.intro hb (And.intro h1 (And.intro h2 (And.intro h3 (And.intro h4 (And.intro h6 (And.intro h7 (And.intro hAl (And.intro hBl hm)))))))))
                clear hi hb h1 h2 h3 h4 h5 h6 h7 sA sB hq2 hAl hBl hQl hbb hm HS
                go_wp2_with fail
                refine HI.out.mono ?_
                rintro e w2 ⟨rfl, M, hM, hat⟩
                have HF : Hid (∃ D, D.length = N ∧ Bl b2 D ∧ Stab ky X D ∧ At w g o D w2) := by
                  obtain ⟨hb, h1, h2, h3, h4, h6, h7, hAl, hBl, hm⟩ := HX.out
                  have hbb := HB2.out
                  have hMl : M.length = A.length + B.length := by rw [hM.1.length, List.length_append]
                  rw [List.append_nil] at hat
                  refine ⟨P ++ M, by simp only [List.length_append] at h3 ⊢; omega, h4.append (Bl.one hM.2 (by omega)) (k := k) (by omega), h6.trans ((Stab.refl (key := ky) P).append hM.1), h7.next hat⟩
                have HB3 : Hid (bs < b2 ∧ b2 ≤ 4000000) := by have := HB2.out; rw [Hid]; omega
                clear hM hat HX HI
                go_wp2_with fail
                go_round
                case rel => exact ⟨b2, rfl, by have := HB3.out; omega, HB3.out.2, HF⟩
                case measure => simp [intOf]; have := HB3.out; omega
              · have hmnI : ¬ (m : Int) < (N : Int) := by omega
                have HF : Hid (∃ D, D.length = N ∧ Bl b2 D ∧ Stab ky X D ∧ At w g o D wr) := by
                  obtain ⟨hb, P, Q, k, h1, h2, h3, h4, h5, h6, h7⟩ := HS.out
                  have hbb := HB2.out
                  have hQl : a + Q.length = N := by rw [List.length_append] at h3; omega
                  exact ⟨P ++ Q, h3, h4.append (Bl.one (h5.all (by omega)) (by omega)) (k := k) (by omega), h6, h7⟩
                have HB3 : Hid (bs < b2 ∧ b2 ≤ 4000000) := by have := HB2.out; rw [Hid]; omega
                clear hm HS
                go_wp2_with fail
                go_round
                case rel => exact ⟨b2, rfl, by have := HB3.out; omega, HB3.out.2, HF⟩
                case measure => simp [intOf]; have := HB3.out; omega
        · have hltI : ¬ (bs : Int) < (N : Int) := by omega
          go_wp2_with fail
          go_end0
          obtain ⟨D, d1, d2, d3, d4⟩ := HD.out
          exact ⟨rfl, D, d3, d2.all (by omega), d4⟩

theorem sortStable_any (w : World) (g o : Nat) (X : List Ent) (N cap : Nat) (h : EOwn w g o X) (hN : X.length = N) (hl : N ≤ 1000000) :
    Calls Tryz.prog 134 #[.slice (some ⟨g, o, none⟩) N cap, cmpV] w fun e w' => e = .returned (.tuple #[]) ∧ ∃ X', Stab ky X X' ∧ Srt ky lexB X' ∧ At w g o X' w' := by
  have HS := hid (stable_any w g o X N cap h hN hl)
  unfold cmpV at HS ⊢
  clear h hN
  go_enter Tryz.func134, Tryz.ntmps134
  go_wp2_with fail
  refine HS.out.mono ?_
  rintro e w2 ⟨rfl, h2⟩
  have H2 := hid h2
  clear h2
  go_wp2_with fail
  go_end0
  exact ⟨rfl, H2.out⟩
end Go.Proofs.YthmimipoooemjaaGreatDoor.Sg
end

section
/-
  Of entries that follow one another with one name the first stays: slices.CompactFunc by namesake.
-/
namespace Go.Proofs.YthmimipoooemjaaGreatDoor.Sg
open Go.RowKit
open Stb (Stab Srt Mrg)
open Sim (hid Kp No)

theorem cells_b8 (l : List Int) (h : ∀ x ∈ l, 0 ≤ x ∧ x ≤ 255) : (l.map fun x => x.toNat.toUInt8).map Extern.Stop.cell = b8 l := by
  unfold b8
  rw [List.map_map]
  apply List.map_congr_left
  intro x hx
  have := h x hx
  simp [Extern.Stop.cell]
  omega
theorem map_inj8 : ∀ (xs ys : List Int), (∀ x ∈ xs, 0 ≤ x ∧ x ≤ 255) → (∀ x ∈ ys, 0 ≤ x ∧ x ≤ 255) → (xs.map fun x => x.toNat.toUInt8) = (ys.map fun x => x.toNat.toUInt8) → xs = ys
  | [], [], _, _, _ => rfl
  | [], _ :: _, _, _, h => by simp at h
  | _ :: _, [], _, _, h => by simp at h
  | x :: xs, y :: ys, h1, h2, h => by
    simp only [List.map_cons, List.cons.injEq] at h
    have hx := h1 x (by simp)
    have hy := h2 y (by simp)
    have e := congrArg UInt8.toNat h.1
    simp at e
    have e2 : x = y := by omega
    rw [e2, map_inj8 xs ys (fun z hz => h1 z (by simp [hz])) (fun z hz => h2 z (by simp [hz])) h.2]
/-- Two names. -/
theorem eqHash (xs ys : List Int) (hx : xs.length = 32) (hy : ys.length = 32) (bx : ∀ x ∈ xs, 0 ≤ x ∧ x ≤ 255) (bY : ∀ x ∈ ys, 0 ≤ x ∧ x ≤ 255) (w : World) :
    (Op.equalIn 10000 53 (.agg (b8 xs).toArray) (.agg (b8 ys).toArray)).run Tryz.prog w = .ok (decide (xs = ys)) w := by
  have h := run_equalIn_bytes (P := Tryz.prog) w 9998 53 5 32 Tryz.underlying53 Tryz.underlying5 Tryz.sizeOf5 (xs.map fun x => x.toNat.toUInt8) (ys.map fun x => x.toNat.toUInt8) (by simpa using hx) (by simpa using hy)
  rw [cells_b8 xs bx, cells_b8 ys bY] at h
  have e : ((xs.map fun x => x.toNat.toUInt8) == (ys.map fun x => x.toNat.toUInt8)) = decide (xs = ys) := by
    rw [Bool.eq_iff_iff]
    simp only [beq_iff_eq, decide_eq_true_eq]
    exact ⟨map_inj8 xs ys bx bY, fun e => by rw [e]⟩
  rw [e] at h
  exact h

set_option maxHeartbeats 1000000 in
set_option maxRecDepth 100000 in
theorem namesake_any (x y : Ent) (w : World) (hx : EOk x) (hy : EOk y) :
    Calls Tryz.prog 136 #[.agg (entC x).toArray, .agg (entC y).toArray] w fun e w' => e = .returned (.bool (decide (x.1 = y.1))) ∧ Below w.heap.size w w' := by
  have hq := fun W => eqHash x.1 y.1 hx.1 hy.1 hx.2 hy.2 W
  have HR : Hid (∀ V, Below (w.heap.size + 2) ((w.alloc (.cells (entC x).toArray 155)).alloc (.cells (entC y).toArray 155)) V → V.rangeAt w.heap.size 0 (b8 x.1) ∧ V.rangeAt (w.heap.size + 1) 0 (b8 y.1)) := fun V hV => by
    have h1 := rng_name (World.rangeAt_alloc (rng_new w (entC x) 155) (.cells (entC y).toArray 155))
    have h2 := rng_name (rng_new (w.alloc (.cells (entC x).toArray 155)) (entC y) 155)
    have e : (w.alloc (.cells (entC x).toArray 155)).heap.size = w.heap.size + 1 := by simp
    rw [e] at h2
    exact ⟨fun j v hv => (hV.cell (p := ⟨w.heap.size, _, none⟩) (by show w.heap.size < _; omega)).trans (h1 j v hv), fun j v hv => (hV.cell (p := ⟨w.heap.size + 1, _, none⟩) (by show w.heap.size + 1 < _; omega)).trans (h2 j v hv)⟩
  have HI1 : Hid ((Tryz.prog.info? 53).map (·.size) = some (b8 x.1).length) := by rw [Hid, b8_length, hx.1]; exact infH
  have HI2 : Hid ((Tryz.prog.info? 53).map (·.size) = some (b8 y.1).length) := by rw [Hid, b8_length, hy.1]; exact infH
  generalize entC x = X at *
  generalize entC y = Y at *
  generalize b8 x.1 = bx at *
  generalize b8 y.1 = bY at *
  generalize decide (x.1 = y.1) = z at *
  clear hx hy
  have HBB : Hid (Below w.heap.size w ((w.alloc (.cells X.toArray 155)).alloc (.cells Y.toArray 155))) := ((Below.refl _ _).alloc (Nat.le_refl _) _).alloc (by simp) _
  go_enter Tryz.func136, Tryz.ntmps136
  generalize hW : (w.alloc (.cells X.toArray 155)).alloc (.cells Y.toArray 155) = W at *
  go_wp2_with (first
    | (refine wpList_load_mid (by rfl) 53 _ (by rfl) w.heap.size 0 (by rfl) bx _ (HR.out _ (Below.refl _ _)).1 Tryz.underlying53 rfl HI1.out ?_)
    | (refine wpList_load_mid (by rfl) 53 _ (by rfl) (w.heap.size + 1) 0 (by rfl) bY _ (HR.out _ (Below.refl _ _)).2 Tryz.underlying53 rfl HI2.out ?_))
  go_ret
  exact ⟨rfl, HBB.out⟩

/-- Those of which the one ahead has another name. -/
def kept : Ent → List Ent → List Ent
  | _, [] => []
  | p, y :: r => if y.1 = p.1 then kept y r else y :: kept y r
def cmpct : List Ent → List Ent
  | [] => []
  | x :: r => x :: kept x r
theorem kept_snoc : ∀ (p : Ent) (r : List Ent) (y : Ent), kept p (r ++ [y]) = kept p r ++ (if y.1 = ((p :: r).getLast (by simp)).1 then [] else [y])
  | p, [], y => by
    rw [List.nil_append, kept, kept, kept, List.nil_append]
    by_cases h : y.1 = p.1
    · rw [if_pos h, if_pos (by simpa using h)]
    · rw [if_neg h, if_neg (by simpa using h)]
  | p, z :: r, y => by
    have ih := kept_snoc z r y
    have e : ((p :: z :: r).getLast (by simp)) = ((z :: r).getLast (by simp)) := by rw [List.getLast_cons (by simp)]
    rw [List.cons_append, kept, kept, ih, e]
    split <;> simp
/-- One more is looked at. -/
theorem cmpct_take {d : List Ent} {k : Nat} {x y : Ent} (hk : 0 < k) (hx : d[k - 1]? = some x) (hy : d[k]? = some y) : cmpct (d.take (k + 1)) = cmpct (d.take k) ++ (if y.1 = x.1 then [] else [y]) := by
  cases d with
  | nil => simp at hy
  | cons z d =>
    obtain ⟨j, rfl⟩ : ∃ j, k = j + 1 := ⟨k - 1, by omega⟩
    have hy' : d[j]? = some y := by simpa using hy
    have e : (z :: d).take (j + 1 + 1) = z :: (d.take j ++ [y]) := by
      rw [List.take_succ_cons, List.take_add_one, hy']
      rfl
    have e2 : (z :: d).take (j + 1) = z :: d.take j := by rw [List.take_succ_cons]
    have hl : ((z :: d.take j).getLast (by simp)) = x := by
      have h1 : (z :: d).take (j + 1) = z :: d.take j := e2
      have hjl : j + 1 ≤ (z :: d).length := by have := (List.getElem?_eq_some_iff.1 hy).1; omega
      have h2 : (z :: d.take j)[j]? = some x := by rw [← e2, List.getElem?_take_of_lt (by omega)]; simpa using hx
      have h3 : (z :: d.take j).length = j + 1 := by rw [← e2, List.length_take]; omega
      rw [List.getLast_eq_getElem]
      have h4 := (List.getElem?_eq_some_iff.1 h2).2
      simp only [h3, Nat.add_sub_cancel]
      exact h4
    rw [e, e2, cmpct, cmpct, kept_snoc, hl]
    simp
theorem kept_length : ∀ (p : Ent) (r : List Ent), (kept p r).length ≤ r.length
  | _, [] => Nat.le_refl _
  | p, y :: r => by
    have := kept_length y r
    rw [kept]
    split
    · simp; omega
    · simp; omega
theorem cmpct_length (d : List Ent) : (cmpct d).length ≤ d.length := by
  cases d with
  | nil => exact Nat.le_refl _
  | cons x r => have := kept_length x r; simp [cmpct]; omega
theorem EOwn.front {w : World} {g o : Nat} {d : List Ent} (h : EOwn w g o d) (k : Nat) : EOwn w g o (d.take k) := by
  refine ⟨⟨h.1.1, fun i e hi => ?_⟩, fun i hi => h.2 i (by rw [List.length_take] at hi; omega)⟩
  have hik : i < k := by have := (List.getElem?_eq_some_iff.1 hi).1; rw [List.length_take] at this; omega
  rw [List.getElem?_take_of_lt hik] at hi
  exact h.1.2 i e hi
/-- The ones behind the first k are written over, whatever with. -/
theorem EOwn.cleared {w : World} {g o : Nat} {d : List Ent} (h : EOwn w g o d) (k : Nat) (Z : List Value) : EOwn (w.setCells g (o + k * 35) Z) g o (d.take k) := by
  have hf := h.front k
  refine ⟨⟨Nat.lt_of_lt_of_le h.1.1 (setCells_kp w g _ _).size, fun i e hi => ?_⟩, fun i hi => World.there_setCells (hf.2 i hi) _ _ _⟩
  have hik : i < k := by have := (List.getElem?_eq_some_iff.1 hi).1; rw [List.length_take] at this; omega
  obtain ⟨h1, h2⟩ := hf.1.2 i e hi
  refine ⟨h1, World.rangeAt_setCells_apart h2 _ _ _ (.inr (.inl ?_))⟩
  rw [entC_length h1]
  omega
def zE : List Value := entC (List.replicate 32 0, 0, 0, 0)
theorem zero48 (w : World) : (zeroValue 155).run Tryz.prog w = .ok (.agg zE.toArray) w := by kernel_rfl
theorem run_clear_ents (w : World) (g o n c : Nat) (ty : TypeId) (hn : n ≠ 0) (ht : ∀ i, i < n → w.there g (o + i * 35) 35) :
    ∃ Z : List Value, (Builtin.clear_ #[81] ty #[.slice (some ⟨g, o, none⟩) n c]).run Tryz.prog w = .ok (.tuple #[]) (w.setCells g o Z) := by
  obtain ⟨Z, hZ⟩ : ∃ Z, Builtin.zeroCells zE.toArray n = Z := ⟨_, rfl⟩
  have hzs : zE.toArray.size = 35 := rfl
  have hzl : Z.size = n * 35 := by rw [← hZ]; simp [Builtin.zeroCells, hzs]
  have hz1 : ∀ v ∈ Z.toList, v.oneCell' = true := by
    intro v hv
    rw [← hZ] at hv
    simp only [Builtin.zeroCells, Array.toList_map, List.mem_map] at hv
    obtain ⟨i, _, rfl⟩ := hv
    have hi : i % zE.toArray.size < zE.toArray.size := Nat.mod_lt _ (by rw [hzs]; omega)
    rw [getElem!_pos zE.toArray _ hi]
    have hzone : ∀ v ∈ zE, v.oneCell' = true := entC_one _
    exact hzone _ (by simp)
  have key : ∀ j, j < n * 35 → (w.cell? ⟨g, o + j, none⟩).isSome = true ∧ w.frozen? ⟨g, o + j, none⟩ = false := fun j hj => by
    have h1 := ht (j / 35) (by omega) (j % 35) (Nat.mod_lt _ (by omega))
    rwa [show o + j / 35 * 35 + j % 35 = o + j by omega] at h1
  refine ⟨Z.toList, ?_⟩
  have hst := run_storeCells_cells (P := Tryz.prog) g o Z.toList 0 w (fun j hj => by simpa using (key j (by simpa [hzl] using hj)).1) (fun j hj => by simpa using (key j (by simpa [hzl] using hj)).2) hz1
  simp only [Nat.add_zero] at hst
  obtain ⟨m, rfl⟩ : ∃ m, n = m + 1 := ⟨n - 1, by omega⟩
  have hc : (Value.agg zE.toArray).cells = zE.toArray := rfl
  simp only [Builtin.clear_, run_underlying Tryz.underlying81, Sem.run_bind, Result.andThen_ok, List.getElem?_toArray, List.getElem?_cons_zero, zero48, hc, hZ, hst, Sem.run_pure]

set_option maxHeartbeats 4000000 in
set_option maxRecDepth 100000 in
theorem compact_any (w : World) (g o : Nat) (d : List Ent) (N cap : Nat) (h : EOwn w g o d) (hN : d.length = N) (hl : N ≤ 1000000) (h0 : 0 < N) (hcap : N ≤ cap) (hcap2 : cap ≤ maxLen) :
    Calls Tryz.prog 135 #[.slice (some ⟨g, o, none⟩) N cap, .func (.func 136) #[] #[]] w fun e w' => e = .returned (.slice (some ⟨g, o, none⟩) (cmpct d).length cap) ∧ At w g o (cmpct d) w' := by
  have H0 := hid (At.start h)
  have HN := hid hN
  have HOK := hid h.1.ok
  unfold maxLen at hcap2
  clear h hN
  by_cases h1 : N < 2
  · have h1I : (N : Int) < 2 := by omega
    have HE : Hid (cmpct d = d) := by
      have hl := HN.out
      cases d with
      | nil => rfl
      | cons x r =>
        cases r with
        | nil => rfl
        | cons y r => simp at hl; omega
    go_enter Tryz.func135, Tryz.ntmps135
    go_wp2_with fail
    go_ret
    rw [HE.out, HN.out]
    exact ⟨rfl, H0.out⟩
  · have h1I : ¬ (N : Int) < 2 := by omega
    have HE1 : Hid (cmpct (d.take 1) = d.take 1) := by
      have hl := HN.out
      cases d with
      | nil => rfl
      | cons x r => rfl
    go_enter Tryz.func135, Tryz.ntmps135
    go_wp2_with fail
    go_loopw [5] (fun v5 wr => ∃ k : Nat, v5 = .int .i64 (k : Int) ∧ 0 < k ∧ k ≤ N ∧ Hid (cmpct (d.take k) = d.take k ∧ At w g o d wr)) (fun v5 _ => N - (intOf v5).toNat)
    case atStart => exact ⟨1, rfl, by omega, by omega, HE1.out, H0.out⟩
    case round =>
      obtain ⟨k, rfl, hk0, hkN, HS⟩ := hrel
      by_cases hlt : k < N
      · have hltI : (k : Int) < (N : Int) := by omega
        obtain ⟨hc, hA⟩ := HS.out
        have hdl := HN.out
        obtain ⟨x, hx⟩ : ∃ x, d[k]? = some x := ⟨_, List.getElem?_eq_getElem (by omega)⟩
        obtain ⟨y, hy⟩ : ∃ y, d[k - 1]? = some y := ⟨_, List.getElem?_eq_getElem (by omega)⟩
        have hct := cmpct_take hk0 hy hx
        obtain ⟨k1, hk1⟩ : ∃ k1, k - 1 = k1 := ⟨_, rfl⟩
        rw [hk1] at hy
        have hwk : IntKind.i64.wrap ((k : Int) - 1) = (k1 : Int) := by rw [IntKind.wrap_i64]; omega
        have hk1N : (k1 : Int) < (N : Int) := by omega
        have hxok := HOK.out x (List.mem_of_getElem? hx)
        have hyok := HOK.out y (List.mem_of_getElem? hy)
        have HCMP := hid (fun V => namesake_any x y V hxok hyok)
        have Hx : Hid (∀ V, Kp No wr V → V.rangeAt g (o + k * 35) (entC x)) := fun V hV => ((hA.kept hV).range hx).2
        have Hy : Hid (∀ V, Kp No wr V → V.rangeAt g (o + k1 * 35) (entC y)) := fun V hV => ((hA.kept hV).range hy).2
        have HIx := hid (inf hxok)
        have HIy := hid (inf hyok)
        have HAA := hid hA
        have HCT := hid (And.intro hc (And.intro hct hx))
        obtain ⟨cx, hcx⟩ : ∃ cx, entC x = cx := ⟨_, rfl⟩
        obtain ⟨cy, hcy⟩ : ∃ cy, entC y = cy := ⟨_, rfl⟩
        rw [hcx, hcy] at HCMP
        rw [hcx] at Hx HIx
        rw [hcy] at Hy HIy
        have hk0I : (1 : Int) ≤ (k : Int) := by omega
        clear hcx hcy hc hA hx hy hct hk1 hxok hyok hdl HS
        go_wp2_with fail
        by_cases hxy : x.1 = y.1
        · rw [decide_eq_true hxy] at HCMP
          have HC2 : Hid (d.take k = cmpct (d.take (k + 1))) := by
            obtain ⟨h1, h2, _⟩ := HCT.out
            rw [Hid, h2, if_pos hxy, List.append_nil, h1]
          clear hxy HCT
          refine wp_region_held_drew (S := fun V => Kp No wr V) (by kernel_rfl) ((Kp.refl _ _).drew) (fun hHeld => ?_)
          refine wpAnyH_take (i := 0) (oi := ⟨some 18, .move (.tmp 1), 226, "slices.go:401", #[], none⟩) (v := .func (.func 136) #[] #[]) rfl (by kernel_rfl) (by kernel_rfl) (by kernel_rfl) (fun _ _ _ h => h) (Or.inl ⟨by rfl, fun w' hw' => by (clear hw'; go_simp)⟩) hHeld ?_
          simp only [Act.put, sjA, sjB, sjC]
          refine wpAnyH_take (i := 1) (oi := ⟨some 19, .move (.tmp 0), 81, "slices.go:401", #[], none⟩) (v := .slice (some ⟨g, o, none⟩) N cap) rfl (by kernel_rfl) (by kernel_rfl) (by kernel_rfl) (fun _ _ _ h => h) (Or.inl ⟨by rfl, fun w' hw' => by (clear hw'; go_simp)⟩) hHeld ?_
          simp only [Act.put, sjA, sjB, sjC]
          refine wpAnyH_take (i := 2) (oi := ⟨some 20, .move (.tmp 5), 3, "slices.go:401", #[], none⟩) (v := .int .i64 (k : Int)) rfl (by kernel_rfl) (by kernel_rfl) (by kernel_rfl) (fun _ _ _ h => h) (Or.inl ⟨by rfl, fun w' hw' => by (clear hw'; go_simp)⟩) hHeld ?_
          simp only [Act.put, sjA, sjB, sjC]
          refine wpAnyH_take (i := 3) (oi := ⟨some 21, .indexAddr 81 (.tmp 19) (.tmp 20), 0, "slices.go:401", #[⟨1, .data⟩, ⟨2, .data⟩], none⟩) (v := .pointer (some ⟨g, o + k * 35, none⟩)) rfl (by kernel_rfl) (by kernel_rfl) (by kernel_rfl) (fun _ _ _ h => h) (Or.inl ⟨by rfl, fun w' hw' => by (clear hw'; go_simp)⟩) hHeld ?_
          simp only [Act.put, sjA, sjB, sjC]
          refine wpAnyH_take (i := 4) (oi := ⟨some 22, .load 155 (.tmp 21), 155, "slices.go:401", #[⟨3, .data⟩], none⟩) (v := .agg cx.toArray) rfl (by kernel_rfl) (by kernel_rfl) (by kernel_rfl) (fun _ _ _ h => h) (yieldsIf_load_mid (by rfl) _ _ rfl g (o + k * 35) rfl cx _ (Hx.out) Tryz.underlying155 rfl HIx.out) hHeld ?_
          simp only [Act.put, sjA, sjB, sjC]
          refine wpAnyH_take (i := 5) (oi := ⟨some 23, .move (.tmp 0), 81, "slices.go:401", #[], none⟩) (v := .slice (some ⟨g, o, none⟩) N cap) rfl (by kernel_rfl) (by kernel_rfl) (by kernel_rfl) (fun _ _ _ h => h) (Or.inl ⟨by rfl, fun w' hw' => by (clear hw'; go_simp)⟩) hHeld ?_
          simp only [Act.put, sjA, sjB, sjC]
          refine wpAnyH_take (i := 6) (oi := ⟨some 24, .move (.tmp 5), 3, "slices.go:401", #[], none⟩) (v := .int .i64 (k : Int)) rfl (by kernel_rfl) (by kernel_rfl) (by kernel_rfl) (fun _ _ _ h => h) (Or.inl ⟨by rfl, fun w' hw' => by (clear hw'; go_simp)⟩) hHeld ?_
          simp only [Act.put, sjA, sjB, sjC]
          refine wpAnyH_take (i := 7) (oi := ⟨some 25, .binOp BinOp.sub 3 (.tmp 24) (Operand.const (Value.int IntKind.i64 1)) 3, 3, "slices.go:401", #[⟨6, .data⟩], none⟩) (v := .int .i64 (k1 : Int)) rfl (by kernel_rfl) (by kernel_rfl) (by kernel_rfl) (fun _ _ _ h => h) (Or.inl ⟨by rfl, fun w' hw' => by (clear hw'; go_simp)⟩) hHeld ?_
          simp only [Act.put, sjA, sjB, sjC]
          refine wpAnyH_take (i := 8) (oi := ⟨some 26, .indexAddr 81 (.tmp 23) (.tmp 25), 0, "slices.go:401", #[⟨5, .data⟩, ⟨7, .data⟩], none⟩) (v := .pointer (some ⟨g, o + k1 * 35, none⟩)) rfl (by kernel_rfl) (by kernel_rfl) (by kernel_rfl) (fun _ _ _ h => h) (Or.inl ⟨by rfl, fun w' hw' => by (clear hw'; go_simp)⟩) hHeld ?_
          simp only [Act.put, sjA, sjB, sjC]
          refine wpAnyH_take (i := 9) (oi := ⟨some 27, .load 155 (.tmp 26), 155, "slices.go:401", #[⟨8, .data⟩], none⟩) (v := .agg cy.toArray) rfl (by kernel_rfl) (by kernel_rfl) (by kernel_rfl) (fun _ _ _ h => h) (yieldsIf_load_mid (by rfl) _ _ rfl g (o + k1 * 35) rfl cy _ (Hy.out) Tryz.underlying155 rfl HIy.out) hHeld ?_
          simp only [Act.put, sjA, sjB, sjC]
          refine wpAnyH_ready (rs := [10]) (by kernel_rfl) (by simp) ?_
          refine AllReadyH.cons (o := ⟨some 28, .call { callee := Callee.value (.tmp 18), args := #[.tmp 22, .tmp 27], argTypes := #[155, 155] }, 4, "slices.go:401", #[⟨0, .data⟩, ⟨4, .data⟩, ⟨9, .data⟩], none⟩) rfl (fun K hK => ?_) AllReadyH.nil
          go_simp
          refine (HCMP.out _).mono ?_
          rintro e w3 ⟨rfl, h3⟩
          have HK3 : Hid (Kp No wr w3) := (Kp.refl No wr).drew.andNone (Kp.below h3)
          clear h3
          go_wp2_with fail
          refine hK.out _ _ (HK3.out) (fun hh => ?_)
          clear hK K hHeld
          have hHeld := hh
          clear hh
          try simp only [Act.put, sjA, sjB, sjC]
          refine wpAnyH_done (by kernel_rfl) ?_ _
          have HA3 := hid (HAA.out.kept HK3.out)
          clear hHeld HK3 HCMP Hx Hy HIx HIy HAA
          have HD0 : Hid (∃ D, D.length = N ∧ D.take k = cmpct (d.take (k + 1)) ∧ D.drop (k + 1 - 1) = d.drop (k + 1 - 1) ∧ At w g o D w3) := ⟨d, HN.out, HC2.out, rfl, HA3.out⟩
          go_wp2_with fail
          generalize hM : N - k = M
          generalize ho2 : o + k * 35 = o2
          have HMO := hid (And.intro hM ho2)
          have hM0 : 0 < M := by omega
          have hMle : M ≤ N := by omega
          have hMN : k + M = N := by omega
          have HKM := hid hMN
          clear hM ho2 hMN HC2 HA3
          go_loopw [5, 7] (fun v5 v7 wr => ∃ (q j : Nat), v5 = .int .i64 (q : Int) ∧ v7 = .int .i64 (j : Int) ∧ 0 < q ∧ 1 ≤ j ∧ j ≤ M ∧ q < N ∧ Hid (q < k + j ∧ ∃ D, D.length = N ∧ D.take q = cmpct (d.take (k + j)) ∧ D.drop (k + j - 1) = d.drop (k + j - 1) ∧ At w g o D wr)) (fun _ v7 _ => M - (intOf v7).toNat)
          case atStart => exact ⟨k, 1, rfl, rfl, hk0, Nat.le_refl _, hM0, hlt, by omega, HD0.out⟩
          case round =>
            obtain ⟨q, j, rfl, rfl, hq0, hj1', hjM, hqN, HT⟩ := hrel
            by_cases hjl : j < M
            · have hjlI : (j : Int) < (M : Int) := by omega
              obtain ⟨hqk, D, hDl, hDt, hDd, hA⟩ := HT.out
              have hkm := HKM.out
              have hmo := HMO.out
              have hdl := HN.out
              obtain ⟨x, hx⟩ : ∃ x, d[k + j]? = some x := ⟨_, List.getElem?_eq_getElem (by omega)⟩
              obtain ⟨y, hy⟩ : ∃ y, d[k + j - 1]? = some y := ⟨_, List.getElem?_eq_getElem (by omega)⟩
              have hDx : D[k + j]? = some x := by
                have e := congrArg (fun l => l[1]?) hDd
                simp only [List.getElem?_drop] at e
                rwa [show k + j - 1 + 1 = k + j by omega, hx] at e
              have hDy : D[k + j - 1]? = some y := by
                have e := congrArg (fun l => l[0]?) hDd
                simp only [List.getElem?_drop, Nat.add_zero] at e
                rwa [hy] at e
              have hct := cmpct_take (k := k + j) (by omega) hy hx
              obtain ⟨j1, hj1⟩ : ∃ j1, j - 1 = j1 := ⟨_, rfl⟩
              have hwj : IntKind.i64.wrap ((j : Int) - 1) = (j1 : Int) := by rw [IntKind.wrap_i64]; omega
              have hj1M : (j1 : Int) < (M : Int) := by omega
              have hxok := HOK.out x (List.mem_of_getElem? hx)
              have hyok := HOK.out y (List.mem_of_getElem? hy)
              have HCMP := hid (fun V => namesake_any x y V hxok hyok)
              have Hx : Hid (∀ V, Kp No wr V → V.rangeAt g (o2 + j * 35) (entC x)) := fun V hV => by
                have := ((hA.kept hV).range hDx).2
                rwa [show o + (k + j) * 35 = o2 + j * 35 by omega] at this
              have Hy : Hid (∀ V, Kp No wr V → V.rangeAt g (o2 + j1 * 35) (entC y)) := fun V hV => by
                have := ((hA.kept hV).range hDy).2
                rwa [show o + (k + j - 1) * 35 = o2 + j1 * 35 by omega] at this
              have HIx := hid (inf hxok)
              have HIy := hid (inf hyok)
              have HAx := hid (infA hxok)
              have HOx := hid (all_oneCell_toArray (entC_one x))
              have HAA := hid hA
              have HYES : Hid (x.1 = y.1 → ∀ V, Kp No wr V → q < k + (j + 1) ∧ ∃ D, D.length = N ∧ D.take q = cmpct (d.take (k + (j + 1))) ∧ D.drop (k + (j + 1) - 1) = d.drop (k + (j + 1) - 1) ∧ At w g o D V) := fun e V hV => by
                refine ⟨by omega, D, hDl, ?_, ?_, hA.kept hV⟩
                · rw [show k + (j + 1) = k + j + 1 by omega, hct, if_pos e, List.append_nil]; exact hDt
                · rw [show k + (j + 1) - 1 = (k + j - 1) + 1 by omega, ← List.drop_drop, ← List.drop_drop, hDd]
              have HNO : Hid (x.1 ≠ y.1 → ∀ V, Kp No wr V → V.there g (o + q * 35) (entC x).toArray.size ∧ (q + 1 < k + (j + 1) ∧ ∃ D, D.length = N ∧ D.take (q + 1) = cmpct (d.take (k + (j + 1))) ∧ D.drop (k + (j + 1) - 1) = d.drop (k + (j + 1) - 1) ∧ At w g o D (V.setCells g (o + q * 35) (entC x)))) := fun e V hV => by
                have hAV := hA.kept hV
                refine ⟨hAV.2.there (by omega) hxok, by omega, D.set q x, by rw [List.length_set]; exact hDl, ?_, ?_, hAV.set (by omega) hxok⟩
                · have hqD : q < D.length := by omega
                  rw [show k + (j + 1) = k + j + 1 by omega, hct, if_neg e, ← hDt, List.take_add_one, List.getElem?_set_self hqD, List.take_set_of_le (Nat.le_refl _)]
                  rfl
                · rw [show k + (j + 1) - 1 = (k + j - 1) + 1 by omega, List.drop_set_of_lt (by omega), ← List.drop_drop, ← List.drop_drop, hDd]
              obtain ⟨cx, hcx⟩ : ∃ cx, entC x = cx := ⟨_, rfl⟩
              obtain ⟨cy, hcy⟩ : ∃ cy, entC y = cy := ⟨_, rfl⟩
              rw [hcx, hcy] at HCMP
              rw [hcx] at Hx HIx HAx HOx HNO
              rw [hcy] at Hy HIy
              have hj0I : (1 : Int) ≤ (j : Int) := by omega
              have hqI : (q : Int) < (N : Int) := by omega
              have hwq : IntKind.i64.wrap ((q : Int) + 1) = ((q + 1 : Nat) : Int) := by rw [IntKind.wrap_i64]; omega
              have HQN : Hid (q + 1 < N) := by rw [Hid]; omega
              clear hcx hcy hqk hDl hDt hDd hA hkm hmo hdl hx hy hDx hDy hct hj1 hxok hyok HT
              go_wp2_with fail
              by_cases hxy : x.1 = y.1
              · rw [decide_eq_true hxy] at HCMP
                have HY2 := hid (HYES.out hxy)
                clear hxy HYES HNO
                refine wp_region_held_drew (S := fun V => Kp No wr V) (by kernel_rfl) ((Kp.refl _ _).drew) (fun hHeld => ?_)
                refine wpAnyH_take (i := 0) (oi := ⟨some 38, .move (.tmp 1), 226, "slices.go:404", #[], none⟩) (v := .func (.func 136) #[] #[]) rfl (by kernel_rfl) (by kernel_rfl) (by kernel_rfl) (fun _ _ _ h => h) (Or.inl ⟨by rfl, fun w' hw' => by (clear hw'; go_simp)⟩) hHeld ?_
                simp only [Act.put, sjA, sjB, sjC]
                refine wpAnyH_take (i := 1) (oi := ⟨some 39, .move (.tmp 6), 81, "slices.go:404", #[], none⟩) (v := .slice (some ⟨g, o2, none⟩) M (cap - k)) rfl (by kernel_rfl) (by kernel_rfl) (by kernel_rfl) (fun _ _ _ h => h) (Or.inl ⟨by rfl, fun w' hw' => by (clear hw'; go_simp)⟩) hHeld ?_
                simp only [Act.put, sjA, sjB, sjC]
                refine wpAnyH_take (i := 2) (oi := ⟨some 40, .move (.tmp 7), 3, "slices.go:404", #[], none⟩) (v := .int .i64 (j : Int)) rfl (by kernel_rfl) (by kernel_rfl) (by kernel_rfl) (fun _ _ _ h => h) (Or.inl ⟨by rfl, fun w' hw' => by (clear hw'; go_simp)⟩) hHeld ?_
                simp only [Act.put, sjA, sjB, sjC]
                refine wpAnyH_take (i := 3) (oi := ⟨some 41, .indexAddr 81 (.tmp 39) (.tmp 40), 0, "slices.go:404", #[⟨1, .data⟩, ⟨2, .data⟩], none⟩) (v := .pointer (some ⟨g, o2 + j * 35, none⟩)) rfl (by kernel_rfl) (by kernel_rfl) (by kernel_rfl) (fun _ _ _ h => h) (Or.inl ⟨by rfl, fun w' hw' => by (clear hw'; go_simp)⟩) hHeld ?_
                simp only [Act.put, sjA, sjB, sjC]
                refine wpAnyH_take (i := 4) (oi := ⟨some 42, .load 155 (.tmp 41), 155, "slices.go:404", #[⟨3, .data⟩], none⟩) (v := .agg cx.toArray) rfl (by kernel_rfl) (by kernel_rfl) (by kernel_rfl) (fun _ _ _ h => h) (yieldsIf_load_mid (by rfl) _ _ rfl g (o2 + j * 35) rfl cx _ (Hx.out) Tryz.underlying155 rfl HIx.out) hHeld ?_
                simp only [Act.put, sjA, sjB, sjC]
                refine wpAnyH_take (i := 5) (oi := ⟨some 43, .move (.tmp 6), 81, "slices.go:404", #[], none⟩) (v := .slice (some ⟨g, o2, none⟩) M (cap - k)) rfl (by kernel_rfl) (by kernel_rfl) (by kernel_rfl) (fun _ _ _ h => h) (Or.inl ⟨by rfl, fun w' hw' => by (clear hw'; go_simp)⟩) hHeld ?_
                simp only [Act.put, sjA, sjB, sjC]
                refine wpAnyH_take (i := 6) (oi := ⟨some 44, .move (.tmp 7), 3, "slices.go:404", #[], none⟩) (v := .int .i64 (j : Int)) rfl (by kernel_rfl) (by kernel_rfl) (by kernel_rfl) (fun _ _ _ h => h) (Or.inl ⟨by rfl, fun w' hw' => by (clear hw'; go_simp)⟩) hHeld ?_
                simp only [Act.put, sjA, sjB, sjC]
                refine wpAnyH_take (i := 7) (oi := ⟨some 45, .binOp BinOp.sub 3 (.tmp 44) (Operand.const (Value.int IntKind.i64 1)) 3, 3, "slices.go:404", #[⟨6, .data⟩], none⟩) (v := .int .i64 (j1 : Int)) rfl (by kernel_rfl) (by kernel_rfl) (by kernel_rfl) (fun _ _ _ h => h) (Or.inl ⟨by rfl, fun w' hw' => by (clear hw'; go_simp)⟩) hHeld ?_
                simp only [Act.put, sjA, sjB, sjC]
                refine wpAnyH_take (i := 8) (oi := ⟨some 46, .indexAddr 81 (.tmp 43) (.tmp 45), 0, "slices.go:404", #[⟨5, .data⟩, ⟨7, .data⟩], none⟩) (v := .pointer (some ⟨g, o2 + j1 * 35, none⟩)) rfl (by kernel_rfl) (by kernel_rfl) (by kernel_rfl) (fun _ _ _ h => h) (Or.inl ⟨by rfl, fun w' hw' => by (clear hw'; go_simp)⟩) hHeld ?_
                simp only [Act.put, sjA, sjB, sjC]
                refine wpAnyH_take (i := 9) (oi := ⟨some 47, .load 155 (.tmp 46), 155, "slices.go:404", #[⟨8, .data⟩], none⟩) (v := .agg cy.toArray) rfl (by kernel_rfl) (by kernel_rfl) (by kernel_rfl) (fun _ _ _ h => h) (yieldsIf_load_mid (by rfl) _ _ rfl g (o2 + j1 * 35) rfl cy _ (Hy.out) Tryz.underlying155 rfl HIy.out) hHeld ?_
                simp only [Act.put, sjA, sjB, sjC]
                refine wpAnyH_ready (rs := [10]) (by kernel_rfl) (by simp) ?_
                refine AllReadyH.cons (o := ⟨some 48, .call { callee := Callee.value (.tmp 38), args := #[.tmp 42, .tmp 47], argTypes := #[155, 155] }, 4, "slices.go:404", #[⟨0, .data⟩, ⟨4, .data⟩, ⟨9, .data⟩], none⟩) rfl (fun K hK => ?_) AllReadyH.nil
                go_simp
                refine (HCMP.out _).mono ?_
                rintro e w3 ⟨rfl, h3⟩
                have HK3 : Hid (Kp No wr w3) := (Kp.refl No wr).drew.andNone (Kp.below h3)
                clear h3
                go_wp2_with fail
                refine hK.out _ _ (HK3.out) (fun hh => ?_)
                clear hK K hHeld
                have hHeld := hh
                clear hh
                try simp only [Act.put, sjA, sjB, sjC]
                refine wpAnyH_take (i := 11) (oi := ⟨some 49, .unOp UnOp.not 4 (.tmp 48), 4, "slices.go:404", #[⟨10, .data⟩], none⟩) (v := .bool false) rfl (by kernel_rfl) (by kernel_rfl) (by kernel_rfl) (fun _ _ _ h => h) (Or.inl ⟨by rfl, fun w' hw' => by (clear hw'; go_simp)⟩) hHeld ?_
                simp only [Act.put, sjA, sjB, sjC]
                refine wpAnyH_done (by kernel_rfl) ?_ _
                have HH2 := hid (HY2.out w3 HK3.out)
                clear hHeld HK3 HCMP Hx Hy HIx HIy HAA HY2
                go_wp2_with fail
                go_round
                case rel => exact ⟨q, j + 1, rfl, by go_num, hq0, by omega, by omega, hqN, HH2.out⟩
                case measure => simp [intOf]; omega
              · rw [decide_eq_false hxy] at HCMP
                have HN2 := hid (HNO.out hxy)
                clear hxy HYES HNO
                refine wp_region_held_drew (S := fun V => Kp No wr V) (by kernel_rfl) ((Kp.refl _ _).drew) (fun hHeld => ?_)
                refine wpAnyH_take (i := 0) (oi := ⟨some 38, .move (.tmp 1), 226, "slices.go:404", #[], none⟩) (v := .func (.func 136) #[] #[]) rfl (by kernel_rfl) (by kernel_rfl) (by kernel_rfl) (fun _ _ _ h => h) (Or.inl ⟨by rfl, fun w' hw' => by (clear hw'; go_simp)⟩) hHeld ?_
                simp only [Act.put, sjA, sjB, sjC]
                refine wpAnyH_take (i := 1) (oi := ⟨some 39, .move (.tmp 6), 81, "slices.go:404", #[], none⟩) (v := .slice (some ⟨g, o2, none⟩) M (cap - k)) rfl (by kernel_rfl) (by kernel_rfl) (by kernel_rfl) (fun _ _ _ h => h) (Or.inl ⟨by rfl, fun w' hw' => by (clear hw'; go_simp)⟩) hHeld ?_
                simp only [Act.put, sjA, sjB, sjC]
                refine wpAnyH_take (i := 2) (oi := ⟨some 40, .move (.tmp 7), 3, "slices.go:404", #[], none⟩) (v := .int .i64 (j : Int)) rfl (by kernel_rfl) (by kernel_rfl) (by kernel_rfl) (fun _ _ _ h => h) (Or.inl ⟨by rfl, fun w' hw' => by (clear hw'; go_simp)⟩) hHeld ?_
                simp only [Act.put, sjA, sjB, sjC]
                refine wpAnyH_take (i := 3) (oi := ⟨some 41, .indexAddr 81 (.tmp 39) (.tmp 40), 0, "slices.go:404", #[⟨1, .data⟩, ⟨2, .data⟩], none⟩) (v := .pointer (some ⟨g, o2 + j * 35, none⟩)) rfl (by kernel_rfl) (by kernel_rfl) (by kernel_rfl) (fun _ _ _ h => h) (Or.inl ⟨by rfl, fun w' hw' => by (clear hw'; go_simp)⟩) hHeld ?_
                simp only [Act.put, sjA, sjB, sjC]
                refine wpAnyH_take (i := 4) (oi := ⟨some 42, .load 155 (.tmp 41), 155, "slices.go:404", #[⟨3, .data⟩], none⟩) (v := .agg cx.toArray) rfl (by kernel_rfl) (by kernel_rfl) (by kernel_rfl) (fun _ _ _ h => h) (yieldsIf_load_mid (by rfl) _ _ rfl g (o2 + j * 35) rfl cx _ (Hx.out) Tryz.underlying155 rfl HIx.out) hHeld ?_
                simp only [Act.put, sjA, sjB, sjC]
                refine wpAnyH_take (i := 5) (oi := ⟨some 43, .move (.tmp 6), 81, "slices.go:404", #[], none⟩) (v := .slice (some ⟨g, o2, none⟩) M (cap - k)) rfl (by kernel_rfl) (by kernel_rfl) (by kernel_rfl) (fun _ _ _ h => h) (Or.inl ⟨by rfl, fun w' hw' => by (clear hw'; go_simp)⟩) hHeld ?_
                simp only [Act.put, sjA, sjB, sjC]
                refine wpAnyH_take (i := 6) (oi := ⟨some 44, .move (.tmp 7), 3, "slices.go:404", #[], none⟩) (v := .int .i64 (j : Int)) rfl (by kernel_rfl) (by kernel_rfl) (by kernel_rfl) (fun _ _ _ h => h) (Or.inl ⟨by rfl, fun w' hw' => by (clear hw'; go_simp)⟩) hHeld ?_
                simp only [Act.put, sjA, sjB, sjC]
                refine wpAnyH_take (i := 7) (oi := ⟨some 45, .binOp BinOp.sub 3 (.tmp 44) (Operand.const (Value.int IntKind.i64 1)) 3, 3, "slices.go:404", #[⟨6, .data⟩], none⟩) (v := .int .i64 (j1 : Int)) rfl (by kernel_rfl) (by kernel_rfl) (by kernel_rfl) (fun _ _ _ h => h) (Or.inl ⟨by rfl, fun w' hw' => by (clear hw'; go_simp)⟩) hHeld ?_
                simp only [Act.put, sjA, sjB, sjC]
                refine wpAnyH_take (i := 8) (oi := ⟨some 46, .indexAddr 81 (.tmp 43) (.tmp 45), 0, "slices.go:404", #[⟨5, .data⟩, ⟨7, .data⟩], none⟩) (v := .pointer (some ⟨g, o2 + j1 * 35, none⟩)) rfl (by kernel_rfl) (by kernel_rfl) (by kernel_rfl) (fun _ _ _ h => h) (Or.inl ⟨by rfl, fun w' hw' => by (clear hw'; go_simp)⟩) hHeld ?_
                simp only [Act.put, sjA, sjB, sjC]
                refine wpAnyH_take (i := 9) (oi := ⟨some 47, .load 155 (.tmp 46), 155, "slices.go:404", #[⟨8, .data⟩], none⟩) (v := .agg cy.toArray) rfl (by kernel_rfl) (by kernel_rfl) (by kernel_rfl) (fun _ _ _ h => h) (yieldsIf_load_mid (by rfl) _ _ rfl g (o2 + j1 * 35) rfl cy _ (Hy.out) Tryz.underlying155 rfl HIy.out) hHeld ?_
                simp only [Act.put, sjA, sjB, sjC]
                refine wpAnyH_ready (rs := [10]) (by kernel_rfl) (by simp) ?_
                refine AllReadyH.cons (o := ⟨some 48, .call { callee := Callee.value (.tmp 38), args := #[.tmp 42, .tmp 47], argTypes := #[155, 155] }, 4, "slices.go:404", #[⟨0, .data⟩, ⟨4, .data⟩, ⟨9, .data⟩], none⟩) rfl (fun K hK => ?_) AllReadyH.nil
                go_simp
                refine (HCMP.out _).mono ?_
                rintro e w3 ⟨rfl, h3⟩
                have HK3 : Hid (Kp No wr w3) := (Kp.refl No wr).drew.andNone (Kp.below h3)
                clear h3
                go_wp2_with fail
                refine hK.out _ _ (HK3.out) (fun hh => ?_)
                clear hK K hHeld
                have hHeld := hh
                clear hh
                try simp only [Act.put, sjA, sjB, sjC]
                refine wpAnyH_take (i := 11) (oi := ⟨some 49, .unOp UnOp.not 4 (.tmp 48), 4, "slices.go:404", #[⟨10, .data⟩], none⟩) (v := .bool true) rfl (by kernel_rfl) (by kernel_rfl) (by kernel_rfl) (fun _ _ _ h => h) (Or.inl ⟨by rfl, fun w' hw' => by (clear hw'; go_simp)⟩) hHeld ?_
                simp only [Act.put, sjA, sjB, sjC]
                refine wpAnyH_done (by kernel_rfl) ?_ _
                obtain ⟨ht, hfin⟩ := HN2.out w3 HK3.out
                have HTS := hid ht
                have HH2 := hid hfin
                have HX3 := hid (Hx.out w3 HK3.out)
                clear ht hfin hHeld HK3 HCMP Hx Hy HIy HAA HN2
                go_wp2_with (first
                  | (refine wpList_load_mid (by rfl) 155 _ (by rfl) g (o2 + j * 35) (by rfl) cx _ HX3.out Tryz.underlying155 rfl HIx.out ?_)
                  | (refine wpList_store_mid (by rfl) 155 _ _ (by rfl) g (o + q * 35) cx.toArray (by rfl) (by rfl) HTS.out HAx.out HOx.out ?_))
                go_round
                case rel => exact ⟨q + 1, j + 1, by go_num, by go_num, by omega, by omega, by omega, HQN.out, HH2.out⟩
                case measure => simp [intOf]; omega
            · have hjlI : ¬ (j : Int) < (M : Int) := by omega
              have hjj : j = M := by omega
              obtain ⟨hqk, D, hDl, hDt, hDd, hA⟩ := HT.out
              have hdt : d.take N = d := List.take_of_length_le (by rw [HN.out]; exact Nat.le_refl _)
              rw [hjj, HKM.out, hdt] at hDt
              obtain ⟨Zc, hZc⟩ := run_clear_ents wr g (o + q * 35) (N - q) (cap - q) 0 (by omega) (fun i hi => by
                have := hA.2.2 (q + i) (by omega)
                rwa [show o + (q + i) * 35 = o + q * 35 + i * 35 by omega] at this)
              have hcl : ∀ ty, (Builtin.clear_ #[81] ty #[.slice (some ⟨g, o + q * 35, none⟩) (N - q) (cap - q)]).run Tryz.prog wr = .ok (.tuple #[]) (wr.setCells g (o + q * 35) Zc) := fun _ => hZc
              have HFIN : Hid ((cmpct d).length = q ∧ At w g o (cmpct d) (wr.setCells g (o + q * 35) Zc)) := by
                refine ⟨by rw [← hDt, List.length_take]; omega, ?_⟩
                rw [← hDt]
                exact ⟨hA.1.trans (setCells_kp wr g _ _) (fun _ hx => .inl hx), hA.2.cleared q Zc⟩
              have hqc : (q : Int) ≤ (cap : Int) := by omega
              have hqI : (q : Int) ≤ (N : Int) := by omega
              clear hZc hjj hqk hDl hDt hDd hA hdt HT
              go_wp2_with fail
              first | (refine bodyPost_ret (results_tmp rfl _ _ _) rfl ?_) | (simp only [Exit.inBlock, Exit.then]; refine bodyPost_ret (results_tmp rfl _ _ _) rfl ?_) | go_ret
              rw [HFIN.out.1]
              exact ⟨rfl, HFIN.out.2⟩
        · rw [decide_eq_false hxy] at HCMP
          have HC2 : Hid (cmpct (d.take (k + 1)) = d.take (k + 1)) := by
            obtain ⟨h1, h2, h3⟩ := HCT.out
            rw [Hid, h2, if_neg hxy, h1, List.take_add_one, h3]
            rfl
          clear hxy HCT
          refine wp_region_held_drew (S := fun V => Kp No wr V) (by kernel_rfl) ((Kp.refl _ _).drew) (fun hHeld => ?_)
          refine wpAnyH_take (i := 0) (oi := ⟨some 18, .move (.tmp 1), 226, "slices.go:401", #[], none⟩) (v := .func (.func 136) #[] #[]) rfl (by kernel_rfl) (by kernel_rfl) (by kernel_rfl) (fun _ _ _ h => h) (Or.inl ⟨by rfl, fun w' hw' => by (clear hw'; go_simp)⟩) hHeld ?_
          simp only [Act.put, sjA, sjB, sjC]
          refine wpAnyH_take (i := 1) (oi := ⟨some 19, .move (.tmp 0), 81, "slices.go:401", #[], none⟩) (v := .slice (some ⟨g, o, none⟩) N cap) rfl (by kernel_rfl) (by kernel_rfl) (by kernel_rfl) (fun _ _ _ h => h) (Or.inl ⟨by rfl, fun w' hw' => by (clear hw'; go_simp)⟩) hHeld ?_
          simp only [Act.put, sjA, sjB, sjC]
          refine wpAnyH_take (i := 2) (oi := ⟨some 20, .move (.tmp 5), 3, "slices.go:401", #[], none⟩) (v := .int .i64 (k : Int)) rfl (by kernel_rfl) (by kernel_rfl) (by kernel_rfl) (fun _ _ _ h => h) (Or.inl ⟨by rfl, fun w' hw' => by (clear hw'; go_simp)⟩) hHeld ?_
          simp only [Act.put, sjA, sjB, sjC]
          refine wpAnyH_take (i := 3) (oi := ⟨some 21, .indexAddr 81 (.tmp 19) (.tmp 20), 0, "slices.go:401", #[⟨1, .data⟩, ⟨2, .data⟩], none⟩) (v := .pointer (some ⟨g, o + k * 35, none⟩)) rfl (by kernel_rfl) (by kernel_rfl) (by kernel_rfl) (fun _ _ _ h => h) (Or.inl ⟨by rfl, fun w' hw' => by (clear hw'; go_simp)⟩) hHeld ?_
          simp only [Act.put, sjA, sjB, sjC]
          refine wpAnyH_take (i := 4) (oi := ⟨some 22, .load 155 (.tmp 21), 155, "slices.go:401", #[⟨3, .data⟩], none⟩) (v := .agg cx.toArray) rfl (by kernel_rfl) (by kernel_rfl) (by kernel_rfl) (fun _ _ _ h => h) (yieldsIf_load_mid (by rfl) _ _ rfl g (o + k * 35) rfl cx _ (Hx.out) Tryz.underlying155 rfl HIx.out) hHeld ?_
          simp only [Act.put, sjA, sjB, sjC]
          refine wpAnyH_take (i := 5) (oi := ⟨some 23, .move (.tmp 0), 81, "slices.go:401", #[], none⟩) (v := .slice (some ⟨g, o, none⟩) N cap) rfl (by kernel_rfl) (by kernel_rfl) (by kernel_rfl) (fun _ _ _ h => h) (Or.inl ⟨by rfl, fun w' hw' => by (clear hw'; go_simp)⟩) hHeld ?_
          simp only [Act.put, sjA, sjB, sjC]
          refine wpAnyH_take (i := 6) (oi := ⟨some 24, .move (.tmp 5), 3, "slices.go:401", #[], none⟩) (v := .int .i64 (k : Int)) rfl (by kernel_rfl) (by kernel_rfl) (by kernel_rfl) (fun _ _ _ h => h) (Or.inl ⟨by rfl, fun w' hw' => by (clear hw'; go_simp)⟩) hHeld ?_
          simp only [Act.put, sjA, sjB, sjC]
          refine wpAnyH_take (i := 7) (oi := ⟨some 25, .binOp BinOp.sub 3 (.tmp 24) (Operand.const (Value.int IntKind.i64 1)) 3, 3, "slices.go:401", #[⟨6, .data⟩], none⟩) (v := .int .i64 (k1 : Int)) rfl (by kernel_rfl) (by kernel_rfl) (by kernel_rfl) (fun _ _ _ h => h) (Or.inl ⟨by rfl, fun w' hw' => by (clear hw'; go_simp)⟩) hHeld ?_
          simp only [Act.put, sjA, sjB, sjC]
          refine wpAnyH_take (i := 8) (oi := ⟨some 26, .indexAddr 81 (.tmp 23) (.tmp 25), 0, "slices.go:401", #[⟨5, .data⟩, ⟨7, .data⟩], none⟩) (v := .pointer (some ⟨g, o + k1 * 35, none⟩)) rfl (by kernel_rfl) (by kernel_rfl) (by kernel_rfl) (fun _ _ _ h => h) (Or.inl ⟨by rfl, fun w' hw' => by (clear hw'; go_simp)⟩) hHeld ?_
          simp only [Act.put, sjA, sjB, sjC]
          refine wpAnyH_take (i := 9) (oi := ⟨some 27, .load 155 (.tmp 26), 155, "slices.go:401", #[⟨8, .data⟩], none⟩) (v := .agg cy.toArray) rfl (by kernel_rfl) (by kernel_rfl) (by kernel_rfl) (fun _ _ _ h => h) (yieldsIf_load_mid (by rfl) _ _ rfl g (o + k1 * 35) rfl cy _ (Hy.out) Tryz.underlying155 rfl HIy.out) hHeld ?_
          simp only [Act.put, sjA, sjB, sjC]
          refine wpAnyH_ready (rs := [10]) (by kernel_rfl) (by simp) ?_
          refine AllReadyH.cons (o := ⟨some 28, .call { callee := Callee.value (.tmp 18), args := #[.tmp 22, .tmp 27], argTypes := #[155, 155] }, 4, "slices.go:401", #[⟨0, .data⟩, ⟨4, .data⟩, ⟨9, .data⟩], none⟩) rfl (fun K hK => ?_) AllReadyH.nil
          go_simp
          refine (HCMP.out _).mono ?_
          rintro e w3 ⟨rfl, h3⟩
          have HK3 : Hid (Kp No wr w3) := (Kp.refl No wr).drew.andNone (Kp.below h3)
          clear h3
          go_wp2_with fail
          refine hK.out _ _ (HK3.out) (fun hh => ?_)
          clear hK K hHeld
          have hHeld := hh
          clear hh
          try simp only [Act.put, sjA, sjB, sjC]
          refine wpAnyH_done (by kernel_rfl) ?_ _
          have HA3 := hid (HAA.out.kept HK3.out)
          clear hHeld HK3 HCMP Hx Hy HIx HIy HAA
          go_wp2_with fail
          go_round
          case rel => exact ⟨k + 1, by go_num, by omega, by omega, HC2.out, HA3.out⟩
          case measure => simp [intOf]; omega
      · have hltI : ¬ (k : Int) < (N : Int) := by omega
        have HE : Hid (cmpct d = d) := by
          have h := HS.out.1
          rw [List.take_of_length_le (by have := HN.out; omega)] at h
          exact h
        have HA := hid HS.out.2
        go_wp2_with fail
        go_ret
        rw [HE.out, HN.out]
        exact ⟨rfl, HA.out⟩
end Go.Proofs.YthmimipoooemjaaGreatDoor.Sg
end

section
/-
  Entries as values that are read, rows of the call's own, and segment.Sort: of each name the first, in the names' order.
-/
namespace Go.Proofs.YthmimipoooemjaaGreatDoor.Sg
open Go.RowKit
open Stb (Stab Srt Mrg)
open Sim (hid Kp No)

def ents (d : List Ent) : List Value := d.flatMap entC
theorem ents_cons (e : Ent) (d : List Ent) : ents (e :: d) = entC e ++ ents d := by simp [ents]
theorem ents_append (a b : List Ent) : ents (a ++ b) = ents a ++ ents b := by simp [ents]
theorem ents_length : ∀ (d : List Ent), (∀ e ∈ d, EOk e) → (ents d).length = d.length * 35
  | [], _ => rfl
  | e :: d, h => by
    rw [ents_cons, List.length_append, entC_length (h e (by simp)), ents_length d (fun x hx => h x (by simp [hx])), List.length_cons]
    omega
theorem ents_at : ∀ (d : List Ent), (∀ e ∈ d, EOk e) → ∀ (i j : Nat) (e : Ent), d[i]? = some e → j < 35 → (ents d)[i * 35 + j]? = (entC e)[j]?
  | [], _, i, j, e, hi, _ => by simp at hi
  | x :: d, h, 0, j, e, hi, hj => by
    simp only [List.getElem?_cons_zero, Option.some.injEq] at hi
    subst hi
    rw [ents_cons, Nat.zero_mul, Nat.zero_add, List.getElem?_append_left (by rw [entC_length (h x (by simp))]; exact hj)]
  | x :: d, h, i + 1, j, e, hi, hj => by
    rw [List.getElem?_cons_succ] at hi
    rw [ents_cons, List.getElem?_append_right (by rw [entC_length (h x (by simp))]; omega), entC_length (h x (by simp)), show (i + 1) * 35 + j - 35 = i * 35 + j by omega]
    exact ents_at d (fun y hy => h y (by simp [hy])) i j e hi hj
theorem ents_one (d : List Ent) : ∀ u ∈ ents d, u.oneCell' = true := by
  intro u hu
  obtain ⟨e, _, hue⟩ := List.mem_flatMap.1 hu
  exact entC_one e u hue

/-- Entries that are read: in blocks of P alone. -/
def EV (P : Nat → Prop) (w : World) (v : Value) (d : List Ent) : Prop :=
  ∃ a cap, v = .slice a d.length cap ∧ d.length ≤ cap ∧ cap ≤ maxLen ∧ (a = none → d = [] ∧ cap = 0) ∧ (∀ e ∈ d, EOk e) ∧ (d ≠ [] → ∃ g o, a = some ⟨g, o, none⟩ ∧ P g ∧ ERow w g o d)
theorem EV.nil (P : Nat → Prop) (w : World) : EV P w (.slice none 0 0) [] := ⟨none, 0, rfl, Nat.le_refl _, Nat.zero_le _, fun _ => ⟨rfl, rfl⟩, by simp, by simp⟩
theorem EV.kp {P L : Nat → Prop} {w w' : World} {v : Value} {d : List Ent} (h : EV P w v d) (k : Kp L w w') (hP : ∀ g, P g → ¬ L g) : EV P w' v d := by
  obtain ⟨a, cap, h1, h2, h3, h4, h5, h6⟩ := h
  refine ⟨a, cap, h1, h2, h3, h4, h5, fun hd => ?_⟩
  obtain ⟨g, o, e, hp, hr⟩ := h6 hd
  exact ⟨g, o, e, hp, hr.kp k (hP g hp)⟩
theorem EV.kept {P : Nat → Prop} {w w' : World} {v : Value} {d : List Ent} (h : EV P w v d) (k : Kp No w w') : EV P w' v d := h.kp k (fun _ _ x => x)
theorem EV.mono {P P' : Nat → Prop} {w : World} {v : Value} {d : List Ent} (h : EV P w v d) (hP : ∀ g, P g → P' g) : EV P' w v d := by
  obtain ⟨a, cap, h1, h2, h3, h4, h5, h6⟩ := h
  refine ⟨a, cap, h1, h2, h3, h4, h5, fun hd => ?_⟩
  obtain ⟨g, o, e, hp, hr⟩ := h6 hd
  exact ⟨g, o, e, hP g hp, hr⟩
theorem EV.ok {P : Nat → Prop} {w : World} {v : Value} {d : List Ent} (h : EV P w v d) : ∀ e ∈ d, EOk e := by
  obtain ⟨a, cap, h1, h2, h3, h4, h5, h6⟩ := h
  exact h5
theorem EV.src {P : Nat → Prop} {w : World} {v : Value} {d : List Ent} (h : EV P w v d) : Sim.Src w v d.length 35 (ents d) := by
  obtain ⟨a, cap, rfl, h2, h3, h4, h5, h6⟩ := h
  cases a with
  | none =>
    obtain ⟨rfl, rfl⟩ := h4 rfl
    exact .inl ⟨rfl, rfl, rfl⟩
  | some ad =>
    refine .inr ⟨ad, cap, rfl, ents_length d h5, fun j u hj => ?_, ents_one d⟩
    have hjl := (List.getElem?_eq_some_iff.1 hj).1
    rw [ents_length d h5] at hjl
    have hd : d ≠ [] := by intro e; subst e; simp at hjl
    obtain ⟨g, o, e, _, hr⟩ := h6 hd
    simp only [Option.some.injEq] at e
    subst e
    have hi : j / 35 < d.length := by omega
    obtain ⟨x, hx⟩ : ∃ x, d[j / 35]? = some x := ⟨_, List.getElem?_eq_getElem hi⟩
    have hm : j % 35 < 35 := Nat.mod_lt _ (by omega)
    have hje : j / 35 * 35 + j % 35 = j := by omega
    have hat := ents_at d h5 (j / 35) (j % 35) x hx hm
    rw [hje, hj] at hat
    have := (hr.2 (j / 35) x hx).2 (j % 35) u hat.symm
    rw [Sim.addr_add]
    rw [Nat.add_assoc, hje] at this
    exact this
/-- A row of the call's own is one to be read and to be written. -/
theorem own_row {w : World} {g n cap : Nat} {d : List Ent} (h : Sim.Row w 155 35 (.slice (some ⟨g, 0, none⟩) n cap) n (ents d)) (hn : d.length = n) (hd : ∀ e ∈ d, EOk e) : EOwn w g 0 d := by
  have hg : g < w.heap.size := h.lt g rfl
  refine ⟨⟨hg, fun i e hi => ⟨hd e (List.mem_of_getElem? hi), fun j u hj => ?_⟩⟩, fun i hi j hj => ?_⟩
  · have hil := (List.getElem?_eq_some_iff.1 hi).1
    have hjl := (List.getElem?_eq_some_iff.1 hj).1
    rw [entC_length (hd e (List.mem_of_getElem? hi))] at hjl
    rw [Nat.zero_add, h.cellAt (i * 35 + j) (by omega), ents_at d hd i j e hi hjl]
    exact hj
  · have hx : ∃ u, (ents d)[i * 35 + j]? = some u := ⟨_, List.getElem?_eq_getElem (by rw [ents_length d hd]; omega)⟩
    obtain ⟨u, hu⟩ := hx
    rw [Nat.zero_add, h.cellAt (i * 35 + j) (by omega), hu]
    exact ⟨rfl, World.ownsRow.frozenAt h _⟩

theorem infoE : (Tryz.prog.info? 155).map (fun i => (i.zero, i.size, i.bytes)) = some (some (.agg zE.toArray), 35, 56) := by kernel_rfl

/-! ### Nothing to be sorted -/
theorem ins_none (w : World) : Calls Tryz.prog 213 #[.slice none 0 0, .int .i64 0, .int .i64 0, cmpV] w fun e w' => e = .returned (.tuple #[]) ∧ w' = w := by
  unfold cmpV
  go_enter Tryz.func213, Tryz.ntmps213
  go_wp2_with fail
  go_loopw [8] (fun x wr => x = .int .i64 1 ∧ wr = w) (fun _ _ => 0)
  case atStart => exact ⟨rfl, rfl⟩
  case round =>
    obtain ⟨rfl, rfl⟩ := hrel
    go_wp2_with fail
    go_end0
    exact ⟨rfl, rfl⟩
set_option maxHeartbeats 4000000 in
set_option maxRecDepth 100000 in
theorem stable_none (w : World) : Calls Tryz.prog 174 #[.slice none 0 0, .int .i64 0, cmpV] w fun e w' => e = .returned (.tuple #[]) ∧ w' = w := by
  have HI := hid (ins_none w)
  unfold cmpV at HI ⊢
  go_enter Tryz.func174, Tryz.ntmps174
  go_wp2_with fail
  go_loopw [7, 8] (fun v7 v8 wr => v7 = .int .i64 0 ∧ v8 = .int .i64 20 ∧ wr = w) (fun _ _ _ => 0)
  case atStart => exact ⟨rfl, rfl, rfl⟩
  case round =>
    obtain ⟨rfl, rfl, rfl⟩ := hrel
    go_wp2_with fail
    refine HI.out.mono ?_
    rintro e w2 ⟨rfl, rfl⟩
    go_wp2_with fail
    go_loopw [6, 7, 8] (fun v6 v7 v8 wr => v6 = .int .i64 20 ∧ v7 = .int .i64 0 ∧ v8 = .int .i64 20 ∧ wr = w2) (fun _ _ _ _ => 0)
    case atStart => exact ⟨rfl, rfl, rfl, rfl⟩
    case round =>
      obtain ⟨rfl, rfl, rfl, rfl⟩ := hrel
      go_wp2_with fail
      go_end0
      exact ⟨rfl, rfl⟩
theorem sortStable_none (w : World) : Calls Tryz.prog 134 #[.slice none 0 0, cmpV] w fun e w' => e = .returned (.tuple #[]) ∧ w' = w := by
  have HS := hid (stable_none w)
  unfold cmpV at HS ⊢
  go_enter Tryz.func134, Tryz.ntmps134
  go_wp2_with fail
  refine HS.out.mono ?_
  rintro e w2 ⟨rfl, rfl⟩
  go_wp2_with fail
  go_end0
  exact ⟨rfl, rfl⟩
theorem compact_zero (w : World) (a : Option Addr) (cap : Nat) : Calls Tryz.prog 135 #[.slice a 0 cap, .func (.func 136) #[] #[]] w fun e w' => e = .returned (.slice a 0 cap) ∧ w' = w := by
  go_enter Tryz.func135, Tryz.ntmps135
  go_wp2_with fail
  go_ret
  exact ⟨rfl, rfl⟩

/-- Any row of the call's own is sorted. -/
theorem sortStable_row (w : World) (ad : Option Addr) (d : List Ent) (cap : Nat) (h : Sim.Row w 155 35 (.slice ad d.length cap) d.length (ents d)) (hd : ∀ e ∈ d, EOk e) (hl : d.length ≤ 1000000) :
    Calls Tryz.prog 134 #[.slice ad d.length cap, cmpV] w fun e w' => e = .returned (.tuple #[]) ∧ ∃ X, Stab ky d X ∧ Srt ky lexB X ∧ ((d = [] ∧ w' = w) ∨ ∃ g, ad = some ⟨g, 0, none⟩ ∧ At w g 0 X w') := by
  obtain ⟨a, c, e, h2, h3, h4, h5⟩ := h.shape
  cases e
  cases ad with
  | none =>
    obtain ⟨h0, rfl⟩ := h4 rfl
    have : d = [] := List.length_eq_zero_iff.1 h0
    subst this
    refine (sortStable_none w).mono ?_
    rintro e w2 ⟨rfl, rfl⟩
    exact ⟨rfl, [], Stab.refl _, List.Pairwise.nil, .inl ⟨rfl, rfl⟩⟩
  | some x =>
    obtain ⟨g, o, sp⟩ := x
    obtain ⟨e1, e2⟩ := h5 _ rfl
    cases e1
    cases e2
    refine (sortStable_any w g 0 d d.length cap (own_row h rfl hd) rfl hl).mono ?_
    rintro e w2 ⟨rfl, X, h6, h7, h8⟩
    exact ⟨rfl, X, h6, h7, .inr ⟨g, rfl, h8⟩⟩

theorem sort_any (w : World) (v : Value) (d : List Ent) (P : Nat → Prop) (hv : EV P w v d) (hl : d.length ≤ 1000000) :
    Calls Tryz.prog 84 #[v] w fun e w' => ∃ r X, e = .returned r ∧ Stab ky d X ∧ Srt ky lexB X ∧ Kp No w w' ∧ EV (fun g => w.heap.size ≤ g) w' r (cmpct X) := by
  have HSRC := hid hv.src
  have HOK := hid hv.ok
  obtain ⟨a, c, rfl, _⟩ := hv
  obtain ⟨n, hn⟩ : ∃ n, d.length = n := ⟨_, rfl⟩
  have HN := hid hn
  rw [hn] at HSRC hl ⊢
  clear hn
  have HR0 := hid (Sim.Row.nil w 155 35)
  go_enter Tryz.func84, Tryz.ntmps84
  go_wp2_with (first
    | (refine Sim.app_row _ (by rfl) _ _ 81 155 (.agg zE.toArray) 35 56 (by rfl) Tryz.underlying81 infoE rfl (by omega) (.slice none 0 0) (.slice a n c) 0 n [] (ents d) (by rfl) (by rfl) HR0.out HSRC.out (by omega) (by omega) ?_; intro ad2 cap2 w2 hrow2 hgr2 hown2))
  rw [Nat.zero_add, List.nil_append] at hrow2
  rw [Nat.zero_add] at hown2
  have hK2 : Kp No w w2 := (Kp.refl No w).grown hgr2 (by intro x hx; simp [Value.ownBlock] at hx)
  have hso := sortStable_row w2 ad2 d cap2 (by rw [HN.out]; exact hrow2) HOK.out (by rw [HN.out]; exact hl)
  rw [HN.out] at hso
  have HSO := hid hso
  have HH := hid (And.intro hrow2 (And.intro hK2 hown2))
  clear hso hrow2 hgr2 hown2 hK2
  unfold cmpV at HSO
  refine HSO.out.mono ?_
  rintro e w3 ⟨rfl, X, hst, hsr, hat⟩
  have HC : Hid (Calls Tryz.prog 135 #[.slice ad2 n cap2, .func (.func 136) #[] #[]] w3 fun e w' => e = .returned (.slice ad2 (cmpct X).length cap2) ∧ Kp No w w' ∧ EV (fun g => w.heap.size ≤ g) w' (.slice ad2 (cmpct X).length cap2) (cmpct X)) := by
    obtain ⟨hrow, hK, hown⟩ := HH.out
    obtain ⟨a', c', e, s2, s3, s4, s5⟩ := hrow.shape
    cases e
    have hXl : X.length = n := by rw [hst.length, HN.out]
    have hXok : ∀ e ∈ X, EOk e := fun e he => HOK.out e ((hst.mem e).1 he)
    have hK3 : Kp No w w3 := by
      rcases hat with ⟨_, rfl⟩ | ⟨g, rfl, hA⟩
      · exact hK
      · have hg : g = w.heap.size := by
          rcases hown with h | h
          · simp [Value.ownBlock] at h
          · simpa [Value.ownBlock] using h
        exact hK.trans hA.1 (fun x hx => .inr (by omega))
    by_cases hn : n = 0
    · subst hn
      have : X = [] := List.length_eq_zero_iff.1 hXl
      subst this
      refine (compact_zero w3 ad2 cap2).mono ?_
      rintro e w4 ⟨rfl, rfl⟩
      exact ⟨rfl, hK3, ad2, cap2, rfl, Nat.zero_le _, s3, fun h => ⟨rfl, (s4 h).2⟩, by simp [cmpct], by simp [cmpct]⟩
    · rcases hat with ⟨h0, _⟩ | ⟨g, rfl, hA⟩
      · rw [h0] at hst
        have := hst.length
        simp at this
        rw [this] at hXl
        simp at hXl
        omega
      · have hg : g = w.heap.size := by
          rcases hown with h | h
          · simp [Value.ownBlock] at h
          · simpa [Value.ownBlock] using h
        refine (compact_any w3 g 0 X n cap2 hA.2 hXl hl (by omega) s2 s3).mono ?_
        rintro e w4 ⟨rfl, hB⟩
        have hcl := cmpct_length X
        exact ⟨rfl, hK3.trans hB.1 (fun x hx => .inr (by omega)), _, cap2, rfl, by omega, s3, by simp, hB.2.1.ok, fun _ => ⟨g, 0, rfl, by omega, hB.2.1⟩⟩
  have HX := hid (And.intro hst hsr)
  clear hst hsr hat HSO HH
  go_wp2_with fail
  refine HC.out.mono ?_
  rintro e w4 ⟨rfl, hk, hev⟩
  have HF := hid (And.intro hk hev)
  clear hk hev HC
  go_wp2_with fail
  go_ret
  exact ⟨_, X, rfl, HX.out.1, HX.out.2, HF.out.1, HF.out.2⟩
end Go.Proofs.YthmimipoooemjaaGreatDoor.Sg
end
