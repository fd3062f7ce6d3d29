/-
  math/bits.OnesCount and TrailingZeros, Mask, and the reference's.
-/
import Derived.Test.YtinijgkkmfdfiaaDoorSmall
import Derived.Test.YtinijgkkmfdfiaaDoorPop
import Derived.Lib.TrailingZeros
import Derived.Laws.Bits64b
import Derived.Laws.ShiftsVar
import Derived.Laws.Bits128
namespace Go.Proofs.YtinijgkkmfdfiaaDoor
open Go.RowKit

/-- math/bits.deBruijn64tab lies as its initialiser laid it. -/
def Tab (w : World) : Prop := ∀ j, j < 64 → w.cell? ⟨2, j, none⟩ = some (.int .u8 (Lib.deBruijn64tab.getD j 0 : Nat))

theorem andd_i (x d m : Nat) (hx : x < M64) (hm : m < M64) : bits .and .u64 ((x : Int) / (d : Int)) (m : Int) = ((x / d &&& m : Nat) : Int) := by
  have h := u64_and_nat (x / d) m (Nat.lt_of_le_of_lt (Nat.div_le_self _ _) hx) hm
  rw [← h, Int.natCast_ediv]
theorem wrap_i (y : Int) (h0 : 0 ≤ y) (h1 : y < 18446744073709551616) : IntKind.u64.wrap y = y := by
  rw [IntKind.wrap_u64]
  exact Int.emod_eq_of_lt h0 h1

theorem st1_i (x : Nat) (hx : x < 16777216) : IntKind.u64.wrap (bits .and .u64 ((x : Int) / 2) 6148914691236517205 + bits .and .u64 (x : Int) 6148914691236517205) = ((st1 x : Nat) : Int) := by
  have a : bits .and .u64 ((x : Int) / 2) 6148914691236517205 = _ := andd_i x 2 6148914691236517205 (by unfold M64; omega) (by decide)
  have c : bits .and .u64 (x : Int) 6148914691236517205 = _ := u64_and_nat x 6148914691236517205 (by omega) (by decide)
  have l := (pop_small x hx).1
  rw [a, c, ← Int.natCast_add]
  rw [st1] at l ⊢
  exact wrap_i _ (by omega) (by omega)
theorem st2_i (x : Nat) (hx : x < 4294967296) (l : st2 x < 4294967296) : IntKind.u64.wrap (bits .and .u64 ((x : Int) / 4) 3689348814741910323 + bits .and .u64 (x : Int) 3689348814741910323) = ((st2 x : Nat) : Int) := by
  have a : bits .and .u64 ((x : Int) / 4) 3689348814741910323 = _ := andd_i x 4 3689348814741910323 (by unfold M64; omega) (by decide)
  have c : bits .and .u64 (x : Int) 3689348814741910323 = _ := u64_and_nat x 3689348814741910323 (by omega) (by decide)
  rw [a, c, ← Int.natCast_add]
  rw [st2] at l ⊢
  exact wrap_i _ (by omega) (by omega)
theorem st3_i (x : Nat) (hx : x < 4294967296) : bits .and .u64 ((x : Int) / 16 + (x : Int)) 1085102592571150095 = ((st3 x : Nat) : Int) := by
  have e : ((x : Int) / 16 + (x : Int)) = ((x / 16 + x : Nat) : Int) := by omega
  have c : bits .and .u64 ((x / 16 + x : Nat) : Int) 1085102592571150095 = _ := u64_and_nat (x / 16 + x) 1085102592571150095 (by omega) (by decide)
  rw [e, c, st3]
theorem st3_w (x : Nat) (hx : x < 4294967296) : bits .and .u64 (IntKind.u64.wrap ((x : Int) / 16 + (x : Int))) 1085102592571150095 = ((st3 x : Nat) : Int) := by rw [wrap_i _ (by omega) (by omega)]; exact st3_i x hx
theorem st4_i (x : Nat) (hx : x < 4294967296) : IntKind.u64.wrap ((x : Int) + (x : Int) / 256) = ((st4 x : Nat) : Int) ∧ (x : Int) + (x : Int) / 256 = ((st4 x : Nat) : Int) := by
  have e : (x : Int) + (x : Int) / 256 = ((st4 x : Nat) : Int) := by rw [st4]; omega
  exact ⟨by rw [wrap_i _ (by omega) (by omega)]; exact e, e⟩
theorem st5_i (x : Nat) (hx : x < 8589934592) : IntKind.u64.wrap ((x : Int) + (x : Int) / 65536) = ((st5 x : Nat) : Int) ∧ (x : Int) + (x : Int) / 65536 = ((st5 x : Nat) : Int) := by
  have e : (x : Int) + (x : Int) / 65536 = ((st5 x : Nat) : Int) := by rw [st5]; omega
  exact ⟨by rw [wrap_i _ (by omega) (by omega)]; exact e, e⟩
theorem st6_i (x : Nat) (hx : x < 17179869184) : IntKind.u64.wrap ((x : Int) + (x : Int) / 4294967296) = ((st6 x : Nat) : Int) ∧ (x : Int) + (x : Int) / 4294967296 = ((st6 x : Nat) : Int) := by
  have e : (x : Int) + (x : Int) / 4294967296 = ((st6 x : Nat) : Int) := by rw [st6]; omega
  exact ⟨by rw [wrap_i _ (by omega) (by omega)]; exact e, e⟩

set_option maxHeartbeats 1000000 in
theorem ones64_any (x : Nat) (hx : x < 16777216) (w : World) :
    Calls Tryd.prog 40 #[.int .u64 x] w fun e w' => e = .returned (.int .i64 (pop x : Nat)) ∧ w' = w := by
  obtain ⟨l1, l2, _, l3⟩ := pop_small x hx
  have h1 := st1_i x hx
  have h2 := st2_i (st1 x) l1 l2
  have h3 := st3_i (st2 (st1 x)) l2
  obtain ⟨h4, h4'⟩ := st4_i (st3 (st2 (st1 x))) l3
  have l4 : st4 (st3 (st2 (st1 x))) < 8589934592 := by unfold st4; omega
  obtain ⟨h5, h5'⟩ := st5_i (st4 (st3 (st2 (st1 x)))) l4
  have l5 : st5 (st4 (st3 (st2 (st1 x)))) < 17179869184 := by unfold st5; omega
  obtain ⟨h6, h6'⟩ := st6_i (st5 (st4 (st3 (st2 (st1 x))))) l5
  have l6 : st6 (st5 (st4 (st3 (st2 (st1 x))))) < 34359738368 := by unfold st6; omega
  have e : Hid (pop x = st6 (st5 (st4 (st3 (st2 (st1 x))))) % 128) := rfl
  generalize st1 x = x1 at *
  generalize st2 x1 = x2 at *
  generalize st3 x2 = x3 at *
  generalize st4 x3 = x4 at *
  generalize st5 x4 = x5 at *
  generalize st6 x5 = x6 at *
  have hw : wrap64 (x6 : Int) = x6 := by unfold wrap64; omega
  have h7 : bits .and .i64 (x6 : Int) 127 = ((x6 % 128 : Nat) : Int) := by rw [i64_and127]; omega
  obtain ⟨y, hy⟩ : ∃ y, x6 % 128 = y := ⟨_, rfl⟩
  have HY := hid hy
  rw [hy] at h7
  clear hy l1 l2 l3 l4 l5 l6 h4' h5' h6' hx
  go_enter Tryd.func40, Tryd.ntmps40
  go_wp2
  go_ret
  refine ⟨?_, rfl⟩
  rw [e.out, HY.out]
  rfl

theorem ones24_any (x : Nat) (hx : x < 16777216) (w : World) :
    Calls Tryd.prog 29 #[.int .u64 x] w fun e w' => e = .returned (.int .i64 (pop x : Nat)) ∧ w' = w := by
  go_enter Tryd.func29, Tryd.ntmps29
  go_wp2_with (go_at_call 40; refine (ones64_any x hx _).mono ?_; rintro e w2 ⟨rfl, h2⟩; subst w2)
  go_ret
  exact ⟨rfl, rfl⟩

theorem tz_key (k : Nat) (hk : k < 21) : IntKind.u64.wrap (bits .and .u64 ((2 ^ k : Nat) : Int) (IntKind.u64.wrap (-((2 ^ k : Nat) : Int))) * 285870213051353865) / 288230376151711744 = ((2 ^ k * 285870213051353865 % 18446744073709551616 / 288230376151711744 : Nat) : Int) := by
  have p0 : 0 < 2 ^ k := Nat.two_pow_pos k
  have p1 : 2 ^ k ≤ 2 ^ 20 := Nat.pow_le_pow_right (by decide) (by omega)
  have low := Lib.and_neg 64 k 0 (by omega)
  rw [Nat.mul_zero, Nat.zero_add, Nat.mul_one, pow64] at low
  generalize 2 ^ k = x at *
  have e1 : IntKind.u64.wrap (-(x : Int)) = ((18446744073709551616 - x : Nat) : Int) := by rw [IntKind.wrap_u64]; omega
  rw [e1, u64_and_nat x _ (by omega) (by omega), low, IntKind.wrap_u64]
  omega

set_option maxHeartbeats 1000000 in
theorem tz64_core (x k i : Nat) (w : World) (hx0 : ((x : Int) == 0) = false)
    (key : IntKind.u64.wrap (bits .and .u64 (x : Int) (IntKind.u64.wrap (-(x : Int))) * 285870213051353865) / 288230376151711744 = (i : Int)) (hi : i < 64) (hc : w.cell? ⟨2, i, none⟩ = some (.int .u8 k)) (_hk : k < 64) :
    Calls Tryd.prog 54 #[.int .u64 x] w fun e w' => e = .returned (.int .i64 k) ∧ w' = w := by
  go_enter Tryd.func54, Tryd.ntmps54
  go_wp2_with (simp only [key])
  go_ret
  exact ⟨rfl, rfl⟩
theorem pow_ne (k : Nat) : (((2 ^ k : Nat) : Int) == 0) = false := by
  have : 0 < 2 ^ k := Nat.two_pow_pos k
  simp only [beq_eq_false_iff_ne, ne_eq]
  omega
theorem tab_at (k : Nat) (hk : k < 21) (w : World) (hT : Tab w) : w.cell? ⟨2, 2 ^ k * 285870213051353865 % 18446744073709551616 / 288230376151711744, none⟩ = some (.int .u8 (k : Nat)) := by
  obtain ⟨hi, hd⟩ := Lib.deBruijn64_at k (by omega)
  have hc := hT _ hi
  rwa [hd] at hc
theorem tz64_any (k : Nat) (hk : k < 21) (w : World) (hT : Tab w) :
    Calls Tryd.prog 54 #[.int .u64 (2 ^ k : Nat)] w fun e w' => e = .returned (.int .i64 k) ∧ w' = w :=
  tz64_core (2 ^ k) k (2 ^ k * 285870213051353865 % 18446744073709551616 / 288230376151711744) w (pow_ne k) (tz_key k hk) (Lib.deBruijn64_at k (by omega)).1 (tab_at k hk w hT) (by omega)

theorem tz25_any (k : Nat) (hk : k < 21) (w : World) (hT : Tab w) :
    Calls Tryd.prog 50 #[.int .u64 (2 ^ k : Nat)] w fun e w' => e = .returned (.int .i64 k) ∧ w' = w := by
  have h := hid (fun w (hT : Tab w) => tz64_any k hk w hT)
  have H := hid hT
  clear hT
  generalize 2 ^ k = x at *
  go_enter Tryd.func50, Tryd.ntmps50
  go_wp2_with (go_at_call 54; refine (h.out _ H.out).mono ?_; rintro e w2 ⟨rfl, h2⟩; subst w2)
  go_ret
  exact ⟨rfl, rfl⟩

/-- The mask of 2 to the k. -/
def maskAt (k : Nat) : Nat := if k = 0 then 0 else M64 - 2 ^ (64 - k)
/-- m is the mask of a. -/
def IsMask (a : Int) (m : Nat) : Prop := (∃ k : Nat, k ≤ 20 ∧ a = (2 ^ k : Nat) ∧ m = maskAt k) ∨ ((∀ k : Nat, k ≤ 20 → a ≠ (2 ^ k : Nat)) ∧ m = 0)
theorem isMask_one {a : Int} {m n : Nat} (h : IsMask a m) (k : IsMask a n) : m = n := by
  rcases h with ⟨i, hi, e1, rfl⟩ | ⟨h, rfl⟩ <;> rcases k with ⟨j, hj, e2, rfl⟩ | ⟨k, rfl⟩
  · have e : 2 ^ i = 2 ^ j := by omega
    rw [(Nat.pow_right_inj (by decide)).1 e]
  · exact absurd e1 (k i hi)
  · exact absurd e2 (h j hj)
  · rfl

theorem mask_i (k : Nat) (hk : k ≤ 20) : IntKind.u64.wrap (18446744073709551615 * 2 ^ (64 - k)) = ((maskAt k : Nat) : Int) := by
  have e : (2 : Int) ^ (64 - k) = ((2 ^ (64 - k) : Nat) : Int) := by rw [Int.natCast_pow]; rfl
  rw [e, IntKind.wrap_u64, maskAt]
  by_cases h : k = 0
  · subst h
    rw [if_pos rfl, Nat.sub_zero, pow64]
    decide
  · have p0 : 0 < 2 ^ (64 - k) := Nat.two_pow_pos _
    have p1 : 2 ^ (64 - k) ≤ 2 ^ 63 := Nat.pow_le_pow_right (by decide) (by omega)
    rw [if_neg h, M64]
    generalize 2 ^ (64 - k) = y at *
    omega

set_option maxHeartbeats 1000000 in
theorem mask18_any (a : Int) (ha : -9223372036854775808 ≤ a ∧ a ≤ 9223372036854775807) (w : World) (hT : Tab w) :
    Calls Tryd.prog 44 #[.int .i64 a] w fun e w' => (∃ m : Nat, e = .returned (.int .u64 m) ∧ IsMask a m) ∧ w' = w := by
  by_cases h0 : a < 1
  · have hb : decide (a < 1) = true := by simpa using h0
    clear hT
    go_enter Tryd.func44, Tryd.ntmps44
    go_wp2
    go_ret
    exact ⟨⟨0, rfl, .inr ⟨fun k _ e => by have : 0 < 2 ^ k := Nat.two_pow_pos k; omega, rfl⟩⟩, rfl⟩
  · by_cases h1 : 1048576 < a
    · clear hT
      go_enter Tryd.func44, Tryd.ntmps44
      go_wp2
      go_ret
      exact ⟨⟨0, rfl, .inr ⟨fun k hk e => by have : 2 ^ k ≤ 2 ^ 20 := Nat.pow_le_pow_right (by decide) hk; omega, rfl⟩⟩, rfl⟩
    · obtain ⟨x, rfl⟩ : ∃ x : Nat, a = x := ⟨a.toNat, by omega⟩
      have hx : x < 16777216 := by omega
      have hw : IntKind.u64.wrap (x : Int) = x := wrap_i _ (by omega) (by omega)
      by_cases hp : pop x = 1
      · obtain ⟨k, hk, e⟩ := pop_one x hx hp
        have hk20 : k ≤ 20 := by
          apply Nat.le_of_not_lt
          intro h
          have : 2 ^ 21 ≤ 2 ^ k := Nat.pow_le_pow_right (by decide) h
          omega
        have hz := hid (fun w (hT : Tab w) => tz25_any k (by omega) w hT)
        rw [← e] at hz
        have E := hid e
        have HP := hid hp
        have H := hid hT
        clear hT e hp
        go_enter Tryd.func44, Tryd.ntmps44
        go_wp2_with (first | (go_at_call 29; refine (ones24_any x hx _).mono ?_; rintro e w2 ⟨rfl, h2⟩; subst w2; rw [HP.out]) | (go_at_call 50; refine (hz.out _ H.out).mono ?_; rintro e w2 ⟨rfl, h2⟩; subst w2))
        go_ret
        exact ⟨⟨maskAt k, by rw [mask_i k hk20]; rfl, .inl ⟨k, hk20, by rw [E.out], rfl⟩⟩, rfl⟩
      · have hn : (((pop x : Nat) : Int) != 1) = true := by simp; omega
        have HP := hid hp
        clear hT hp
        go_enter Tryd.func44, Tryd.ntmps44
        go_wp2_with (go_at_call 29; refine (ones24_any x hx _).mono ?_; rintro e w2 ⟨rfl, h2⟩; subst w2)
        go_ret
        exact ⟨⟨0, rfl, .inr ⟨fun k hk e => HP.out (by rw [show x = 2 ^ k by omega]; exact pop_pow k (by omega)), rfl⟩⟩, rfl⟩

theorem refMask_i (k : Nat) (hk : k ≤ 20) : IntKind.u64.wrap (18446744073709551615 - IntKind.u64.wrap (IntKind.u64.wrap (2 ^ (64 - k)) - 1)) = ((maskAt k : Nat) : Int) := by
  have e : (2 : Int) ^ (64 - k) = ((2 ^ (64 - k) : Nat) : Int) := by rw [Int.natCast_pow]; rfl
  rw [e, IntKind.wrap_u64, IntKind.wrap_u64, IntKind.wrap_u64, maskAt]
  by_cases h : k = 0
  · subst h
    rw [if_pos rfl, Nat.sub_zero, pow64]
    decide
  · have p0 : 0 < 2 ^ (64 - k) := Nat.two_pow_pos _
    have p1 : 2 ^ (64 - k) ≤ 2 ^ 63 := Nat.pow_le_pow_right (by decide) (by omega)
    rw [if_neg h, M64]
    generalize 2 ^ (64 - k) = y at *
    omega
theorem pow_i (k : Nat) (hk : k ≤ 20) : wrap64 (2 ^ k) = ((2 ^ k : Nat) : Int) := by
  have e : (2 : Int) ^ k = ((2 ^ k : Nat) : Int) := by rw [Int.natCast_pow]; rfl
  have p1 : 2 ^ k ≤ 2 ^ 20 := Nat.pow_le_pow_right (by decide) hk
  rw [e]
  generalize 2 ^ k = y at *
  unfold wrap64
  omega

set_option maxHeartbeats 1000000 in
theorem refMask_any (a : Int) (_ha : -9223372036854775808 ≤ a ∧ a ≤ 9223372036854775807) (w : World) :
    Calls Tryd.prog 42 #[.int .i64 a] w fun e w' => (∃ m : Nat, e = .returned (.int .u64 m) ∧ IsMask a m) ∧ w' = w := by
  go_enter Tryd.func42, Tryd.ntmps42
  go_wp2
  go_loopw [3] (fun i wr => ∃ k : Nat, k ≤ 21 ∧ i = .int .u64 k ∧ wr = w ∧ Hid (∀ j : Nat, j < k → a ≠ (2 ^ j : Nat))) (fun i _ => 21 - (intOf i).toNat)
  case atStart => exact ⟨0, by omega, rfl, rfl, fun j hj => absurd hj (by omega)⟩
  case round =>
    obtain ⟨k, hk, rfl, hwr, HN⟩ := hrel
    subst wr
    by_cases hlt : k < 21
    · have hk20 : (k : Int) ≤ 20 := by omega
      have hp := pow_i k (by omega)
      have hm := refMask_i k (by omega)
      by_cases he : a = (2 ^ k : Nat)
      · have hb : (a == wrap64 (2 ^ k)) = true := by rw [hp, he]; simp
        have HE := hid he
        clear he hp
        go_wp2
        go_ret
        exact ⟨⟨maskAt k, rfl, .inl ⟨k, by omega, HE.out, rfl⟩⟩, rfl⟩
      · have hb : (a == wrap64 (2 ^ k)) = false := by rw [hp]; simpa using he
        have HE := hid he
        clear he hp
        go_wp2
        go_roundw
        case rel => exact ⟨k + 1, by omega, by go_num, by first | rfl | trivial, fun j hj => by
          by_cases e : j = k
          · subst e; exact HE.out
          · exact HN.out j (by omega)⟩
        case measure => simp [intOf]; omega
    · have e : k = 21 := by omega
      subst e
      go_wp2
      go_ret
      exact ⟨⟨0, rfl, .inr ⟨fun j hj => HN.out j (by omega), rfl⟩⟩, rfl⟩

end Go.Proofs.YtinijgkkmfdfiaaDoor
