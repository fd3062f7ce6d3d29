/-
  How many bits of a number below 2 to the 24th are 1, as math/bits.OnesCount64 reckons it: byte by byte; where it is 1: a power of two.
-/
namespace Go.Proofs.YtinijgkkmfdfiaaDoor

theorem and_byte (a b m n : Nat) (ha : a < 256) (hm : m < 256) : (a + 256 * b) &&& (m + 256 * n) = (a &&& m) + 256 * (b &&& n) := by
  have hlt : a &&& m < 2 ^ 8 := Nat.lt_of_le_of_lt Nat.and_le_left ha
  have e1 : ∀ x y : Nat, x < 256 → x + 256 * y = 2 ^ 8 * y ||| x := fun x y hx => by rw [← Nat.two_pow_add_eq_or_of_lt (i := 8) hx, show (2 : Nat) ^ 8 = 256 from rfl]; omega
  rw [e1 a b ha, e1 m n hm, e1 _ _ hlt]
  apply Nat.eq_of_testBit_eq
  intro i
  simp only [Nat.testBit_and, Nat.testBit_or, Nat.testBit_two_pow_mul]
  by_cases h : 8 ≤ i
  · have ha' : a.testBit i = false := Nat.testBit_lt_two_pow (Nat.lt_of_lt_of_le ha (Nat.pow_le_pow_right (n := 2) (by decide) h))
    have hm' : m.testBit i = false := Nat.testBit_lt_two_pow (Nat.lt_of_lt_of_le hm (Nat.pow_le_pow_right (n := 2) (by decide) h))
    simp [h, ha', hm']
  · simp [h]

/-- The steps, of 64 bits. -/
def st1 (x : Nat) : Nat := (x / 2 &&& 6148914691236517205) + (x &&& 6148914691236517205)
def st2 (x : Nat) : Nat := (x / 4 &&& 3689348814741910323) + (x &&& 3689348814741910323)
def st3 (x : Nat) : Nat := (x / 16 + x) &&& 1085102592571150095
def st4 (x : Nat) : Nat := x + x / 256
def st5 (x : Nat) : Nat := x + x / 65536
def st6 (x : Nat) : Nat := x + x / 4294967296
/-- Of a byte. -/
def g1 (a : Nat) : Nat := (a / 2 &&& 85) + (a &&& 85)
def g2 (a : Nat) : Nat := (a / 4 &&& 51) + (a &&& 51)
def g3 (a : Nat) : Nat := (a / 16 + a) &&& 15

theorem b1 : ∀ a, a < 256 → ∀ t, t < 2 → (a / 2 + 128 * t) &&& 85 = a / 2 &&& 85 := by decide +kernel
theorem b2 : ∀ a, a < 256 → ∀ t, t < 4 → (a / 4 + 64 * t) &&& 51 = a / 4 &&& 51 := by decide +kernel
theorem b3 : ∀ a, a < 69 → ∀ t, t < 5 → (a / 16 + 16 * t + a) &&& 15 = (a / 16 + a) &&& 15 := by decide +kernel
theorem c1 : ∀ a, a < 256 → g1 a < 256 := by decide +kernel
theorem c2 : ∀ a, a < 256 → g2 (g1 a) < 69 ∧ g2 (g1 a) % 16 < 5 := by decide +kernel
theorem c3 : ∀ a, a < 256 → g3 (g2 (g1 a)) ≤ 8 ∧ (g3 (g2 (g1 a)) = 0 → a = 0) ∧ (g3 (g2 (g1 a)) = 1 → ∃ k, k < 8 ∧ a = 2 ^ k) := by decide +kernel

theorem and3 (a b c m n : Nat) (ha : a < 256) (hb : b < 256) (hc : c < 256) (hm : m < 256) : (a + 256 * (b + 256 * c)) &&& (m + 256 * (m + 256 * (m + 256 * n))) = (a &&& m) + 256 * ((b &&& m) + 256 * (c &&& m)) := by
  have h := and_byte c 0 m n hc hm
  rw [Nat.mul_zero, Nat.add_zero, Nat.zero_and, Nat.mul_zero, Nat.add_zero] at h
  rw [and_byte _ _ _ _ ha hm, and_byte _ _ _ _ hb hm, h]

theorem st1_bytes (a b c : Nat) (ha : a < 256) (hb : b < 256) (hc : c < 256) : st1 (a + 256 * (b + 256 * c)) = g1 a + 256 * (g1 b + 256 * g1 c) := by
  have hd : (a + 256 * (b + 256 * c)) / 2 = (a / 2 + 128 * (b % 2)) + 256 * ((b / 2 + 128 * (c % 2)) + 256 * (c / 2)) := by omega
  have hM : (6148914691236517205 : Nat) = 85 + 256 * (85 + 256 * (85 + 256 * (6148914691236517205 / 16777216))) := by decide
  have h1 := and3 (a / 2 + 128 * (b % 2)) (b / 2 + 128 * (c % 2)) (c / 2) 85 (6148914691236517205 / 16777216) (by omega) (by omega) (by omega) (by decide)
  have h2 := and3 a b c 85 (6148914691236517205 / 16777216) ha hb hc (by decide)
  rw [← hM] at h1 h2
  rw [st1, hd, h1, h2, b1 a ha _ (by omega), b1 b hb _ (by omega), g1, g1, g1]
  omega
theorem st2_bytes (a b c : Nat) (ha : a < 256) (hb : b < 256) (hc : c < 256) : st2 (a + 256 * (b + 256 * c)) = g2 a + 256 * (g2 b + 256 * g2 c) := by
  have hd : (a + 256 * (b + 256 * c)) / 4 = (a / 4 + 64 * (b % 4)) + 256 * ((b / 4 + 64 * (c % 4)) + 256 * (c / 4)) := by omega
  have hM : (3689348814741910323 : Nat) = 51 + 256 * (51 + 256 * (51 + 256 * (3689348814741910323 / 16777216))) := by decide
  have h1 := and3 (a / 4 + 64 * (b % 4)) (b / 4 + 64 * (c % 4)) (c / 4) 51 (3689348814741910323 / 16777216) (by omega) (by omega) (by omega) (by decide)
  have h2 := and3 a b c 51 (3689348814741910323 / 16777216) ha hb hc (by decide)
  rw [← hM] at h1 h2
  rw [st2, hd, h1, h2, b2 a ha _ (by omega), b2 b hb _ (by omega), g2, g2, g2]
  omega
theorem st3_bytes (a b c : Nat) (ha : a < 69) (hb : b < 69) (hc : c < 69) (hb' : b % 16 < 5) (hc' : c % 16 < 5) : st3 (a + 256 * (b + 256 * c)) = g3 a + 256 * (g3 b + 256 * g3 c) := by
  have hd : (a + 256 * (b + 256 * c)) / 16 + (a + 256 * (b + 256 * c)) = (a / 16 + 16 * (b % 16) + a) + 256 * ((b / 16 + 16 * (c % 16) + b) + 256 * (c / 16 + c)) := by omega
  have hM : (1085102592571150095 : Nat) = 15 + 256 * (15 + 256 * (15 + 256 * (1085102592571150095 / 16777216))) := by decide
  have h1 := and3 (a / 16 + 16 * (b % 16) + a) (b / 16 + 16 * (c % 16) + b) (c / 16 + c) 15 (1085102592571150095 / 16777216) (by omega) (by omega) (by omega) (by decide)
  rw [← hM] at h1
  rw [st3, hd, h1, b3 a ha _ hb', b3 b hb _ hc', g3, g3, g3]
theorem st456' : ∀ p, p < 9 → ∀ q, q < 9 → ∀ r, r < 9 → st6 (st5 (st4 (p + 256 * (q + 256 * r)))) % 128 = p + q + r := by decide +kernel
theorem st456 (p q r : Nat) (hp : p ≤ 8) (hq : q ≤ 8) (hr : r ≤ 8) : st6 (st5 (st4 (p + 256 * (q + 256 * r)))) % 128 = p + q + r := st456' p (by omega) q (by omega) r (by omega)

/-- The whole. -/
def pop (x : Nat) : Nat := st6 (st5 (st4 (st3 (st2 (st1 x))))) % 128

theorem pop_bytes (a b c : Nat) (ha : a < 256) (hb : b < 256) (hc : c < 256) : pop (a + 256 * (b + 256 * c)) = g3 (g2 (g1 a)) + g3 (g2 (g1 b)) + g3 (g2 (g1 c)) := by
  rw [pop, st1_bytes a b c ha hb hc, st2_bytes _ _ _ (c1 a ha) (c1 b hb) (c1 c hc), st3_bytes _ _ _ (c2 a ha).1 (c2 b hb).1 (c2 c hc).1 (c2 b hb).2 (c2 c hc).2, st456 _ _ _ (c3 a ha).1 (c3 b hb).1 (c3 c hc).1]

/-- One bit alone: a power of two. -/
theorem pop_one (x : Nat) (hx : x < 16777216) (h : pop x = 1) : ∃ k, k < 24 ∧ x = 2 ^ k := by
  have e : x = x % 256 + 256 * (x / 256 % 256 + 256 * (x / 65536)) := by omega
  have h' := pop_bytes (x % 256) (x / 256 % 256) (x / 65536) (by omega) (by omega) (by omega)
  rw [← e, h] at h'
  have pa := c3 (x % 256) (by omega)
  have pb := c3 (x / 256 % 256) (by omega)
  have pc := c3 (x / 65536) (by omega)
  generalize g3 (g2 (g1 (x % 256))) = p at *
  generalize g3 (g2 (g1 (x / 256 % 256))) = q at *
  generalize g3 (g2 (g1 (x / 65536))) = r at *
  have three : (p = 1 ∧ q = 0 ∧ r = 0) ∨ (p = 0 ∧ q = 1 ∧ r = 0) ∨ (p = 0 ∧ q = 0 ∧ r = 1) := by omega
  rcases three with ⟨h1, h2, h3⟩ | ⟨h1, h2, h3⟩ | ⟨h1, h2, h3⟩
  · obtain ⟨k, hk, ek⟩ := pa.2.2 h1
    have z1 := pb.2.1 h2
    have z2 := pc.2.1 h3
    exact ⟨k, by omega, by omega⟩
  · obtain ⟨k, hk, ek⟩ := pb.2.2 h2
    have z1 := pa.2.1 h1
    have z2 := pc.2.1 h3
    exact ⟨k + 8, by omega, by rw [Nat.pow_add]; omega⟩
  · obtain ⟨k, hk, ek⟩ := pc.2.2 h3
    have z1 := pa.2.1 h1
    have z2 := pb.2.1 h2
    exact ⟨k + 16, by omega, by rw [Nat.pow_add]; omega⟩
theorem pop_pow : ∀ k, k < 21 → pop (2 ^ k) = 1 := by decide +kernel

/-- Nothing outgrows 64 bits. -/
theorem pop_small (x : Nat) (hx : x < 16777216) : st1 x < 4294967296 ∧ st2 (st1 x) < 4294967296 ∧ (st2 (st1 x) / 16 + st2 (st1 x)) < 18446744073709551616 ∧ st3 (st2 (st1 x)) < 4294967296 := by
  have e : x = x % 256 + 256 * (x / 256 % 256 + 256 * (x / 65536)) := by omega
  have a1 := c1 (x % 256) (by omega)
  have a2 := c1 (x / 256 % 256) (by omega)
  have a3 := c1 (x / 65536) (by omega)
  have s1 := st1_bytes (x % 256) (x / 256 % 256) (x / 65536) (by omega) (by omega) (by omega)
  rw [← e] at s1
  have s2 := st2_bytes _ _ _ a1 a2 a3
  rw [← s1] at s2
  have d1 := c2 (x % 256) (by omega)
  have d2 := c2 (x / 256 % 256) (by omega)
  have d3 := c2 (x / 65536) (by omega)
  have s3 := st3_bytes _ _ _ d1.1 d2.1 d3.1 d2.2 d3.2
  rw [← s2] at s3
  have f1 := (c3 (x % 256) (by omega)).1
  have f2 := (c3 (x / 256 % 256) (by omega)).1
  have f3 := (c3 (x / 65536) (by omega)).1
  omega

end Go.Proofs.YtinijgkkmfdfiaaDoor
