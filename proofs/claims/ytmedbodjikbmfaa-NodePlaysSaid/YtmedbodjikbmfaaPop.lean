/-
  Own arithmetic: the bits of a number of 64 bits, counted side by side. Nothing of a program is said here.
-/
import Derived.Test.YtmedbodjikbmfaaBitF
namespace Go.Proofs.Ytmedbodjikbmfaa

theorem bit_byte {b x i : Nat} (hb : b < 256) : (b + 256 * x).testBit i = if i < 8 then b.testBit i else x.testBit (i - 8) := by
  have := Nat.testBit_two_pow_mul_add x (i := 8) (show b < 2 ^ 8 from hb) i
  rw [show b + 256 * x = 2 ^ 8 * x + b by omega]
  exact this
theorem bit_big {b i : Nat} (hb : b < 256) (hi : 8 ≤ i) : b.testBit i = false :=
  Nat.testBit_lt_two_pow (Nat.lt_of_lt_of_le hb (show 2 ^ 8 ≤ 2 ^ i from Nat.pow_le_pow_right (by decide) hi))
theorem and_lt {b c : Nat} (hc : c < 256) : b &&& c < 256 := Nat.lt_of_le_of_lt Nat.and_le_right hc

/-- A mask, a byte at a time. -/
theorem and_byte {b c x y : Nat} (hb : b < 256) (hc : c < 256) : (b + 256 * x) &&& (c + 256 * y) = (b &&& c) + 256 * (x &&& y) := by
  apply Nat.eq_of_testBit_eq
  intro i
  rw [Nat.testBit_and, bit_byte hb, bit_byte hc, bit_byte (and_lt hc), Nat.testBit_and, Nat.testBit_and]
  split <;> rfl
/-- The same behind a shift, where the mask's top bits are none. -/
theorem shift_byte {b c x y s t : Nat} (hb : b < 256) (hst : s + t = 8) (hc : c < 2 ^ t) : ((b + 256 * x) >>> s) &&& (c + 256 * y) = ((b >>> s) &&& c) + 256 * ((x >>> s) &&& y) := by
  have hc8 : c < 256 := Nat.lt_of_lt_of_le hc (show 2 ^ t ≤ 2 ^ 8 from Nat.pow_le_pow_right (by decide) (by omega))
  apply Nat.eq_of_testBit_eq
  intro i
  rw [Nat.testBit_and, Nat.testBit_shiftRight, bit_byte hb, bit_byte hc8, bit_byte (and_lt hc8), Nat.testBit_and, Nat.testBit_and, Nat.testBit_shiftRight, Nat.testBit_shiftRight]
  by_cases hi : i < 8
  · simp only [hi, if_true]
    by_cases h2 : s + i < 8
    · simp only [h2, if_true]
    · have hz : c.testBit i = false := Nat.testBit_lt_two_pow (Nat.lt_of_lt_of_le hc (Nat.pow_le_pow_right (by decide) (by omega)))
      simp [hz]
  · have h2 : ¬ s + i < 8 := by omega
    simp only [hi, h2, if_false]
    rw [show s + i - 8 = s + (i - 8) by omega]

def g1 (b : Nat) : Nat := ((b >>> 1) &&& 85) + (b &&& 85)
def g2 (b : Nat) : Nat := ((b >>> 2) &&& 51) + (b &&& 51)
theorem g_all : ∀ b, b < 256 → g1 b < 256 ∧ g2 (g1 b) % 16 ≤ 4 ∧ g2 (g1 b) / 16 ≤ 4 ∧ g2 (g1 b) < 256 ∧ g2 (g1 b) % 16 + g2 (g1 b) / 16 = cntK b.testBit 8 := by decide +kernel

theorem step1 {b x m : Nat} (hb : b < 256) : ((b + 256 * x) >>> 1 &&& (85 + 256 * m)) + ((b + 256 * x) &&& (85 + 256 * m)) = g1 b + 256 * ((x >>> 1 &&& m) + (x &&& m)) := by
  rw [shift_byte hb (show 1 + 7 = 8 from rfl) (by decide), and_byte hb (by decide)]
  unfold g1
  omega
theorem step2 {b x m : Nat} (hb : b < 256) : ((b + 256 * x) >>> 2 &&& (51 + 256 * m)) + ((b + 256 * x) &&& (51 + 256 * m)) = g2 b + 256 * ((x >>> 2 &&& m) + (x &&& m)) := by
  rw [shift_byte hb (show 2 + 6 = 8 from rfl) (by decide), and_byte hb (by decide)]
  unfold g2
  omega
theorem cnt_byte {b x : Nat} (hb : b < 256) (k : Nat) : cntK (b + 256 * x).testBit (8 + k) = cntK b.testBit 8 + cntK x.testBit k := by
  induction k with
  | zero =>
    show cntK _ 8 = cntK _ 8 + 0
    rw [Nat.add_zero]
    apply cntK_congr
    intro i hi
    rw [bit_byte hb, if_pos hi]
  | succ k ih =>
    have e : (b + 256 * x).testBit (8 + k) = x.testBit k := by rw [bit_byte hb, if_neg (by omega), show 8 + k - 8 = k by omega]
    show cntK (b + 256 * x).testBit (8 + k) + (if (b + 256 * x).testBit (8 + k) then 1 else 0) = cntK b.testBit 8 + (cntK x.testBit k + (if x.testBit k then 1 else 0))
    rw [ih, e, Nat.add_assoc]

/-- A number as eight bytes. -/
theorem bytes8 (u : Nat) (hu : u < 18446744073709551616) : ∃ b0 b1 b2 b3 b4 b5 b6 b7 : Nat, b0 < 256 ∧ b1 < 256 ∧ b2 < 256 ∧ b3 < 256 ∧ b4 < 256 ∧ b5 < 256 ∧ b6 < 256 ∧ b7 < 256 ∧
    u = b0 + 256 * (b1 + 256 * (b2 + 256 * (b3 + 256 * (b4 + 256 * (b5 + 256 * (b6 + 256 * (b7 + 256 * 0))))))) :=
  ⟨u % 256, u / 256 % 256, u / 65536 % 256, u / 16777216 % 256, u / 4294967296 % 256, u / 1099511627776 % 256, u / 281474976710656 % 256, u / 72057594037927936, by omega, by omega, by omega, by omega, by omega, by omega, by omega, by omega, by omega⟩

theorem mask85 : 6148914691236517205 = 85 + 256 * (85 + 256 * (85 + 256 * (85 + 256 * (85 + 256 * (85 + 256 * (85 + 256 * (85 + 256 * 0))))))) := rfl
theorem mask51 : 3689348814741910323 = 51 + 256 * (51 + 256 * (51 + 256 * (51 + 256 * (51 + 256 * (51 + 256 * (51 + 256 * (51 + 256 * 0))))))) := rfl
theorem mask15 : 1085102592571150095 = 15 + 256 * (15 + 256 * (15 + 256 * (15 + 256 * (15 + 256 * (15 + 256 * (15 + 256 * (15 + 256 * 0))))))) := rfl

/-- The last steps, over bytes of two halves each. -/
theorem fold_halves (n0 n1 n2 n3 n4 n5 n6 n7 : Nat) (h0 : n0 % 16 ≤ 4 ∧ n0 / 16 ≤ 4) (h1 : n1 % 16 ≤ 4 ∧ n1 / 16 ≤ 4) (h2 : n2 % 16 ≤ 4 ∧ n2 / 16 ≤ 4) (h3 : n3 % 16 ≤ 4 ∧ n3 / 16 ≤ 4)
    (h4 : n4 % 16 ≤ 4 ∧ n4 / 16 ≤ 4) (h5 : n5 % 16 ≤ 4 ∧ n5 / 16 ≤ 4) (h6 : n6 % 16 ≤ 4 ∧ n6 / 16 ≤ 4) (h7 : n7 % 16 ≤ 4 ∧ n7 / 16 ≤ 4) :
    ((n0 + 256 * (n1 + 256 * (n2 + 256 * (n3 + 256 * (n4 + 256 * (n5 + 256 * (n6 + 256 * (n7 + 256 * 0)))))))) >>> 4 + (n0 + 256 * (n1 + 256 * (n2 + 256 * (n3 + 256 * (n4 + 256 * (n5 + 256 * (n6 + 256 * (n7 + 256 * 0))))))))) &&& 1085102592571150095 =
    (n0 % 16 + n0 / 16) + 256 * ((n1 % 16 + n1 / 16) + 256 * ((n2 % 16 + n2 / 16) + 256 * ((n3 % 16 + n3 / 16) + 256 * ((n4 % 16 + n4 / 16) + 256 * ((n5 % 16 + n5 / 16) + 256 * ((n6 % 16 + n6 / 16) + 256 * ((n7 % 16 + n7 / 16) + 256 * 0))))))) := by
  have e : (n0 + 256 * (n1 + 256 * (n2 + 256 * (n3 + 256 * (n4 + 256 * (n5 + 256 * (n6 + 256 * (n7 + 256 * 0)))))))) >>> 4 + (n0 + 256 * (n1 + 256 * (n2 + 256 * (n3 + 256 * (n4 + 256 * (n5 + 256 * (n6 + 256 * (n7 + 256 * 0)))))))) =
      ((n0 % 16 + n0 / 16) + 16 * (n0 / 16 + n1 % 16)) + 256 * (((n1 % 16 + n1 / 16) + 16 * (n1 / 16 + n2 % 16)) + 256 * (((n2 % 16 + n2 / 16) + 16 * (n2 / 16 + n3 % 16)) + 256 * (((n3 % 16 + n3 / 16) + 16 * (n3 / 16 + n4 % 16)) +
      256 * (((n4 % 16 + n4 / 16) + 16 * (n4 / 16 + n5 % 16)) + 256 * (((n5 % 16 + n5 / 16) + 16 * (n5 / 16 + n6 % 16)) + 256 * (((n6 % 16 + n6 / 16) + 16 * (n6 / 16 + n7 % 16)) + 256 * (((n7 % 16 + n7 / 16) + 16 * (n7 / 16)) + 256 * 0))))))) := by
    rw [Nat.shiftRight_eq_div_pow]
    omega
  have a15 : ∀ s t : Nat, s ≤ 8 → (s + 16 * t) &&& 15 = s := fun s t hs => by
    rw [show (15 : Nat) = 2 ^ 4 - 1 from rfl, Nat.and_two_pow_sub_one_eq_mod]
    omega
  rw [e, mask15]
  iterate 8 rw [and_byte (by omega) (by decide), a15 _ _ (by omega)]
  simp

theorem sum_bytes (p0 p1 p2 p3 p4 p5 p6 p7 : Nat) (h0 : p0 ≤ 8) (h1 : p1 ≤ 8) (h2 : p2 ≤ 8) (h3 : p3 ≤ 8) (h4 : p4 ≤ 8) (h5 : p5 ≤ 8) (h6 : p6 ≤ 8) (h7 : p7 ≤ 8) (x3 x4 x5 x6 : Nat)
    (e3 : x3 = p0 + 256 * (p1 + 256 * (p2 + 256 * (p3 + 256 * (p4 + 256 * (p5 + 256 * (p6 + 256 * (p7 + 256 * 0)))))))) (e4 : x4 = x3 + x3 >>> 8) (e5 : x5 = x4 + x4 >>> 16) (e6 : x6 = x5 + x5 >>> 32) :
    x4 < 18446744073709551616 ∧ x5 < 18446744073709551616 ∧ x6 < 18446744073709551616 ∧ x6 &&& 127 = p0 + p1 + p2 + p3 + p4 + p5 + p6 + p7 := by
  rw [Nat.shiftRight_eq_div_pow] at e4 e5 e6
  simp only [Nat.reducePow] at e4 e5 e6
  have dv : ∀ a b m : Nat, a < m → (a + m * b) / m = b := fun a b m h => by rw [Nat.add_mul_div_left _ _ (by omega), Nat.div_eq_of_lt h, Nat.zero_add]
  obtain ⟨X, hX⟩ : ∃ X, X = p1 + 256 * (p2 + 256 * (p3 + 256 * (p4 + 256 * (p5 + 256 * (p6 + 256 * (p7 + 256 * 0)))))) := ⟨_, rfl⟩
  obtain ⟨Y, hY⟩ : ∃ Y, Y = (p2 + p3) + 256 * ((p3 + p4) + 256 * ((p4 + p5) + 256 * ((p5 + p6) + 256 * ((p6 + p7) + 256 * p7)))) := ⟨_, rfl⟩
  obtain ⟨Z, hZ⟩ : ∃ Z, Z = (p4 + p5 + p6 + p7) + 256 * ((p5 + p6 + p7) + 256 * ((p6 + p7) + 256 * p7)) := ⟨_, rfl⟩
  have d3 : x3 = p0 + 256 * X := by rw [e3, hX]
  have v3 : x3 / 256 = X := by rw [d3]; exact dv _ _ _ (by omega)
  rw [v3] at e4
  have d4 : x4 = ((p0 + p1) + 256 * (p1 + p2)) + 65536 * Y := by omega
  have v4 : x4 / 65536 = Y := by rw [d4]; exact dv _ _ _ (by omega)
  rw [v4] at e5
  have d5 : x5 = ((p0 + p1 + p2 + p3) + 256 * ((p1 + p2 + p3 + p4) + 256 * ((p2 + p3 + p4 + p5) + 256 * (p3 + p4 + p5 + p6)))) + 4294967296 * Z := by omega
  have v5 : x5 / 4294967296 = Z := by rw [d5]; exact dv _ _ _ (by omega)
  rw [v5] at e6
  have b4 : x4 < 18446744073709551616 := by clear e3 e5 e6 v3 v4 v5 d5 hZ hX; omega
  have b5 : x5 < 18446744073709551616 := by clear e3 e4 e5 e6 v3 v4 v5 d3 d4 hY hX; omega
  clear e3 e4 e5 v3 v4 v5 dv d3 d4 hX hY
  rw [d5] at e6
  have b6 : x6 < 18446744073709551616 := by clear d5; omega
  refine ⟨b4, b5, b6, ?_⟩
  clear d5 b4 b5 b6
  rw [show (127 : Nat) = 2 ^ 7 - 1 from rfl, Nat.and_two_pow_sub_one_eq_mod]
  simp only [Nat.reducePow]
  obtain ⟨W, hW⟩ : ∃ W, Z = (p4 + p5 + p6 + p7) + 256 * W := ⟨_, hZ⟩
  clear hZ
  omega

def c1 (u : Nat) : Nat := (u >>> 1 &&& 6148914691236517205) + (u &&& 6148914691236517205)
def c2 (u : Nat) : Nat := (u >>> 2 &&& 3689348814741910323) + (u &&& 3689348814741910323)
def c3 (u : Nat) : Nat := (u >>> 4 + u) &&& 1085102592571150095

theorem lt_byte {b x m : Nat} (h : b < 256) (hx : x < m) : b + 256 * x < 256 * m := by omega
theorem bound8 {b0 b1 b2 b3 b4 b5 b6 b7 : Nat} (h0 : b0 < 256) (h1 : b1 < 256) (h2 : b2 < 256) (h3 : b3 < 256) (h4 : b4 < 256) (h5 : b5 < 256) (h6 : b6 < 256) (h7 : b7 < 256) :
    b0 + 256 * (b1 + 256 * (b2 + 256 * (b3 + 256 * (b4 + 256 * (b5 + 256 * (b6 + 256 * (b7 + 256 * 0))))))) < 18446744073709551616 :=
  Nat.lt_of_lt_of_le (lt_byte h0 (lt_byte h1 (lt_byte h2 (lt_byte h3 (lt_byte h4 (lt_byte h5 (lt_byte h6 (lt_byte h7 (Nat.zero_lt_one))))))))) (by decide)
theorem bound7 {b0 b1 b2 b3 b4 b5 b6 b7 : Nat} (h0 : b0 ≤ 68) (h1 : b1 ≤ 68) (h2 : b2 ≤ 68) (h3 : b3 ≤ 68) (h4 : b4 ≤ 68) (h5 : b5 ≤ 68) (h6 : b6 ≤ 68) (h7 : b7 ≤ 68) :
    b0 + 256 * (b1 + 256 * (b2 + 256 * (b3 + 256 * (b4 + 256 * (b5 + 256 * (b6 + 256 * (b7 + 256 * 0))))))) < 9223372036854775808 :=
  Nat.lt_of_lt_of_le (lt_byte (show b0 < 256 by omega) (lt_byte (show b1 < 256 by omega) (lt_byte (show b2 < 256 by omega) (lt_byte (show b3 < 256 by omega) (lt_byte (show b4 < 256 by omega) (lt_byte (show b5 < 256 by omega) (lt_byte (show b6 < 256 by omega) (show b7 + 256 * 0 < 128 by omega)))))))) (by decide)
theorem half (n : Nat) (h : n % 16 ≤ 4 ∧ n / 16 ≤ 4) : n ≤ 68 ∧ n % 16 + n / 16 ≤ 8 := by omega
theorem c1_bytes {b0 b1 b2 b3 b4 b5 b6 b7 : Nat} (k0 : b0 < 256) (k1 : b1 < 256) (k2 : b2 < 256) (k3 : b3 < 256) (k4 : b4 < 256) (k5 : b5 < 256) (k6 : b6 < 256) (k7 : b7 < 256) :
    c1 (b0 + 256 * (b1 + 256 * (b2 + 256 * (b3 + 256 * (b4 + 256 * (b5 + 256 * (b6 + 256 * (b7 + 256 * 0)))))))) = g1 b0 + 256 * (g1 b1 + 256 * (g1 b2 + 256 * (g1 b3 + 256 * (g1 b4 + 256 * (g1 b5 + 256 * (g1 b6 + 256 * (g1 b7 + 256 * 0))))))) := by
  unfold c1
  rw [mask85, step1 k0, step1 k1, step1 k2, step1 k3, step1 k4, step1 k5, step1 k6, step1 k7]
  simp
theorem c2_bytes {b0 b1 b2 b3 b4 b5 b6 b7 : Nat} (k0 : b0 < 256) (k1 : b1 < 256) (k2 : b2 < 256) (k3 : b3 < 256) (k4 : b4 < 256) (k5 : b5 < 256) (k6 : b6 < 256) (k7 : b7 < 256) :
    c2 (b0 + 256 * (b1 + 256 * (b2 + 256 * (b3 + 256 * (b4 + 256 * (b5 + 256 * (b6 + 256 * (b7 + 256 * 0)))))))) = g2 b0 + 256 * (g2 b1 + 256 * (g2 b2 + 256 * (g2 b3 + 256 * (g2 b4 + 256 * (g2 b5 + 256 * (g2 b6 + 256 * (g2 b7 + 256 * 0))))))) := by
  unfold c2
  rw [mask51, step2 k0, step2 k1, step2 k2, step2 k3, step2 k4, step2 k5, step2 k6, step2 k7]
  simp
theorem cnt_bytes {b0 b1 b2 b3 b4 b5 b6 b7 : Nat} (k0 : b0 < 256) (k1 : b1 < 256) (k2 : b2 < 256) (k3 : b3 < 256) (k4 : b4 < 256) (k5 : b5 < 256) (k6 : b6 < 256) :
    cntK (b0 + 256 * (b1 + 256 * (b2 + 256 * (b3 + 256 * (b4 + 256 * (b5 + 256 * (b6 + 256 * (b7 + 256 * 0)))))))).testBit 64 = cntK b0.testBit 8 + (cntK b1.testBit 8 + (cntK b2.testBit 8 + (cntK b3.testBit 8 + (cntK b4.testBit 8 + (cntK b5.testBit 8 + (cntK b6.testBit 8 + cntK b7.testBit 8)))))) := by
  refine (cnt_byte k0 56).trans (congrArg (cntK b0.testBit 8 + ·) ?_)
  refine (cnt_byte k1 48).trans (congrArg (cntK b1.testBit 8 + ·) ?_)
  refine (cnt_byte k2 40).trans (congrArg (cntK b2.testBit 8 + ·) ?_)
  refine (cnt_byte k3 32).trans (congrArg (cntK b3.testBit 8 + ·) ?_)
  refine (cnt_byte k4 24).trans (congrArg (cntK b4.testBit 8 + ·) ?_)
  refine (cnt_byte k5 16).trans (congrArg (cntK b5.testBit 8 + ·) ?_)
  refine (cnt_byte k6 8).trans (congrArg (cntK b6.testBit 8 + ·) ?_)
  rw [Nat.mul_zero, Nat.add_zero]

/-- Counting side by side is counting. -/
theorem pop64 (u : Nat) (hu : u < 18446744073709551616) (x4 x5 x6 : Nat) (e4 : x4 = c3 (c2 (c1 u)) + c3 (c2 (c1 u)) >>> 8) (e5 : x5 = x4 + x4 >>> 16) (e6 : x6 = x5 + x5 >>> 32) :
    c1 u < 18446744073709551616 ∧ c2 (c1 u) < 9223372036854775808 ∧ x4 < 18446744073709551616 ∧ x5 < 18446744073709551616 ∧ x6 < 18446744073709551616 ∧ x6 &&& 127 = cntK u.testBit 64 := by
  obtain ⟨b0, b1, b2, b3, b4, b5, b6, b7, k0, k1, k2, k3, k4, k5, k6, k7, rfl⟩ := bytes8 u hu
  obtain ⟨l0, m0, n0, o0, q0⟩ := g_all b0 k0
  obtain ⟨l1, m1, n1, o1, q1⟩ := g_all b1 k1
  obtain ⟨l2, m2, n2, o2, q2⟩ := g_all b2 k2
  obtain ⟨l3, m3, n3, o3, q3⟩ := g_all b3 k3
  obtain ⟨l4, m4, n4, o4, q4⟩ := g_all b4 k4
  obtain ⟨l5, m5, n5, o5, q5⟩ := g_all b5 k5
  obtain ⟨l6, m6, n6, o6, q6⟩ := g_all b6 k6
  obtain ⟨l7, m7, n7, o7, q7⟩ := g_all b7 k7
  rw [c1_bytes k0 k1 k2 k3 k4 k5 k6 k7, c2_bytes l0 l1 l2 l3 l4 l5 l6 l7] at *
  rw [cnt_bytes k0 k1 k2 k3 k4 k5 k6, ← q0, ← q1, ← q2, ← q3, ← q4, ← q5, ← q6, ← q7]
  have hc3 := fold_halves (g2 (g1 b0)) (g2 (g1 b1)) (g2 (g1 b2)) (g2 (g1 b3)) (g2 (g1 b4)) (g2 (g1 b5)) (g2 (g1 b6)) (g2 (g1 b7)) ⟨m0, n0⟩ ⟨m1, n1⟩ ⟨m2, n2⟩ ⟨m3, n3⟩ ⟨m4, n4⟩ ⟨m5, n5⟩ ⟨m6, n6⟩ ⟨m7, n7⟩
  unfold c3 at e4
  have hs := sum_bytes _ _ _ _ _ _ _ _ (half _ ⟨m0, n0⟩).2 (half _ ⟨m1, n1⟩).2 (half _ ⟨m2, n2⟩).2 (half _ ⟨m3, n3⟩).2 (half _ ⟨m4, n4⟩).2 (half _ ⟨m5, n5⟩).2 (half _ ⟨m6, n6⟩).2 (half _ ⟨m7, n7⟩).2 _ x4 x5 x6 hc3 e4 e5 e6
  refine ⟨bound8 l0 l1 l2 l3 l4 l5 l6 l7, bound7 (half _ ⟨m0, n0⟩).1 (half _ ⟨m1, n1⟩).1 (half _ ⟨m2, n2⟩).1 (half _ ⟨m3, n3⟩).1 (half _ ⟨m4, n4⟩).1 (half _ ⟨m5, n5⟩).1 (half _ ⟨m6, n6⟩).1 (half _ ⟨m7, n7⟩).1, hs.1, hs.2.1, hs.2.2.1, ?_⟩
  rw [hs.2.2.2]
  simp only [Nat.add_assoc]

end Go.Proofs.Ytmedbodjikbmfaa
