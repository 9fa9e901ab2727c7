/-
  Own arithmetic: the lowest and the highest node. Nothing of a program is said here.
-/
import Derived.Test.YtpjmogakimelaaaDoorFirstM
import Derived.Lib.Tables
namespace Go.Proofs.YtpjmogakimelaaaDoor

theorem hiK_is {f : Nat → Bool} {m : Nat} (hm : f m = true) : ∀ n, m < n → (∀ i, m < i → i < n → f i = false) → hiK f n = m
  | 0, h, _ => by omega
  | n + 1, h, hh => by
    by_cases e : m = n
    · subst e; simp [hiK, hm]
    · simp only [hiK]
      rw [hh n (by omega) (by omega)]
      exact hiK_is hm n (by omega) fun i h1 h2 => hh i h1 (by omega)
theorem hiK_none {f : Nat → Bool} : ∀ n, (∀ i, i < n → f i = false) → hiK f n = -1
  | 0, _ => rfl
  | n + 1, h => by
    simp only [hiK]
    rw [h n (by omega)]
    exact hiK_none n fun i hi => h i (by omega)
theorem loK_none {f : Nat → Bool} : ∀ n, (∀ i, i < n → f i = false) → loK f n = -1
  | 0, _ => rfl
  | n + 1, h => by
    simp only [loK]
    rw [loK_none n fun i hi => h i (by omega), h n (by omega)]
    rfl
theorem loK_is {f : Nat → Bool} {m : Nat} (hm : f m = true) (hlo : ∀ i, i < m → f i = false) : ∀ n, m < n → loK f n = m
  | 0, h => by omega
  | n + 1, h => by
    simp only [loK]
    by_cases e : m = n
    · subst e
      rw [loK_none m hlo, hm]
      rfl
    · rw [loK_is hm hlo n (by omega), if_neg (by omega)]

theorem lowest {u : Nat} (hu : u < 18446744073709551616) (h0 : u ≠ 0) : ∃ m, m < 64 ∧ u.testBit m = true ∧ ∀ i, i < m → u.testBit i = false := by
  have h : ∃ i, i < 64 ∧ u.testBit i = true := by
    apply Classical.byContradiction
    intro hn
    apply h0
    apply Nat.eq_of_testBit_eq
    intro i
    rw [Nat.zero_testBit]
    by_cases hi : i < 64
    · cases hb : u.testBit i with
      | true => exact (hn ⟨i, hi, hb⟩).elim
      | false => rfl
    · exact bit_high hu (by omega)
  obtain ⟨i, hi, hb⟩ := h
  have key : ∀ n, n ≤ 64 → (∃ i, i < n ∧ u.testBit i = true) → ∃ m, m < 64 ∧ u.testBit m = true ∧ ∀ i, i < m → u.testBit i = false := by
    intro n
    induction n with
    | zero => rintro _ ⟨i, hi, _⟩; omega
    | succ n ih =>
      rintro hn ⟨i, hi, hb⟩
      by_cases h : ∃ j, j < n ∧ u.testBit j = true
      · exact ih (by omega) h
      · by_cases e : i = n
        · subst e
          refine ⟨i, by omega, hb, fun j hj => ?_⟩
          cases hc : u.testBit j with
          | true => exact (h ⟨j, hj, hc⟩).elim
          | false => rfl
        · exact (h ⟨i, by omega, hb⟩).elim
  exact key 64 (by omega) ⟨i, hi, hb⟩

/-- A number and its negative have the lowest bit in common, and no other. -/
theorem and_neg {u m : Nat} (hu : u < 18446744073709551616) (hm : u.testBit m = true) (hm64 : m < 64) (hlo : ∀ i, i < m → u.testBit i = false) : u &&& (18446744073709551616 - u) = 2 ^ m := by
  have hpos : u ≠ 0 := by rintro rfl; simp at hm
  apply Nat.eq_of_testBit_eq
  intro i
  have hp := and_pred hm hlo i
  rw [Nat.testBit_and] at hp
  rw [Nat.testBit_and, Nat.testBit_two_pow]
  have e : 18446744073709551616 - u = 2 ^ 64 - ((u - 1) + 1) := by simp only [Nat.reducePow]; omega
  rw [e, Nat.testBit_two_pow_sub_succ (by simp only [Nat.reducePow]; omega)]
  by_cases hi : i < 64
  · by_cases him : i = m
    · subst him
      rw [hm] at hp ⊢
      simp at hp
      simp [hi, hp]
    · have h2 : m ≠ i := fun e => him e.symm
      simp only [him, ne_eq, not_false_eq_true, decide_true, Bool.and_true] at hp
      simp only [hi, h2, decide_true, decide_false, Bool.true_and]
      cases hb : u.testBit i with
      | false => rfl
      | true => rw [hb, Bool.true_and] at hp; rw [hp]; rfl
  · rw [bit_high hu (by omega)]
    simp
    omega

def debT : List Int := [0, 1, 56, 2, 57, 49, 28, 3, 61, 58, 42, 50, 38, 29, 17, 4, 62, 47, 59, 36, 45, 43, 51, 22, 53, 39, 33, 30, 24, 18, 12, 5, 63, 55, 48, 27, 60, 41, 37, 16, 46, 35, 44, 21, 52, 32, 23, 11, 54, 26, 40, 15, 34, 20, 31, 10, 25, 14, 19, 9, 13, 8, 7, 6]
theorem deb_all : ∀ m : Fin 64, (2 ^ m.val * 285870213051353865 % 18446744073709551616 / 288230376151711744 < 64) ∧ debT.getD (2 ^ m.val * 285870213051353865 % 18446744073709551616 / 288230376151711744) 0 = (m.val : Int) := by decide +kernel

theorem len_all : ∀ q : Fin 256, q.val ≠ 0 → 1 ≤ Lib.len8 (q.val : Int) ∧ Lib.len8 (q.val : Int) ≤ 8 ∧ q.val.testBit ((Lib.len8 (q.val : Int)).toNat - 1) = true ∧ q.val < 2 ^ (Lib.len8 (q.val : Int)).toNat := by decide +kernel
theorem hi_byte {u q s : Nat} (hq : q = u / 2 ^ s) (hq0 : q ≠ 0) (hq8 : q < 256) (hs : s ≤ 56) : hiK u.testBit 64 = (s : Int) + Lib.len8 (q : Int) - 1 := by
  obtain ⟨h1, h2, h3, h4⟩ := len_all ⟨q, hq8⟩ hq0
  simp only at h1 h2 h3 h4
  obtain ⟨n, hn⟩ : ∃ n : Nat, Lib.len8 (q : Int) = (n : Int) + 1 := ⟨(Lib.len8 (q : Int)).toNat - 1, by omega⟩
  rw [hn] at h2 h3 h4 ⊢
  have e : ((n : Int) + 1).toNat = n + 1 := by omega
  rw [e] at h3 h4
  rw [Nat.add_sub_cancel] at h3
  have hb : ∀ i, s ≤ i → u.testBit i = q.testBit (i - s) := by
    intro i hi
    rw [hq, Nat.testBit_div_two_pow]
    congr 1
    omega
  have := hiK_is (f := u.testBit) (m := s + n) (by rw [hb _ (by omega)]; rw [show s + n - s = n by omega]; exact h3) 64 (by omega) (fun i hi _ => by
    rw [hb i (by omega)]
    exact Nat.testBit_lt_two_pow (Nat.lt_of_lt_of_le h4 (Nat.pow_le_pow_right (by decide) (by omega))))
  rw [this]
  omega

end Go.Proofs.YtpjmogakimelaaaDoor
