/-
  Own arithmetic: the lowest nodes of a set, and rows of nodes. Nothing of a program is said here.
-/
import Derived.Test.YtmedbodjikbmfaaBitF
namespace Go.Proofs.Ytmedbodjikbmfaa

theorem cntM_mono (f : Nat → Bool) {a b : Nat} (h : a ≤ b) : cntK f a ≤ cntK f b := by
  induction b with
  | zero => rw [Nat.le_zero.1 h]; exact Nat.le_refl _
  | succ b ih =>
    rcases Nat.lt_or_eq_of_le h with h1 | rfl
    · have := ih (by omega)
      simp only [cntK]
      omega
    · exact Nat.le_refl _
theorem cntK_next {f : Nat → Bool} {i j : Nat} (hf : f i = true) (h : i < j) : cntK f i + 1 ≤ cntK f j := by
  have := cntM_mono f (show i + 1 ≤ j by omega)
  simp only [cntK, hf, if_true] at this
  exact this
theorem cntK_at {f : Nat → Bool} {k : Nat} : ∀ n, k < cntK f n → ∃ m, m < n ∧ f m = true ∧ cntK f m = k
  | 0, h => by simp [cntK] at h
  | n + 1, h => by
    by_cases h1 : k < cntK f n
    · obtain ⟨m, a, b, c⟩ := cntK_at n h1
      exact ⟨m, by omega, b, c⟩
    · simp only [cntK] at h
      cases hf : f n with
      | true => exact ⟨n, by omega, hf, by simp only [hf, if_true] at h; omega⟩
      | false => simp [hf] at h; omega

/-- The set without its lowest k nodes. -/
def restF (u k : Nat) : Nat → Bool := fun i => u.testBit i && decide (k ≤ cntK u.testBit i)
theorem restF_zero (u : Nat) (hu : u < 18446744073709551616) : ofN (restF u 0) = u := ofN_eq hu fun i _ => by unfold restF; simp

/-- A number and the one before it differ in the lowest bit that is set, and below. -/
theorem and_pred {x m : Nat} (hm : x.testBit m = true) (hlo : ∀ i, i < m → x.testBit i = false) (i : Nat) : (x &&& (x - 1)).testBit i = (x.testBit i && decide (i ≠ m)) := by
  obtain ⟨q, r, hr, e⟩ : ∃ q r, r < 2 ^ m ∧ x = 2 ^ m * q + r := ⟨x / 2 ^ m, x % 2 ^ m, Nat.mod_lt _ (Nat.pow_pos (by decide)), by rw [Nat.div_add_mod]⟩
  have h0 : r = 0 := by
    apply Nat.eq_of_testBit_eq
    intro j
    rw [Nat.zero_testBit]
    by_cases hj : j < m
    · have := hlo j hj
      rw [e, Nat.testBit_two_pow_mul_add _ hr, if_pos hj] at this
      exact this
    · exact Nat.testBit_lt_two_pow (Nat.lt_of_lt_of_le hr (Nat.pow_le_pow_right (by decide) (by omega)))
  subst h0
  rw [Nat.add_zero] at e
  have hq : q % 2 = 1 := by
    rw [e, Nat.testBit_two_pow_mul] at hm
    simp at hm
    exact hm
  have hp : 0 < 2 ^ m := Nat.pow_pos (by decide)
  have e1 : x - 1 = 2 ^ m * (q - 1) + (2 ^ m - 1) := by
    obtain ⟨q', rfl⟩ : ∃ q', q = q' + 1 := ⟨q - 1, by omega⟩
    rw [e, Nat.mul_add, Nat.add_sub_cancel]
    omega
  rw [Nat.testBit_and, e1, Nat.testBit_two_pow_mul_add _ (by omega)]
  by_cases h1 : i < m
  · rw [hlo i h1]; rfl
  · rw [if_neg h1]
    by_cases h2 : i = m
    · subst h2
      have : (q - 1).testBit (i - i) = false := by rw [Nat.sub_self, Nat.testBit_zero]; simp; omega
      rw [this]
      simp
    · rw [e, Nat.testBit_two_pow_mul]
      obtain ⟨d, hd⟩ : ∃ d, i - m = d + 1 := ⟨i - m - 1, by omega⟩
      have : (q - 1).testBit (d + 1) = q.testBit (d + 1) := by
        rw [Nat.testBit_succ, Nat.testBit_succ]
        congr 1
        omega
      rw [hd, this]
      simp [h2]

theorem restF_step {u k : Nat} (hk : k < cntK u.testBit 64) : 0 < ofN (restF u k) ∧ ofN (restF u k) &&& (ofN (restF u k) - 1) = ofN (restF u (k + 1)) := by
  obtain ⟨m, hm, hf, hc⟩ := cntK_at 64 hk
  have hb : (ofN (restF u k)).testBit m = true := by rw [ofN_testBit]; unfold restF; simp [hm, hf, hc]
  have hlo : ∀ i, i < m → (ofN (restF u k)).testBit i = false := by
    intro i hi
    rw [ofN_testBit]
    unfold restF
    cases hfi : u.testBit i with
    | false => simp
    | true =>
      have := cntK_next hfi hi
      simp
      omega
  refine ⟨?_, ?_⟩
  · rcases Nat.eq_zero_or_pos (ofN (restF u k)) with h | h
    · rw [h, Nat.zero_testBit] at hb; cases hb
    · exact h
  · refine (ofN_eq (Nat.lt_of_le_of_lt Nat.and_le_left (ofN_lt _)) fun i hi => ?_).symm
    rw [and_pred hb hlo, ofN_testBit]
    unfold restF
    cases hfi : u.testBit i with
    | false => simp
    | true =>
      simp [hi]
      rw [Bool.eq_iff_iff]
      simp
      by_cases h1 : i = m
      · subst h1; simp; omega
      · by_cases h2 : i < m
        · have := cntK_next hfi h2; omega
        · have := cntK_next hf (show m < i by omega); omega

/-- A row of n nodes from k on. -/
def rowF (k n : Nat) : Nat → Bool := fun i => decide (k ≤ i) && decide (i < k + n)
theorem row_shift {k n : Nat} (h : k + n ≤ 64) : (ofN fun i => decide ((i : Int) < (n : Int))) * 2 ^ k = ofN (rowF k n) := by
  have hx : (ofN fun i => decide ((i : Int) < (n : Int))) < 2 ^ n := by
    have : (ofN fun i => decide ((i : Int) < (n : Int))) = 2 ^ n - 1 := by
      refine ofN_eq ?_ fun i hi => ?_
      · have : 2 ^ n ≤ 2 ^ 64 := Nat.pow_le_pow_right (by decide) (by omega)
        have h2 : 0 < 2 ^ n := Nat.pow_pos (by decide)
        simp only [Nat.reducePow] at this
        omega
      · rw [Nat.testBit_two_pow_sub_one, Bool.eq_iff_iff]; simp
    have h2 : 0 < 2 ^ n := Nat.pow_pos (by decide)
    omega
  have hl : (ofN fun i => decide ((i : Int) < (n : Int))) * 2 ^ k < 18446744073709551616 := by
    have h1 : (ofN fun i => decide ((i : Int) < (n : Int))) * 2 ^ k < 2 ^ n * 2 ^ k := Nat.mul_lt_mul_of_lt_of_le hx (Nat.le_refl _) (Nat.pow_pos (by decide))
    have h2 : 2 ^ n * 2 ^ k ≤ 2 ^ 64 := by rw [← Nat.pow_add]; exact Nat.pow_le_pow_right (by decide) (by omega)
    simp only [Nat.reducePow] at h2
    omega
  refine (ofN_eq hl fun i hi => ?_).symm
  rw [Nat.mul_comm, Nat.testBit_two_pow_mul, ofN_testBit]
  unfold rowF
  rw [Bool.eq_iff_iff]
  simp
  omega
theorem and_row {u k n : Nat} : u &&& ofN (rowF k n) = ofN (rowF k n) ↔ ∀ i, i < 64 → k ≤ i → i < k + n → u.testBit i = true := by
  constructor
  · intro h i hi h1 h2
    have := congrArg (fun x => x.testBit i) h
    simp only [Nat.testBit_and, ofN_testBit] at this
    unfold rowF at this
    simpa [hi, h1, h2] using this
  · intro h
    apply Nat.eq_of_testBit_eq
    intro i
    rw [Nat.testBit_and, ofN_testBit]
    unfold rowF
    by_cases hi : i < 64 ∧ k ≤ i ∧ i < k + n
    · rw [h i hi.1 hi.2.1 hi.2.2]; simp
    · cases u.testBit i with
      | true => simp
      | false => simp; omega

end Go.Proofs.Ytmedbodjikbmfaa
