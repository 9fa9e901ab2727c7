/-
  Own arithmetic: sets of up to 64 nodes as numbers, as truths for each node, and what is counted over them. Nothing of a program is said here.
-/
import Derived.WalkKit
namespace Go.Proofs.Ytmedbodjikbmfaa

/-- The number whose bits below k are the truths of f. -/
def ofK (f : Nat → Bool) : Nat → Nat
  | 0 => 0
  | k + 1 => ofK f k + (if f k then 2 ^ k else 0)

theorem ofK_lt (f : Nat → Bool) (k : Nat) : ofK f k < 2 ^ k := by
  induction k with
  | zero => simp [ofK]
  | succ k ih =>
    simp only [ofK, Nat.pow_succ]
    split <;> omega

theorem ofK_testBit (f : Nat → Bool) (k i : Nat) : (ofK f k).testBit i = (decide (i < k) && f i) := by
  induction k with
  | zero => simp [ofK]
  | succ k ih =>
    have hlt := ofK_lt f k
    have e : ofK f (k + 1) = 2 ^ k * (if f k then 1 else 0) + ofK f k := by
      simp only [ofK]
      split <;> omega
    rw [e, Nat.testBit_two_pow_mul_add _ hlt, ih]
    by_cases h : i < k
    · simp [h, show i < k + 1 by omega]
    · by_cases h2 : i = k
      · subst h2
        simp
        cases f i <;> rfl
      · have : (if f k = true then 1 else 0).testBit (i - k) = false := by
          have h3 : 0 < i - k := by omega
          split
          · exact Nat.testBit_lt_two_pow (Nat.one_lt_two_pow (by omega))
          · simp
        simp [this, h, show ¬ i < k + 1 by omega]

/-- The set of the nodes at which f says yes. -/
def ofN (f : Nat → Bool) : Nat := ofK f 64
theorem ofN_lt (f : Nat → Bool) : ofN f < 18446744073709551616 := ofK_lt f 64
theorem ofN_testBit (f : Nat → Bool) (i : Nat) : (ofN f).testBit i = (decide (i < 64) && f i) := ofK_testBit f 64 i
theorem bit_high {u i : Nat} (hu : u < 18446744073709551616) (hi : 64 ≤ i) : u.testBit i = false :=
  Nat.testBit_lt_two_pow (Nat.lt_of_lt_of_le hu (show 2 ^ 64 ≤ 2 ^ i from Nat.pow_le_pow_right (by decide) hi))
/-- Two sets are one where they hold the same nodes. -/
theorem ofN_eq {f : Nat → Bool} {u : Nat} (hu : u < 18446744073709551616) (h : ∀ i, i < 64 → f i = u.testBit i) : ofN f = u := by
  apply Nat.eq_of_testBit_eq
  intro i
  rw [ofN_testBit]
  by_cases hi : i < 64
  · simp [hi, h i hi]
  · rw [bit_high hu (Nat.le_of_not_lt hi)]; simp [hi]
theorem ofN_congr {f g : Nat → Bool} (h : ∀ i, i < 64 → f i = g i) : ofN f = ofN g :=
  ofN_eq (ofN_lt g) fun i hi => by rw [ofN_testBit, h i hi]; simp [hi]
theorem ofK_congr {f g : Nat → Bool} (k : Nat) (h : ∀ i, i < k → f i = g i) : ofK f k = ofK g k := by
  induction k with
  | zero => rfl
  | succ k ih => simp only [ofK]; rw [ih fun i hi => h i (by omega), h k (by omega)]

/-- How many of the first k. -/
def cntK (f : Nat → Bool) : Nat → Nat
  | 0 => 0
  | k + 1 => cntK f k + (if f k then 1 else 0)
/-- The last of the first k; -1: none. -/
def hiK (f : Nat → Bool) : Nat → Int
  | 0 => -1
  | k + 1 => if f k then k else hiK f k
/-- The first of the first k; -1: none. -/
def loK (f : Nat → Bool) : Nat → Int
  | 0 => -1
  | k + 1 => if loK f k < 0 then (if f k then k else -1) else loK f k
theorem cntK_le (f : Nat → Bool) (k : Nat) : cntK f k ≤ k := by
  induction k with
  | zero => simp [cntK]
  | succ k ih => simp only [cntK]; split <;> omega
theorem hiK_range (f : Nat → Bool) (k : Nat) : -1 ≤ hiK f k ∧ hiK f k < k := by
  induction k with
  | zero => simp [hiK]
  | succ k ih => simp only [hiK]; split <;> omega
theorem loK_range (f : Nat → Bool) (k : Nat) : -1 ≤ loK f k ∧ loK f k < k := by
  induction k with
  | zero => simp [loK]
  | succ k ih => simp only [loK]; split <;> (try split) <;> omega
theorem cntK_congr {f g : Nat → Bool} (k : Nat) (h : ∀ i, i < k → f i = g i) : cntK f k = cntK g k := by
  induction k with
  | zero => rfl
  | succ k ih => simp only [cntK]; rw [ih fun i hi => h i (by omega), h k (by omega)]

/-- Is node n, any number, in the set u? -/
def hasF (u : Nat) (n : Int) : Bool := decide (0 ≤ n) && (decide (n ≤ 63) && u.testBit n.toNat)
theorem hasF_nat {u i : Nat} (hi : i < 64) : hasF u (i : Int) = u.testBit i := by
  unfold hasF
  have : ((i : Int) ≤ 63) := by omega
  simp [this]
theorem testBit_div (u k : Nat) : u.testBit k = decide ((u >>> k) % 2 = 1) := by
  rw [Nat.testBit_eq_decide_div_mod_eq, Nat.shiftRight_eq_div_pow]

end Go.Proofs.Ytmedbodjikbmfaa
