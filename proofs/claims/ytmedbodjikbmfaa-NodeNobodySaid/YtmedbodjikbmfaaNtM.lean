/-
  Own arithmetic: a list of states as three sets of bits. Nothing of a program is said here.
-/
import Derived.Test.YtmedbodjikbmfaaNdC
import Derived.Test.YtmedbodjikbmfaaNdM
namespace Go.Proofs.Ytmedbodjikbmfaa
open Go.RowKit

def allB (l : List Int) : Nat → Bool := fun i => decide (i < l.length)
def useB (l : List Int) : Nat → Bool := fun i => decide (l.getD i 0 = 2) || decide (l.getD i 0 = 3)
def barB (l : List Int) : Nat → Bool := fun i => decide (l.getD i 0 = 3) || decide (l.getD i 0 = 4)
/-- A list of states, not empty. -/
structure Lok (l : List Int) : Prop where
  one : 1 ≤ l.length
  few : l.length ≤ 64
  st : ∀ i, i < l.length → 1 ≤ l.getD i 0 ∧ l.getD i 0 ≤ 4

theorem getD_out {l : List Int} {i : Nat} (h : l.length ≤ i) : l.getD i 0 = 0 := by simp [List.getD_eq_getElem?_getD, List.getElem?_eq_none h]
theorem getD_idx (f : Nat → Int → Int) (l : List Int) (i : Nat) : (l.mapIdx f).getD i 0 = if i < l.length then f i (l.getD i 0) else 0 := by
  by_cases h : i < l.length
  · simp [List.getD_eq_getElem?_getD, h]
  · simp [List.getD_eq_getElem?_getD, h]
theorem ofN_self {u : Nat} (hu : u < 18446744073709551616) : ofN u.testBit = u := ofN_eq hu fun _ _ => rfl
theorem or_ofN (f g : Nat → Bool) : bits .or .u64 (ofN f : Nat) (ofN g : Nat) = ((ofN fun i => f i || g i : Nat) : Int) := by
  rw [bits_or_u64_nat _ _ (ofN_lt f) (ofN_lt g)]
  congr 1
  refine (ofN_eq (Nat.or_lt_two_pow (n := 64) (ofN_lt f) (ofN_lt g)) fun i hi => ?_).symm
  rw [Nat.testBit_or, ofN_testBit, ofN_testBit]; simp [hi]
theorem not_ofN (f g : Nat → Bool) : bits .andNot .u64 (ofN f : Nat) (ofN g : Nat) = ((ofN fun i => f i && !g i : Nat) : Int) := by
  rw [bits_not_nat _ _ (ofN_lt f) (ofN_lt g)]
  congr 1
  refine ofN_congr fun i hi => ?_
  rw [ofN_testBit, ofN_testBit]; simp [hi]
theorem ofN_zero {f : Nat → Bool} : ofN f = 0 ↔ ∀ i, i < 64 → f i = false := by
  constructor
  · intro h i hi
    have := congrArg (fun x => x.testBit i) h
    simp only [Nat.zero_testBit] at this
    rw [ofN_testBit] at this
    simpa [hi] using this
  · intro h
    exact ofN_eq (by decide) fun i hi => by rw [h i hi, Nat.zero_testBit]
theorem cnt_ofN (f : Nat → Bool) : cntK (ofN f).testBit 64 = cntK f 64 := cntK_congr 64 fun i hi => by rw [ofN_testBit]; simp [hi]

section
variable {l : List Int}

theorem idle_bits (h : Lok l) : bits .andNot .u64 (ofN (allB l) : Nat) (bits .or .u64 (ofN (useB l) : Nat) (ofN (barB l) : Nat)) = ((ofN (isI l) : Nat) : Int) := by
  rw [or_ofN, not_ofN]
  congr 1
  refine ofN_congr fun i hi => ?_
  unfold allB useB barB isI
  rcases Nat.lt_or_ge i l.length with h1 | h1
  · have := h.st i h1
    rw [Bool.eq_iff_iff]
    simp only [Bool.and_eq_true, Bool.not_eq_true', Bool.or_eq_false_iff, decide_eq_true_eq, decide_eq_false_iff_not]
    omega
  · rw [getD_out h1]
    simp; omega
theorem all_pos (h : Lok l) : ofN (allB l) ≠ 0 := fun e => by
  have := ofN_zero.1 e 0 (by omega)
  unfold allB at this
  have h1 := h.one
  simp at this
  subst this
  simp at h1

/-- Claim. -/
theorem claim_bad {u : Nat} (hu : u < 18446744073709551616) : bits .andNot .u64 (u : Int) (ofN (isI l) : Nat) = 0 ↔ InP l u 1 1 64 := by
  have e := not_ofN u.testBit (isI l)
  rw [ofN_self hu] at e
  rw [e]
  constructor
  · intro h i hi hb
    have h0 : ofN (fun i => u.testBit i && !isI l i) = 0 := by omega
    have := ofN_zero.1 h0 i hi
    rw [hb] at this
    have hI : isI l i = true := by simpa using this
    exact ⟨isI_lt hI, .inl (by simpa [isI] using hI)⟩
  · intro h
    have : ofN (fun i => u.testBit i && !isI l i) = 0 := ofN_zero.2 fun i hi => by
      cases hb : u.testBit i with
      | false => rfl
      | true =>
        have h2 : l.getD i 0 = 1 := by rcases (h i hi hb).2 with h2 | h2 <;> exact h2
        unfold isI
        rw [h2]; rfl
    rw [this]; rfl
theorem claim_use {u : Nat} (hu : u < 18446744073709551616) (h : InP l u 1 1 64) : bits .or .u64 (ofN (useB l) : Nat) (u : Int) = ((ofN (useB (l.mapIdx (claimF u))) : Nat) : Int) := by
  have e := or_ofN (useB l) u.testBit
  rw [ofN_self hu] at e
  rw [e]
  congr 1
  refine ofN_congr fun i hi => ?_
  unfold useB
  rw [getD_idx]
  unfold claimF
  cases hb : u.testBit i with
  | true => rw [if_pos (h i hi hb).1]; simp
  | false =>
    rcases Nat.lt_or_ge i l.length with h1 | h1
    · rw [if_pos h1]; simp
    · rw [if_neg (by omega), getD_out h1]; simp
theorem claim_bar {u : Nat} (h : InP l u 1 1 64) : ofN (barB (l.mapIdx (claimF u))) = ofN (barB l) := by
  refine ofN_congr fun i hi => ?_
  unfold barB
  rw [getD_idx]
  unfold claimF
  cases hb : u.testBit i with
  | true =>
    have h2 : l.getD i 0 = 1 := by rcases (h i hi hb).2 with h2 | h2 <;> exact h2
    rw [if_pos (h i hi hb).1, h2]; simp
  | false =>
    rcases Nat.lt_or_ge i l.length with h1 | h1
    · rw [if_pos h1]; simp
    · rw [if_neg (by omega), getD_out h1]
theorem claim_ok {u : Nat} (h : Lok l) : Lok (l.mapIdx (claimF u)) := by
  refine ⟨by simpa using h.one, by simpa using h.few, fun i hi => ?_⟩
  rw [List.length_mapIdx] at hi
  rw [getD_idx, if_pos hi]
  have := h.st i hi
  unfold claimF
  split
  · omega
  · exact this

/-- Give. -/
theorem give_bad {u : Nat} (hu : u < 18446744073709551616) : bits .andNot .u64 (u : Int) (ofN (useB l) : Nat) = 0 ↔ InP l u 2 3 64 := by
  have e := not_ofN u.testBit (useB l)
  rw [ofN_self hu] at e
  rw [e]
  constructor
  · intro h i hi hb
    have h0 : ofN (fun i => u.testBit i && !useB l i) = 0 := by omega
    have := ofN_zero.1 h0 i hi
    rw [hb] at this
    have hI : useB l i = true := by simpa using this
    unfold useB at hI
    have h2 : l.getD i 0 = 2 ∨ l.getD i 0 = 3 := by simpa [-List.getD_eq_getElem?_getD] using hI
    refine ⟨?_, h2⟩
    rcases Nat.lt_or_ge i l.length with h1 | h1
    · exact h1
    · rw [getD_out h1] at h2; omega
  · intro h
    have : ofN (fun i => u.testBit i && !useB l i) = 0 := ofN_zero.2 fun i hi => by
      cases hb : u.testBit i with
      | false => rfl
      | true =>
        unfold useB
        rcases (h i hi hb).2 with h2 | h2 <;> (rw [h2]; rfl)
    rw [this]; rfl
theorem give_use {u : Nat} (hu : u < 18446744073709551616) : bits .andNot .u64 (ofN (useB l) : Nat) (u : Int) = ((ofN (useB (l.mapIdx (giveF u))) : Nat) : Int) := by
  have e := not_ofN (useB l) u.testBit
  rw [ofN_self hu] at e
  rw [e]
  congr 1
  refine ofN_congr fun i hi => ?_
  unfold useB
  rw [getD_idx]
  unfold giveF
  cases hb : u.testBit i with
  | true =>
    rcases Nat.lt_or_ge i l.length with h1 | h1
    · rw [if_pos h1]
      by_cases h2 : l.getD i 0 = 2
      · rw [h2]; simp
      · rw [if_pos rfl, if_neg h2]; simp
    · rw [if_neg (by omega), getD_out h1]; simp
  | false =>
    rcases Nat.lt_or_ge i l.length with h1 | h1
    · rw [if_pos h1]; simp
    · rw [if_neg (by omega), getD_out h1]; simp
theorem give_bar {u : Nat} (h : InP l u 2 3 64) : ofN (barB (l.mapIdx (giveF u))) = ofN (barB l) := by
  refine ofN_congr fun i hi => ?_
  unfold barB
  rw [getD_idx]
  unfold giveF
  cases hb : u.testBit i with
  | true =>
    rw [if_pos (h i hi hb).1]
    rcases (h i hi hb).2 with h2 | h2 <;> (rw [h2]; simp)
  | false =>
    rcases Nat.lt_or_ge i l.length with h1 | h1
    · rw [if_pos h1]; simp
    · rw [if_neg (by omega), getD_out h1]
theorem give_ok {u : Nat} (h : Lok l) : Lok (l.mapIdx (giveF u)) := by
  refine ⟨by simpa using h.one, by simpa using h.few, fun i hi => ?_⟩
  rw [List.length_mapIdx] at hi
  rw [getD_idx, if_pos hi]
  have := h.st i hi
  unfold giveF
  split
  · split <;> omega
  · exact this
theorem give_new {u : Nat} (hu : u < 18446744073709551616) : bits .andNot .u64 (u : Int) (ofN (barB l) : Nat) = ((ofN fun i => u.testBit i && !barB l i : Nat) : Int) := by
  have e := not_ofN u.testBit (barB l)
  rw [ofN_self hu] at e
  exact e
theorem cnt_backN (u k : Nat) (hk : k ≤ 64) (h : InP l u 2 3 64) : cntK (fun i => u.testBit i && !barB l i) k = backN l u k := by
  induction k with
  | zero => rfl
  | succ k ih =>
    rw [backN_succ, ← ih (by omega)]
    have e : (u.testBit k && !barB l k) = (u.testBit k && decide (l.getD k 0 = 2)) := by
      cases hb : u.testBit k with
      | false => rfl
      | true =>
        unfold barB
        rcases (h k (by omega) hb).2 with h2 | h2 <;> (rw [h2]; rfl)
    simp only [cntK, e]
theorem backN_end (u : Nat) : ∀ k, l.length ≤ k → backN l u k = backN l u l.length := by
  intro k hk
  induction k with
  | zero => rw [show l.length = 0 by omega]
  | succ k ih =>
    by_cases e : l.length = k + 1
    · rw [e]
    · rw [backN_succ, ih (by omega), getD_out (show l.length ≤ k by omega)]
      simp
theorem give_cnt {u : Nat} (h : Lok l) (hP : InP l u 2 3 64) : cntK (ofN fun i => u.testBit i && !barB l i).testBit 64 = backN l u l.length := by
  rw [cnt_ofN, cnt_backN u 64 (Nat.le_refl _) hP, backN_end u 64 h.few]

/-- Take. -/
theorem take_low (n : Int) : ofN (lowF (ofN (isI l)) n) = ofN (takeF l n) := by
  refine ofN_congr fun i hi => ?_
  unfold lowF takeF
  rw [ofN_testBit, cntK_congr (g := isI l) i fun j hj => by rw [ofN_testBit]; simp [show j < 64 by omega]]
  simp [hi]
theorem taken_get (n : Int) (i : Nat) : (takenL l n).getD i 0 = if takeF l n i = true then 2 else l.getD i 0 := by
  unfold takenL
  rw [getD_idx]
  by_cases h : takeF l n i = true
  · have hI : isI l i = true := by
      unfold takeF at h
      simp only [Bool.and_eq_true] at h
      exact h.1
    rw [if_pos (isI_lt hI), if_pos h]
  · rw [if_neg h]
    rcases Nat.lt_or_ge i l.length with h1 | h1
    · rw [if_pos h1]
    · rw [if_neg (by omega), getD_out h1]
theorem take_use (n : Int) : bits .or .u64 (ofN (useB l) : Nat) (ofN (takeF l n) : Nat) = ((ofN (useB (takenL l n)) : Nat) : Int) := by
  rw [or_ofN]
  congr 1
  refine ofN_congr fun i hi => ?_
  unfold useB
  rw [taken_get]
  cases h : takeF l n i with
  | true => simp
  | false => simp
theorem take_bar (n : Int) : ofN (barB (takenL l n)) = ofN (barB l) := by
  refine ofN_congr fun i hi => ?_
  unfold barB
  rw [taken_get]
  cases h : takeF l n i with
  | true =>
    have hI : isI l i = true := by
      unfold takeF at h
      simp only [Bool.and_eq_true] at h
      exact h.1
    have h2 : l.getD i 0 = 1 := by unfold isI at hI; simpa [-List.getD_eq_getElem?_getD] using hI
    rw [h2]; simp
  | false => simp
theorem taken_length (n : Int) : (takenL l n).length = l.length := by simp [takenL]
theorem take_ok (n : Int) (h : Lok l) : Lok (takenL l n) := by
  refine ⟨by rw [taken_length]; exact h.one, by rw [taken_length]; exact h.few, fun i hi => ?_⟩
  rw [taken_length] at hi
  rw [taken_get]
  have := h.st i hi
  split
  · omega
  · exact this
theorem all_length {l' : List Int} (h : l'.length = l.length) : ofN (allB l') = ofN (allB l) := by unfold allB; rw [h]
theorem cnt_idle (h : Lok l) : cntK (ofN (isI l)).testBit 64 = cntK (isI l) l.length := by rw [cnt_ofN, cnt_end l h.few]

/-- Drain and Resume. -/
theorem turn_bar {i : Nat} (hi : i < l.length) (h : Lok l) : barB l i = !decide (l.getD i 0 < 3) := by
  have := h.st i hi
  unfold barB
  rw [Bool.eq_iff_iff]
  simp only [Bool.or_eq_true, decide_eq_true_eq, Bool.not_eq_true', decide_eq_false_iff_not]
  omega
theorem turn_ok {i : Nat} (h : Lok l) : Lok (l.set i (turnX (l.getD i 0))) := by
  refine ⟨by simpa using h.one, by simpa using h.few, fun j hj => ?_⟩
  rw [List.length_set] at hj
  rw [getD_set]
  have := h.st j hj
  split
  · unfold turnX
    repeat' split
    all_goals omega
  · exact this
theorem turn_use {i : Nat} (h : Lok l) : ofN (useB (l.set i (turnX (l.getD i 0)))) = ofN (useB l) := by
  refine ofN_congr fun j hj => ?_
  unfold useB
  rw [getD_set]
  by_cases e : j = i ∧ i < l.length
  · rw [if_pos e]
    obtain ⟨rfl, e⟩ := e
    have := h.st j e
    rcases (by omega : l.getD j 0 = 1 ∨ l.getD j 0 = 2 ∨ l.getD j 0 = 3 ∨ l.getD j 0 = 4) with h1 | h1 | h1 | h1 <;> (rw [h1]; rfl)
  · rw [if_neg e]
theorem drain_bar {i : Nat} (hi : i < l.length) (h : Lok l) (hd : l.getD i 0 < 3) : (ofN fun j => decide ((j : Int) = (i : Int)) || (ofN (barB l)).testBit j) = ofN (barB (l.set i (turnX (l.getD i 0)))) := by
  refine ofN_congr fun j hj => ?_
  rw [ofN_testBit]
  unfold barB
  rw [getD_set]
  by_cases e : j = i
  · subst e
    rw [if_pos ⟨rfl, hi⟩]
    have := h.st j hi
    rcases (by omega : l.getD j 0 = 1 ∨ l.getD j 0 = 2) with h1 | h1 <;> (rw [h1]; simp [turnX])
  · rw [if_neg (by omega)]
    have : ¬ ((j : Int) = (i : Int)) := by omega
    simp [this, hj]
theorem resume_bar {i : Nat} (hi : i < l.length) (h : Lok l) (hd : ¬ l.getD i 0 < 3) : (ofN fun j => !decide ((j : Int) = (i : Int)) && (ofN (barB l)).testBit j) = ofN (barB (l.set i (turnX (l.getD i 0)))) := by
  refine ofN_congr fun j hj => ?_
  rw [ofN_testBit]
  unfold barB
  rw [getD_set]
  by_cases e : j = i
  · subst e
    rw [if_pos ⟨rfl, hi⟩]
    have := h.st j hi
    rcases (by omega : l.getD j 0 = 3 ∨ l.getD j 0 = 4) with h1 | h1 <;> (rw [h1]; simp [turnX])
  · rw [if_neg (by omega)]
    have : ¬ ((j : Int) = (i : Int)) := by omega
    simp [this, hj]
end

end Go.Proofs.Ytmedbodjikbmfaa
