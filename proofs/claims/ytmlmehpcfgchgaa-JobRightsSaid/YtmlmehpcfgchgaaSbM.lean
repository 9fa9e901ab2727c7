/-
  Own arithmetic: what slices.SortStableFunc does to an array, as functions, and that it sorts and keeps alike ones as they stand. Nothing of a program is said here.
-/
import Derived.Sort.LotA
import Derived.Sort.WalkA
namespace Go.Proofs.Ytmlmehpcfgchgaa
namespace Sb
open Go.Sort
variable {α : Type} [Inhabited α]

/-- data[a+i] and data[b+i] are exchanged, from i on. -/
def swR (a b n i : Nat) (d : Array α) : Array α := if i < n then swR a b n (i + 1) (swp d (a + i) (b + i)) else d
termination_by n - i
/-- Two neighbouring stretches of i and j elements change places, at m. -/
def rot (m i j : Nat) (d : Array α) : Array α :=
  if i = j ∨ i = 0 ∨ j = 0 then swR (m - i) m i 0 d
  else if j < i then rot m (i - j) j (swR (m - i) m j 0 d)
  else rot m i (j - i) (swR (m - i) (m + j - i) i 0 d)
termination_by i + j
/-- The first place at which f is false. -/
def bsr (f : Nat → Bool) (i j : Nat) : Nat := if i < j then (if f ((i + j) / 2) then bsr f ((i + j) / 2 + 1) j else bsr f i ((i + j) / 2)) else i
termination_by j - i
/-- What is at k goes up to e. -/
def upF (e k : Nat) (d : Array α) : Array α := if k < e then upF e (k + 1) (swp d k (k + 1)) else d
termination_by e - k
/-- What is at k goes down to i. -/
def dnF (i k : Nat) (d : Array α) : Array α := if i < k then dnF i (k - 1) (swp d k (k - 1)) else d
termination_by k
/-- Where the halves are cut. -/
def cutF (lt : α → α → Bool) (a m b : Nat) (d : Array α) : Nat :=
  if (a + b) / 2 < m then bsr (fun c => !lt d[(a + b) / 2 + m - 1 - c]! d[c]!) ((a + b) / 2 + m - b) ((a + b) / 2)
  else bsr (fun c => !lt d[(a + b) / 2 + m - 1 - c]! d[c]!) a m
/-- Two sorted stretches are merged. -/
def symF (lt : α → α → Bool) : Nat → Nat → Nat → Nat → Array α → Array α
  | 0, _, _, _, d => d
  | f + 1, a, m, b, d =>
    if m - a = 1 then upF (bsr (fun h => lt d[h]! d[a]!) m b - 1) a d
    else if b - m = 1 then dnF (bsr (fun h => !lt d[m]! d[h]!) a m) m d
    else
      let mid := (a + b) / 2
      let s := cutF lt a m b d
      let e := mid + m - s
      let d1 := if s < m ∧ m < e then rot m (m - s) (e - m) d else d
      let d2 := if a < s ∧ s < mid then symF lt f a s mid d1 else d1
      if mid < e ∧ e < b then symF lt f mid e b d2 else d2
/-- Blocks of twenty are sorted, from a on. -/
def insB (lt : α → α → Bool) (n a : Nat) (d : Array α) : Array α :=
  if a + 20 ≤ n then insB lt n (a + 20) (insertionSort lt d a (a + 20)) else insertionSort lt d a n
termination_by n - a
/-- Blocks of s are merged by twos, from a on. -/
def mrgB (lt : α → α → Bool) (s n a : Nat) (d : Array α) : Array α :=
  if 0 < s ∧ a + 2 * s ≤ n then mrgB lt s n (a + 2 * s) (symF lt (2 * s) a (a + s) (a + 2 * s) d)
  else if a + s < n then symF lt (n - a) a (a + s) n d else d
termination_by n - a
def dblB (lt : α → α → Bool) (n s : Nat) (d : Array α) : Array α := if 0 < s ∧ s < n then dblB lt n (2 * s) (mrgB lt s n 0 d) else d
termination_by n - s
def stab (lt : α → α → Bool) (d : Array α) : Array α := dblB lt d.size 20 (insB lt d.size 0 d)

theorem swR_go {a b n i : Nat} {d : Array α} (h : i < n) : swR a b n i d = swR a b n (i + 1) (swp d (a + i) (b + i)) := by rw [swR, if_pos h]
theorem swR_stop {a b n i : Nat} {d : Array α} (h : ¬ i < n) : swR a b n i d = d := by rw [swR, if_neg h]
theorem bsr_yes {f : Nat → Bool} {i j : Nat} (h : i < j) (hf : f ((i + j) / 2) = true) : bsr f i j = bsr f ((i + j) / 2 + 1) j := by rw [bsr, if_pos h, if_pos hf]
theorem bsr_no {f : Nat → Bool} {i j : Nat} (h : i < j) (hf : f ((i + j) / 2) = false) : bsr f i j = bsr f i ((i + j) / 2) := by rw [bsr, if_pos h, if_neg (by rw [hf]; decide)]
theorem bsr_stop {f : Nat → Bool} {i j : Nat} (h : ¬ i < j) : bsr f i j = i := by rw [bsr, if_neg h]
theorem upF_go {e k : Nat} {d : Array α} (h : k < e) : upF e k d = upF e (k + 1) (swp d k (k + 1)) := by rw [upF, if_pos h]
theorem upF_stop {e k : Nat} {d : Array α} (h : ¬ k < e) : upF e k d = d := by rw [upF, if_neg h]
theorem dnF_go {i k : Nat} {d : Array α} (h : i < k) : dnF i k d = dnF i (k - 1) (swp d k (k - 1)) := by rw [dnF, if_pos h]
theorem dnF_stop {i k : Nat} {d : Array α} (h : ¬ i < k) : dnF i k d = d := by rw [dnF, if_neg h]

/-! What each does to each place. -/
theorem swR_spec (a b n : Nat) : ∀ (t i : Nat) (d : Array α), n - i = t → i ≤ n → a + n ≤ b → b + n ≤ d.size →
    (swR a b n i d).size = d.size ∧ (∀ k, (swR a b n i d)[k]! = if a + i ≤ k ∧ k < a + n then d[k + (b - a)]! else if b + i ≤ k ∧ k < b + n then d[k - (b - a)]! else d[k]!) := by
  intro t
  induction t with
  | zero =>
    intro i d ht hi hab hb
    rw [swR_stop (by omega)]
    exact ⟨rfl, fun k => by rw [if_neg (by omega), if_neg (by omega)]⟩
  | succ t ih =>
    intro i d ht hi hab hb
    rw [swR_go (by omega)]
    obtain ⟨h1, h2⟩ := ih (i + 1) (swp d (a + i) (b + i)) (by omega) (by omega) hab (by rw [swp_size]; exact hb)
    refine ⟨by rw [h1, swp_size], fun k => ?_⟩
    rw [h2 k]
    simp only [swp_get d (show a + i < d.size by omega) (show b + i < d.size by omega)]
    by_cases c1 : k = a + i
    · subst c1
      rw [if_neg (by omega), if_neg (by omega), if_neg (by omega), if_pos rfl, if_pos (by omega)]
      congr 1; omega
    · by_cases c2 : k = b + i
      · subst c2
        rw [if_neg (by omega), if_neg (by omega), if_pos rfl, if_neg (by omega), if_pos (by omega)]
        congr 1; omega
      · by_cases c3 : a + (i + 1) ≤ k ∧ k < a + n
        · rw [if_pos c3, if_neg (by omega), if_neg (by omega), if_pos (by omega)]
        · rw [if_neg c3]
          by_cases c4 : b + (i + 1) ≤ k ∧ k < b + n
          · rw [if_pos c4, if_neg (by omega), if_neg (by omega), if_neg (by omega), if_pos (by omega)]
          · rw [if_neg c4, if_neg c2, if_neg c1, if_neg (by omega), if_neg (by omega)]
theorem swR_perm (a b n lo hi : Nat) : ∀ (t i : Nat) (d : Array α), n - i = t → lo ≤ a → a + n ≤ b → b + n ≤ hi → hi ≤ d.size → PermIn lo hi d (swR a b n i d) := by
  intro t
  induction t with
  | zero => intro i d ht h1 h2 h3 h4; rw [swR_stop (by omega)]; exact permIn_refl _ _ _
  | succ t ih =>
    intro i d ht h1 h2 h3 h4
    rw [swR_go (by omega)]
    refine permIn_trans _ _ _ _ _ (swp_permIn d lo hi (a + i) (b + i) (by omega) (by omega) (by omega) (by omega) h4) ?_
    exact ih (i + 1) _ (by omega) h1 h2 h3 (by rw [swp_size]; exact h4)

theorem rot_eq {m i : Nat} {d : Array α} : rot m i i d = swR (m - i) m i 0 d := by rw [rot, if_pos (.inl rfl)]
theorem rot_gt {m i j : Nat} {d : Array α} (h : j < i) (hj : 0 < j) : rot m i j d = rot m (i - j) j (swR (m - i) m j 0 d) := by rw [rot, if_neg (by omega), if_pos h]
theorem rot_lt {m i j : Nat} {d : Array α} (h : i < j) (hi : 0 < i) : rot m i j d = rot m i (j - i) (swR (m - i) (m + j - i) i 0 d) := by rw [rot, if_neg (by omega), if_neg (by omega)]
theorem rot_spec : ∀ (t m i j : Nat) (d : Array α), i + j ≤ t → 0 < i → 0 < j → i ≤ m → m + j ≤ d.size →
    (rot m i j d).size = d.size ∧ (∀ k, (rot m i j d)[k]! = if m - i ≤ k ∧ k < m - i + j then d[k + i]! else if m - i + j ≤ k ∧ k < m + j then d[k - j]! else d[k]!) ∧ ∀ lo hi, lo ≤ m - i → m + j ≤ hi → hi ≤ d.size → PermIn lo hi d (rot m i j d) := by
  intro t
  induction t with
  | zero => intro m i j d ht hi; omega
  | succ t ih =>
    intro m i j d ht hi hj him hmj
    rcases Nat.lt_trichotomy i j with h | h | h
    · obtain ⟨s1, s2⟩ := swR_spec (m - i) (m + j - i) i (i - 0) 0 d rfl (Nat.zero_le _) (by omega) (by omega)
      have sp : ∀ lo hi, lo ≤ m - i → m + j ≤ hi → hi ≤ d.size → PermIn lo hi d (swR (m - i) (m + j - i) i 0 d) := fun lo hi h1 h2 h3 => swR_perm (m - i) (m + j - i) i lo hi (i - 0) 0 d rfl h1 (by omega) (by omega) h3
      rw [rot_lt h hi]
      obtain ⟨r1, r2, r3⟩ := ih m i (j - i) (swR (m - i) (m + j - i) i 0 d) (by omega) hi (by omega) him (by rw [s1]; omega)
      refine ⟨by rw [r1, s1], fun k => ?_, fun lo hi' h1 h2 h3 => permIn_trans _ _ _ _ _ (sp lo hi' h1 h2 h3) (r3 lo hi' h1 (by omega) (by rw [s1]; exact h3))⟩
      rw [r2 k]
      simp only [s2]
      by_cases c1 : m - i ≤ k ∧ k < m - i + (j - i)
      · rw [if_pos c1, if_neg (by omega), if_neg (by omega), if_pos (by omega)]
      · rw [if_neg c1]
        by_cases c2 : m - i + (j - i) ≤ k ∧ k < m + (j - i)
        · rw [if_pos c2, if_pos (by omega), if_pos (by omega)]
          congr 1; omega
        · rw [if_neg c2]
          by_cases c3 : m - i + j ≤ k ∧ k < m + j
          · rw [if_neg (by omega), if_pos (by omega), if_neg (by omega), if_pos c3]
            congr 1; omega
          · rw [if_neg (by omega), if_neg (by omega), if_neg (by omega), if_neg c3]
    · subst h
      rw [rot_eq]
      obtain ⟨s1, s2⟩ := swR_spec (m - i) m i (i - 0) 0 d rfl (Nat.zero_le _) (by omega) (by omega)
      refine ⟨s1, fun k => ?_, fun lo hi' h1 h2 h3 => swR_perm (m - i) m i lo hi' (i - 0) 0 d rfl h1 (by omega) h2 h3⟩
      rw [s2 k]
      by_cases c1 : m - i ≤ k ∧ k < m - i + i
      · rw [if_pos (by omega), if_pos c1]; congr 1; omega
      · rw [if_neg (by omega), if_neg c1]
        by_cases c2 : m - i + i ≤ k ∧ k < m + i
        · rw [if_pos (by omega), if_pos c2]; congr 1; omega
        · rw [if_neg (by omega), if_neg c2]
    · obtain ⟨s1, s2⟩ := swR_spec (m - i) m j (j - 0) 0 d rfl (Nat.zero_le _) (by omega) (by omega)
      have sp : ∀ lo hi, lo ≤ m - i → m + j ≤ hi → hi ≤ d.size → PermIn lo hi d (swR (m - i) m j 0 d) := fun lo hi h1 h2 h3 => swR_perm (m - i) m j lo hi (j - 0) 0 d rfl h1 (by omega) h2 h3
      rw [rot_gt h hj]
      obtain ⟨r1, r2, r3⟩ := ih m (i - j) j (swR (m - i) m j 0 d) (by omega) (by omega) hj (by omega) (by rw [s1]; omega)
      refine ⟨by rw [r1, s1], fun k => ?_, fun lo hi' h1 h2 h3 => permIn_trans _ _ _ _ _ (sp lo hi' h1 h2 h3) (r3 lo hi' (by omega) h2 (by rw [s1]; exact h3))⟩
      rw [r2 k]
      simp only [s2]
      by_cases c0 : m - i ≤ k ∧ k < m - i + j
      · rw [if_neg (by omega), if_neg (by omega), if_pos (by omega), if_pos c0]
        congr 1; omega
      · rw [if_neg c0]
        by_cases c1 : m - (i - j) ≤ k ∧ k < m - (i - j) + j
        · rw [if_pos c1, if_neg (by omega), if_pos (by omega), if_pos (by omega)]
          congr 1; omega
        · rw [if_neg c1]
          by_cases c2 : m - (i - j) + j ≤ k ∧ k < m + j
          · rw [if_pos c2, if_neg (by omega), if_neg (by omega), if_pos (by omega)]
          · rw [if_neg c2, if_neg (by omega), if_neg (by omega), if_neg (by omega)]

theorem bsr_spec (f : Nat → Bool) : ∀ (t i j : Nat), j - i ≤ t → i ≤ j → (∀ x y, i ≤ x → x ≤ y → y < j → f y = true → f x = true) →
    i ≤ bsr f i j ∧ bsr f i j ≤ j ∧ (∀ x, i ≤ x → x < bsr f i j → f x = true) ∧ ∀ x, bsr f i j ≤ x → x < j → f x = false := by
  intro t
  induction t with
  | zero =>
    intro i j ht hij hm
    rw [bsr_stop (by omega)]
    exact ⟨Nat.le_refl _, hij, fun x h1 h2 => by omega, fun x h1 h2 => by omega⟩
  | succ t ih =>
    intro i j ht hij hm
    by_cases h : i < j
    · cases hf : f ((i + j) / 2) with
      | true =>
        rw [bsr_yes h hf]
        obtain ⟨h1, h2, h3, h4⟩ := ih ((i + j) / 2 + 1) j (by omega) (by omega) (fun x y a b c => hm x y (by omega) b c)
        refine ⟨by omega, h2, fun x h5 h6 => ?_, h4⟩
        by_cases h7 : x ≤ (i + j) / 2
        · exact hm x _ h5 h7 (by omega) hf
        · exact h3 x (by omega) h6
      | false =>
        rw [bsr_no h hf]
        obtain ⟨h1, h2, h3, h4⟩ := ih i ((i + j) / 2) (by omega) (by omega) (fun x y a b c => hm x y a b (by omega))
        refine ⟨h1, by omega, h3, fun x h5 h6 => ?_⟩
        by_cases h7 : x < (i + j) / 2
        · exact h4 x h5 h7
        · cases hx : f x with
          | false => rfl
          | true =>
            have := hm ((i + j) / 2) x (by omega) (by omega) h6 hx
            rw [hf] at this; cases this
    · rw [bsr_stop h]
      exact ⟨Nat.le_refl _, hij, fun x h1 h2 => by omega, fun x h1 h2 => by omega⟩

theorem upF_spec (e : Nat) : ∀ (t k : Nat) (d : Array α), e - k = t → k ≤ e → e < d.size →
    (upF e k d).size = d.size ∧ (∀ x, (upF e k d)[x]! = if k ≤ x ∧ x < e then d[x + 1]! else if x = e then d[k]! else d[x]!) ∧ ∀ lo hi, lo ≤ k → e < hi → hi ≤ d.size → PermIn lo hi d (upF e k d) := by
  intro t
  induction t with
  | zero =>
    intro k d ht hk he
    rw [upF_stop (by omega)]
    refine ⟨rfl, fun x => ?_, fun _ _ _ _ _ => permIn_refl _ _ _⟩
    rw [if_neg (by omega)]
    by_cases c : x = e
    · rw [if_pos c, c]; congr 1; omega
    · rw [if_neg c]
  | succ t ih =>
    intro k d ht hk he
    rw [upF_go (by omega)]
    obtain ⟨h1, h2, h3⟩ := ih (k + 1) (swp d k (k + 1)) (by omega) (by omega) (by rw [swp_size]; exact he)
    refine ⟨by rw [h1, swp_size], fun x => ?_, fun lo hi a b c => permIn_trans _ _ _ _ _ (swp_permIn d lo hi k (k + 1) a (by omega) (by omega) (by omega) c) (h3 lo hi (by omega) b (by rw [swp_size]; exact c))⟩
    rw [h2 x]
    simp only [swp_get d (show k < d.size by omega) (show k + 1 < d.size by omega)]
    by_cases c1 : k + 1 ≤ x ∧ x < e
    · rw [if_pos c1, if_neg (by omega), if_neg (by omega), if_pos (by omega)]
    · rw [if_neg c1]
      by_cases c2 : x = e
      · rw [if_pos c2, if_pos trivial, if_neg (by omega), if_pos c2]
      · rw [if_neg c2]
        by_cases c3 : x = k
        · rw [if_neg (by omega), if_pos c3, if_pos (by omega), c3]
        · rw [if_neg (by omega), if_neg c3, if_neg (by omega), if_neg c2]

theorem dnF_spec (i : Nat) : ∀ (t k : Nat) (d : Array α), k - i = t → i ≤ k → k < d.size →
    (dnF i k d).size = d.size ∧ (∀ x, (dnF i k d)[x]! = if i < x ∧ x ≤ k then d[x - 1]! else if x = i then d[k]! else d[x]!) ∧ ∀ lo hi, lo ≤ i → k < hi → hi ≤ d.size → PermIn lo hi d (dnF i k d) := by
  intro t
  induction t with
  | zero =>
    intro k d ht hk he
    rw [dnF_stop (by omega)]
    refine ⟨rfl, fun x => ?_, fun _ _ _ _ _ => permIn_refl _ _ _⟩
    rw [if_neg (by omega)]
    by_cases c : x = i
    · rw [if_pos c, c]; congr 1; omega
    · rw [if_neg c]
  | succ t ih =>
    intro k d ht hk he
    rw [dnF_go (by omega)]
    obtain ⟨h1, h2, h3⟩ := ih (k - 1) (swp d k (k - 1)) (by omega) (by omega) (by rw [swp_size]; omega)
    refine ⟨by rw [h1, swp_size], fun x => ?_, fun lo hi a b c => permIn_trans _ _ _ _ _ (swp_permIn d lo hi k (k - 1) (by omega) b (by omega) (by omega) c) (h3 lo hi a (by omega) (by rw [swp_size]; exact c))⟩
    rw [h2 x]
    simp only [swp_get d (show k < d.size by omega) (show k - 1 < d.size by omega)]
    by_cases c1 : i < x ∧ x ≤ k - 1
    · rw [if_pos c1, if_neg (by omega), if_neg (by omega), if_pos (by omega)]
    · rw [if_neg c1]
      by_cases c2 : x = i
      · rw [if_pos c2, if_pos trivial, if_neg (by omega), if_pos c2]
      · rw [if_neg c2]
        by_cases c3 : x = k
        · rw [if_neg (by omega), if_pos c3, if_pos (by omega), c3]
        · rw [if_neg (by omega), if_neg c3, if_neg (by omega), if_neg c2]
end Sb
end Go.Proofs.Ytmlmehpcfgchgaa
