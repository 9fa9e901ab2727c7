/-
  Own arithmetic: the idle ones of a list of states, in their order. Nothing of a program is said here.
-/
import Derived.Test.YtmedbodjikbmfaaSetD
namespace Go.Proofs.Ytmedbodjikbmfaa

/-- Is node i idle? -/
def isI (l : List Int) : Nat → Bool := fun i => decide (l.getD i 0 = 1)
/-- The idle ones of the first k, in their order. -/
def idleL (l : List Int) : Nat → List Int
  | 0 => []
  | k + 1 => idleL l k ++ (if isI l k then [(k : Int)] else [])
theorem idleL_length (l : List Int) (k : Nat) : (idleL l k).length = cntK (isI l) k := by
  induction k with
  | zero => rfl
  | succ k ih => simp only [idleL, cntK, List.length_append, ih]; split <;> simp
theorem idleL_mem (l : List Int) (k : Nat) (x : Int) : x ∈ idleL l k ↔ ∃ i : Nat, i < k ∧ x = i ∧ isI l i = true := by
  induction k with
  | zero => simp [idleL]
  | succ k ih =>
    simp only [idleL, List.mem_append, ih]
    constructor
    · rintro (⟨i, h1, h2, h3⟩ | h)
      · exact ⟨i, by omega, h2, h3⟩
      · by_cases hk : isI l k = true
        · rw [if_pos hk] at h; exact ⟨k, by omega, by simpa using h, hk⟩
        · rw [if_neg hk] at h; cases h
    · rintro ⟨i, h1, h2, h3⟩
      by_cases e : i < k
      · exact .inl ⟨i, e, h2, h3⟩
      · have : i = k := by omega
        subst this; rw [if_pos h3]; exact .inr (by simpa using h2)
theorem idleL_yes {l : List Int} {k : Nat} (h : l.getD k 0 = 1) : idleL l (k + 1) = idleL l k ++ [(k : Int)] := by simp [idleL, isI, -List.getD_eq_getElem?_getD, h]
theorem idleL_no {l : List Int} {k : Nat} (h : l.getD k 0 ≠ 1) : idleL l (k + 1) = idleL l k := by simp [idleL, isI, -List.getD_eq_getElem?_getD, h]
theorem isI_lt {l : List Int} {i : Nat} (h : isI l i = true) : i < l.length := by
  rcases Nat.lt_or_ge i l.length with h1 | h1
  · exact h1
  · simp [isI, List.getD_eq_getElem?_getD, List.getElem?_eq_none h1] at h
/-- Behind the list's end nothing is counted. -/
theorem cnt_end (l : List Int) {k : Nat} (h : l.length ≤ k) : cntK (isI l) k = cntK (isI l) l.length := by
  induction k with
  | zero => rw [show l.length = 0 by omega]
  | succ k ih =>
    by_cases e : l.length = k + 1
    · rw [e]
    · have hk : isI l k = false := by
        cases hb : isI l k with
        | false => rfl
        | true => have := isI_lt hb; omega
      simp only [cntK]
      rw [ih (by omega), hk]
      simp
/-- Of the first k, with n of them idle: below k is to be among the first n. -/
theorem idle_first {l : List Int} {k i : Nat} (h : isI l i = true) (n : Nat) (hn : cntK (isI l) k = n) : (i < k ↔ cntK (isI l) i < n) := by
  constructor
  · intro hi; have := cntK_next h hi; omega
  · intro hc
    rcases Nat.lt_or_ge i k with h1 | h1
    · exact h1
    · have := cntM_mono (isI l) h1; omega

/-- All of some become 2. -/
def setsL (l : List Int) (gs : List Int) : List Int := gs.foldl (fun l g => l.set g.toNat 2) l
theorem setsL_length (gs : List Int) : ∀ l : List Int, (setsL l gs).length = l.length := by
  induction gs with
  | nil => intro l; rfl
  | cons g gs ih => intro l; show (setsL (l.set g.toNat 2) gs).length = _; rw [ih, List.length_set]
theorem setsL_snoc (l gs : List Int) (g : Int) : setsL l (gs ++ [g]) = (setsL l gs).set g.toNat 2 := by unfold setsL; rw [List.foldl_append]; rfl
theorem setsL_get (gs : List Int) : ∀ (l : List Int) (i : Nat), (∀ g ∈ gs, 0 ≤ g) → i < l.length → (setsL l gs)[i]? = some (if (i : Int) ∈ gs then 2 else l.getD i 0) := by
  induction gs with
  | nil => intro l i _ hi; simp [setsL, List.getElem?_eq_getElem hi]
  | cons g gs ih =>
    intro l i h0 hi
    show (setsL (l.set g.toNat 2) gs)[i]? = _
    have hg := h0 g (by simp)
    rw [ih _ i (fun x hx => h0 x (by simp [hx])) (by simpa using hi)]
    by_cases e : (i : Int) ∈ gs
    · simp [e]
    · rw [if_neg e]
      by_cases e2 : (i : Int) = g
      · have : g.toNat = i := by omega
        rw [this]; simp [e2, hi]
      · have : g.toNat ≠ i := by omega
        have hm : ¬ (i : Int) ∈ g :: gs := by simp [e, e2]
        rw [if_neg hm, List.getD_eq_getElem?_getD, List.getD_eq_getElem?_getD, List.getElem?_set_ne this]

/-- What is taken: the first n idle ones. -/
def takeF (l : List Int) (n : Int) : Nat → Bool := fun i => isI l i && decide ((cntK (isI l) i : Int) < n)
def takenL (l : List Int) (n : Int) : List Int := l.mapIdx fun i x => if takeF l n i then 2 else x
theorem memS_take {l : List Int} {k : Nat} {n : Int} (hn : (cntK (isI l) k : Int) = n) : ofN (memS (idleL l k)) = ofN (takeF l n) := by
  refine ofN_congr fun i _ => ?_
  unfold memS takeF
  by_cases h : isI l i = true
  · have h1 := idle_first h _ (show cntK (isI l) k = cntK (isI l) k from rfl)
    rw [h, Bool.true_and]
    congr 1
    apply propext
    rw [idleL_mem]
    constructor
    · rintro ⟨j, h2, h3, _⟩
      have : i = j := by omega
      subst this; have := h1.1 h2; omega
    · intro h2; exact ⟨i, h1.2 (by omega), rfl, h⟩
  · have h' : isI l i = false := by simpa using h
    rw [h', Bool.false_and]
    refine decide_eq_false fun hm => ?_
    obtain ⟨j, _, h3, h4⟩ := (idleL_mem l k _).1 hm
    have : i = j := by omega
    subst this; exact h h4
theorem sets_take {l : List Int} {k : Nat} {n : Int} (hn : (cntK (isI l) k : Int) = n) : setsL l (idleL l k) = takenL l n := by
  refine List.ext_getElem? fun i => ?_
  rcases Nat.lt_or_ge i l.length with hi | hi
  · rw [setsL_get _ _ _ (fun g hg => by obtain ⟨j, _, h3, _⟩ := (idleL_mem l k _).1 hg; omega) hi]
    unfold takenL
    rw [List.getElem?_mapIdx, List.getElem?_eq_getElem hi]
    simp only [Option.map_some]
    have e : ((i : Int) ∈ idleL l k) ↔ takeF l n i = true := by
      unfold takeF
      rw [idleL_mem, Bool.and_eq_true, decide_eq_true_eq]
      constructor
      · rintro ⟨j, h2, h3, h4⟩
        have : i = j := by omega
        subst this
        exact ⟨h4, by have := (idle_first h4 _ (show cntK (isI l) k = cntK (isI l) k from rfl)).1 h2; omega⟩
      · rintro ⟨h4, h5⟩
        exact ⟨i, (idle_first h4 _ (show cntK (isI l) k = cntK (isI l) k from rfl)).2 (by omega), rfl, h4⟩
    by_cases h : (i : Int) ∈ idleL l k
    · rw [if_pos h, if_pos (e.1 h)]
    · rw [if_neg h, if_neg (fun hx => h (e.2 hx))]
      simp [List.getD_eq_getElem?_getD, List.getElem?_eq_getElem hi]
  · rw [List.getElem?_eq_none (by rw [setsL_length]; exact hi), List.getElem?_eq_none (by simpa [takenL] using hi)]

/-- What Take tells, and leaves. -/
structure TakeR (l : List Int) (n : Int) (s : Nat) (e : Int) (l' : List Int) : Prop where
  arg : n < 1 → s = 0 ∧ e = 1 ∧ l' = l
  full : 1 ≤ n → (cntK (isI l) l.length : Int) < n → s = 0 ∧ e = 6 ∧ l' = l
  good : 1 ≤ n → n ≤ cntK (isI l) l.length → s = ofN (takeF l n) ∧ e = 0 ∧ l' = takenL l n
theorem TakeR.uniq {l l1 l2 : List Int} {n e1 e2 : Int} {s1 s2 : Nat} (h : TakeR l n s1 e1 l1) (h' : TakeR l n s2 e2 l2) : s1 = s2 ∧ e1 = e2 ∧ l1 = l2 := by
  by_cases h1 : n < 1
  · obtain ⟨rfl, rfl, rfl⟩ := h.arg h1
    obtain ⟨rfl, rfl, rfl⟩ := h'.arg h1
    exact ⟨rfl, rfl, rfl⟩
  · by_cases h2 : (cntK (isI l) l.length : Int) < n
    · obtain ⟨rfl, rfl, rfl⟩ := h.full (by omega) h2
      obtain ⟨rfl, rfl, rfl⟩ := h'.full (by omega) h2
      exact ⟨rfl, rfl, rfl⟩
    · obtain ⟨rfl, rfl, rfl⟩ := h.good (by omega) (by omega)
      obtain ⟨rfl, rfl, rfl⟩ := h'.good (by omega) (by omega)
      exact ⟨rfl, rfl, rfl⟩

end Go.Proofs.Ytmedbodjikbmfaa
