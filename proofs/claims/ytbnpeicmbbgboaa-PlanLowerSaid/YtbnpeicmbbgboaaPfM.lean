/-
  Own words (any program): what a profile's steps say: how many nodes are free at each time. Nothing of a program is said here.
-/
import Derived.Test.YtbnpeicmbbgboaaRow
namespace Go.Proofs.Ytbnpeicmbbgboaa
set_option maxRecDepth 8000

/-- When step i begins, and how many are free from then on. -/
def tA (L : List (Int × Int)) (i : Nat) : Int := (L.getD i (0, 0)).1
def tV (L : List (Int × Int)) (i : Nat) : Int := (L.getD i (0, 0)).2

/-- The steps say what f says, from now on. -/
structure Sm (L : List (Int × Int)) (now : Int) (f : Int → Int) : Prop where
  pos : 0 < L.length
  hd : tA L 0 = now
  inc : ∀ i, i + 1 < L.length → tA L i < tA L (i + 1)
  top : ∀ i, i < L.length → tA L i < 1152921504606846976
  rep : ∀ i t, i < L.length → tA L i ≤ t → (i + 1 < L.length → t < tA L (i + 1)) → f t = tV L i

/-- At each step another number is free than ahead of it, but maybe at the times X. -/
def AltT (L : List (Int × Int)) (X : Int → Prop) : Prop := ∀ i, i + 1 < L.length → ¬ X (tA L (i + 1)) → tV L i ≠ tV L (i + 1)

structure Can (L : List (Int × Int)) (now : Int) (f : Int → Int) : Prop where
  sm : Sm L now f
  alt : AltT L (fun _ => False)

/-- Step i holds at time t (ahead of the first, the first). -/
structure IsIx (L : List (Int × Int)) (t : Int) (i : Nat) : Prop where
  lt : i < L.length
  le : 0 < i → tA L i ≤ t
  nx : i + 1 < L.length → t < tA L (i + 1)

section
variable {L : List (Int × Int)} {now : Int} {f : Int → Int}

theorem Sm.lt (h : Sm L now f) {i j : Nat} (hij : i < j) (hj : j < L.length) : tA L i < tA L j := by
  induction j with
  | zero => omega
  | succ j ih =>
    rcases Nat.lt_or_ge i j with h1 | h1
    · have := ih h1 (by omega)
      have := h.inc j hj
      omega
    · have : i = j := by omega
      subst this
      exact h.inc i hj
theorem Sm.le (h : Sm L now f) {i j : Nat} (hij : i ≤ j) (hj : j < L.length) : tA L i ≤ tA L j := by
  rcases Nat.lt_or_ge i j with h1 | h1
  · exact Int.le_of_lt (h.lt h1 hj)
  · have : i = j := by omega
    subst this
    exact Int.le_refl _
theorem Sm.ge_now (h : Sm L now f) {i : Nat} (hi : i < L.length) : now ≤ tA L i := by
  rw [← h.hd]
  exact h.le (Nat.zero_le _) hi
theorem Sm.lt_of (h : Sm L now f) {i j : Nat} (hi : i < L.length) (_hj : j < L.length) (hlt : tA L i < tA L j) : i < j := by
  rcases Nat.lt_or_ge i j with h1 | h1
  · exact h1
  · have := h.le h1 hi
    omega

theorem IsIx.le_now (h : Sm L now f) {t : Int} {i : Nat} (hi : IsIx L t i) (hn : now ≤ t) : tA L i ≤ t := by
  rcases Nat.eq_zero_or_pos i with h0 | h0
  · subst h0
    rw [h.hd]; exact hn
  · exact hi.le h0

theorem IsIx.val (h : Sm L now f) {t : Int} {i : Nat} (hi : IsIx L t i) (hn : now ≤ t) : f t = tV L i := h.rep i t hi.lt (hi.le_now h hn) hi.nx

theorem Sm.ix (h : Sm L now f) (t : Int) : ∃ i, IsIx L t i := by
  have key : ∀ k, k ≤ L.length → (∃ i, IsIx L t i) ∨ (∀ j, j < L.length → L.length - k ≤ j → t < tA L j) := by
    intro k
    induction k with
    | zero => intro _; exact .inr fun j _ hk => by omega
    | succ k ih =>
      intro hk
      rcases ih (by omega) with h1 | h1
      · exact .inl h1
      · by_cases hle : tA L (L.length - (k + 1)) ≤ t
        · exact .inl ⟨L.length - (k + 1), by omega, fun _ => hle, fun hx => h1 _ hx (by omega)⟩
        · refine .inr fun j hj hjk => ?_
          rcases Nat.lt_or_ge j (L.length - k) with h2 | h2
          · have : j = L.length - (k + 1) := by omega
            subst this; omega
          · exact h1 j hj h2
  rcases key L.length (Nat.le_refl _) with h1 | h1
  · exact h1
  · exact ⟨0, h.pos, fun h => by omega, fun hx => h1 1 hx (by omega)⟩

/-- Steps that say the same are the same. -/
theorem Can.uniq {L' : List (Int × Int)} {g : Int → Int} (h : Can L now f) (h' : Can L' now g) (hfg : ∀ t, now ≤ t → f t = g t) : L = L' := by
  have half : ∀ {L L' : List (Int × Int)} {f g : Int → Int}, Can L now f → Can L' now g → (∀ t, now ≤ t → f t = g t) → ∀ i, (∀ j, j ≤ i → j < L.length ∧ j < L'.length ∧ tA L j = tA L' j ∧ tV L j = tV L' j) → i + 1 < L.length → i + 1 < L'.length ∧ tA L' (i + 1) ≤ tA L (i + 1) := by
    intro L L' f g h h' hfg i hi hlt
    obtain ⟨h1, h2, ea, ev⟩ := hi i (Nat.le_refl _)
    have hinc := h.sm.inc i hlt
    have hnow := h.sm.ge_now h1
    have v1 := h.sm.rep (i + 1) (tA L (i + 1)) hlt (Int.le_refl _) (fun hx => h.sm.inc (i + 1) hx)
    have hne := h.alt i hlt (fun x => x)
    have hf := hfg (tA L (i + 1)) (by omega)
    by_cases hx : i + 1 < L'.length
    · refine ⟨hx, ?_⟩
      rcases Int.lt_or_le (tA L (i + 1)) (tA L' (i + 1)) with h3 | h3
      · have v2 := h'.sm.rep i (tA L (i + 1)) h2 (by omega) (fun _ => h3)
        exact absurd (by omega) hne
      · exact h3
    · have v2 := h'.sm.rep i (tA L (i + 1)) h2 (by omega) (fun hy => absurd hy hx)
      exact absurd (by omega) hne
  have all : ∀ i, (i < L.length → i < L'.length ∧ tA L i = tA L' i ∧ tV L i = tV L' i) ∧ (i < L'.length → i < L.length) := by
    intro i
    induction i using Nat.strongRecOn with
    | _ i ih =>
      rcases i with _ | i
      · refine ⟨fun _ => ⟨h'.sm.pos, by rw [h.sm.hd, h'.sm.hd], ?_⟩, fun _ => h.sm.pos⟩
        have v1 := h.sm.rep 0 now h.sm.pos (by rw [h.sm.hd]; exact Int.le_refl _) (fun hx => by have := h.sm.inc 0 hx; rw [h.sm.hd] at this; exact this)
        have v2 := h'.sm.rep 0 now h'.sm.pos (by rw [h'.sm.hd]; exact Int.le_refl _) (fun hx => by have := h'.sm.inc 0 hx; rw [h'.sm.hd] at this; exact this)
        have := hfg now (Int.le_refl _)
        omega
      · have both : i + 1 < L.length ∨ i + 1 < L'.length → ∀ j, j ≤ i → j < L.length ∧ j < L'.length ∧ tA L j = tA L' j ∧ tV L j = tV L' j := by
          intro hor j hj
          obtain ⟨a, b⟩ := ih j (by omega)
          have hl : j < L.length := by
            rcases hor with h1 | h1
            · omega
            · exact b (by omega)
          obtain ⟨c, d, e⟩ := a hl
          exact ⟨hl, c, d, e⟩
        have both' : i + 1 < L.length ∨ i + 1 < L'.length → ∀ j, j ≤ i → j < L'.length ∧ j < L.length ∧ tA L' j = tA L j ∧ tV L' j = tV L j := by
          intro hor j hj
          obtain ⟨a, b, c, d⟩ := both hor j hj
          exact ⟨b, a, c.symm, d.symm⟩
        refine ⟨fun hlt => ?_, fun hlt => (half h' h (fun t ht => (hfg t ht).symm) i (both' (.inr hlt)) hlt).1⟩
        obtain ⟨h1, h2⟩ := half h h' hfg i (both (.inl hlt)) hlt
        obtain ⟨_, h3⟩ := half h' h (fun t ht => (hfg t ht).symm) i (both' (.inl hlt)) h1
        have ea : tA L (i + 1) = tA L' (i + 1) := by omega
        refine ⟨h1, ea, ?_⟩
        have v1 := h.sm.rep (i + 1) (tA L (i + 1)) hlt (Int.le_refl _) (fun hx => h.sm.inc (i + 1) hx)
        have v2 := h'.sm.rep (i + 1) (tA L (i + 1)) h1 (by omega) (fun hx => by rw [ea]; exact h'.sm.inc (i + 1) hx)
        have hge := h.sm.ge_now hlt
        have := hfg (tA L (i + 1)) hge
        omega
  apply List.ext_getElem?
  intro i
  by_cases hi : i < L.length
  · obtain ⟨hl, ea, ev⟩ := (all i).1 hi
    simp only [tA, tV, List.getD_eq_getElem?_getD, List.getElem?_eq_getElem hi, List.getElem?_eq_getElem hl, Option.getD_some] at ea ev
    rw [List.getElem?_eq_getElem hi, List.getElem?_eq_getElem hl]
    congr 1
    exact Prod.ext ea ev
  · have hl : ¬ i < L'.length := fun hl => hi ((all i).2 hl)
    rw [List.getElem?_eq_none (by omega), List.getElem?_eq_none (by omega)]

theorem Can.congr {g : Int → Int} (h : Can L now f) (hfg : ∀ t, now ≤ t → f t = g t) : Can L now g :=
  ⟨⟨h.sm.pos, h.sm.hd, h.sm.inc, h.sm.top, fun i t hi ha hn => by have := h.sm.ge_now hi; rw [← hfg t (by omega)]; exact h.sm.rep i t hi ha hn⟩, h.alt⟩

/-! A step put in, one left out, and some raised. -/
def insL (L : List (Int × Int)) (k : Nat) (x : Int × Int) : List (Int × Int) := L.take k ++ x :: L.drop k
def delL (L : List (Int × Int)) (k : Nat) : List (Int × Int) := L.take k ++ L.drop (k + 1)
theorem length_insL {k : Nat} {x : Int × Int} (hk : k ≤ L.length) : (insL L k x).length = L.length + 1 := by simp [insL]; omega
theorem length_delL {k : Nat} (hk : k < L.length) : (delL L k).length = L.length - 1 := by simp [delL]; omega
theorem getD_insL {k : Nat} {x : Int × Int} (hk : k ≤ L.length) (m : Nat) (d : Int × Int) : (insL L k x).getD m d = if m < k then L.getD m d else if m = k then x else L.getD (m - 1) d := by
  simp only [insL, List.getD_eq_getElem?_getD]
  have hl : (L.take k).length = k := by rw [List.length_take]; omega
  by_cases h1 : m < k
  · rw [if_pos h1, List.getElem?_append_left (by omega), List.getElem?_take, if_pos h1]
  · rw [if_neg h1, List.getElem?_append_right (by omega), hl]
    by_cases h2 : m = k
    · subst h2; simp
    · rw [if_neg h2]
      obtain ⟨q, hq⟩ : ∃ q, m - k = q + 1 := ⟨m - k - 1, by omega⟩
      rw [hq, List.getElem?_cons_succ, List.getElem?_drop]
      congr 2
      omega
theorem getD_delL {k : Nat} (hk : k < L.length) (m : Nat) (d : Int × Int) : (delL L k).getD m d = if m < k then L.getD m d else L.getD (m + 1) d := by
  simp only [delL, List.getD_eq_getElem?_getD]
  have hl : (L.take k).length = k := by rw [List.length_take]; omega
  by_cases h1 : m < k
  · rw [if_pos h1, List.getElem?_append_left (by omega), List.getElem?_take, if_pos h1]
  · rw [if_neg h1, List.getElem?_append_right (by omega), hl, List.getElem?_drop]
    congr 2
    omega
theorem tA_ins {k : Nat} {x : Int × Int} (hk : k ≤ L.length) (m : Nat) : tA (insL L k x) m = if m < k then tA L m else if m = k then x.1 else tA L (m - 1) := by
  simp only [tA, getD_insL hk]; split; · rfl
  · split <;> rfl
theorem tV_ins {k : Nat} {x : Int × Int} (hk : k ≤ L.length) (m : Nat) : tV (insL L k x) m = if m < k then tV L m else if m = k then x.2 else tV L (m - 1) := by
  simp only [tV, getD_insL hk]; split; · rfl
  · split <;> rfl
theorem tA_del {k : Nat} (hk : k < L.length) (m : Nat) : tA (delL L k) m = if m < k then tA L m else tA L (m + 1) := by
  simp only [tA, getD_delL hk]; split <;> rfl
theorem tV_del {k : Nat} (hk : k < L.length) (m : Nat) : tV (delL L k) m = if m < k then tV L m else tV L (m + 1) := by
  simp only [tV, getD_delL hk]; split <;> rfl

theorem Sm.ins (h : Sm L now f) {t : Int} {i : Nat} (hi : IsIx L t i) (hn : now ≤ t) (hne : tA L i ≠ t) (ht : t < 1152921504606846976) : Sm (insL L (i + 1) (t, tV L i)) now f := by
  have hik := hi.lt
  have hk : i + 1 ≤ L.length := by omega
  have hle := hi.le_now h hn
  have hl := length_insL (x := (t, tV L i)) hk
  have A := tA_ins (x := (t, tV L i)) hk
  have V := tV_ins (x := (t, tV L i)) hk
  refine ⟨by omega, ?_, ?_, ?_, ?_⟩
  · rw [A, if_pos (by omega), h.hd]
  · intro m hm
    rw [A, A]
    rcases (by omega : m + 1 < i + 1 ∨ m = i ∨ m = i + 1 ∨ i + 1 < m) with h1 | h1 | h1 | h1
    · rw [if_pos (by omega), if_pos h1]; exact h.inc m (by omega)
    · subst h1; rw [if_pos (by omega), if_neg (by omega), if_pos rfl]; show tA L m < t; omega
    · subst h1; rw [if_neg (by omega), if_pos rfl, if_neg (by omega), if_neg (by omega)]
      exact hi.nx (by omega)
    · rw [if_neg (by omega), if_neg (by omega), if_neg (by omega), if_neg (by omega)]
      have := h.inc (m - 1) (by omega)
      rw [show m - 1 + 1 = m by omega] at this
      rw [show m + 1 - 1 = m by omega]
      exact this
  · intro m hm
    rw [A]
    split
    · exact h.top m (by omega)
    · split
      · exact ht
      · exact h.top (m - 1) (by omega)
  · intro m u hm hle2 hnx
    rw [A] at hle2
    rw [V]
    rcases (by omega : m + 1 < i + 1 ∨ m = i ∨ m = i + 1 ∨ i + 1 < m) with h1 | h1 | h1 | h1
    · rw [if_pos (by omega)] at hle2 ⊢
      refine h.rep m u (by omega) hle2 fun hx => ?_
      have := hnx (by omega)
      rw [A, if_pos h1] at this
      exact this
    · subst h1
      rw [if_pos (by omega)] at hle2 ⊢
      have h2 := hnx (by omega)
      rw [A, if_neg (by omega), if_pos rfl] at h2
      have h2 : u < t := h2
      exact h.rep m u (by omega) hle2 fun hx => by have := hi.nx hx; omega
    · subst h1
      rw [if_neg (by omega), if_pos rfl] at hle2 ⊢
      have hle2 : t ≤ u := hle2
      refine h.rep i u hik (by omega) fun hx => ?_
      have := hnx (by omega)
      rw [A, if_neg (by omega), if_neg (by omega)] at this
      exact this
    · rw [if_neg (by omega), if_neg (by omega)] at hle2 ⊢
      refine h.rep (m - 1) u (by omega) hle2 fun hx => ?_
      have := hnx (by omega)
      rw [A, if_neg (by omega), if_neg (by omega)] at this
      rw [show m - 1 + 1 = m + 1 - 1 by omega]
      exact this
theorem AltT.ins {X Y : Int → Prop} {t : Int} {i : Nat} (h : AltT L X) (hik : i < L.length) (hX : ∀ s, X s → Y s) (ht : Y t) : AltT (insL L (i + 1) (t, tV L i)) Y := by
  have hk : i + 1 ≤ L.length := by omega
  have hl := length_insL (x := (t, tV L i)) hk
  have A := tA_ins (x := (t, tV L i)) hk
  have V := tV_ins (x := (t, tV L i)) hk
  intro m hm hY
  rw [A] at hY
  rw [V, V]
  rcases (by omega : m + 1 < i + 1 ∨ m = i ∨ m = i + 1 ∨ i + 1 < m) with h1 | h1 | h1 | h1
  · rw [if_pos h1] at hY
    rw [if_pos (by omega), if_pos h1]
    exact h m (by omega) fun hx => hY (hX _ hx)
  · subst h1
    rw [if_neg (by omega), if_pos rfl] at hY
    exact absurd ht hY
  · subst h1
    rw [if_neg (by omega), if_neg (by omega)] at hY
    rw [if_neg (by omega), if_pos rfl, if_neg (by omega), if_neg (by omega)]
    exact h i (by omega) fun hx => hY (hX _ hx)
  · rw [if_neg (by omega), if_neg (by omega)] at hY
    rw [if_neg (by omega), if_neg (by omega), if_neg (by omega), if_neg (by omega)]
    have := h (m - 1) (by omega)
    rw [show m - 1 + 1 = m by omega] at this
    rw [show m + 1 - 1 = m by omega] at hY ⊢
    exact this fun hx => hY (hX _ hx)

theorem Sm.del (h : Sm L now f) {j : Nat} (hj0 : 0 < j) (hj : j < L.length) (hv : tV L j = tV L (j - 1)) : Sm (delL L j) now f := by
  have hl := length_delL hj
  have A := tA_del hj
  have V := tV_del hj
  refine ⟨by omega, ?_, ?_, ?_, ?_⟩
  · rw [A, if_pos hj0, h.hd]
  · intro m hm
    rw [A, A]
    rcases (by omega : m + 1 < j ∨ m + 1 = j ∨ j ≤ m) with h1 | h1 | h1
    · rw [if_pos (by omega), if_pos h1]; exact h.inc m (by omega)
    · rw [if_pos (by omega), if_neg (by omega)]; exact h.lt (by omega) (by omega)
    · rw [if_neg (by omega), if_neg (by omega)]; exact h.inc (m + 1) (by omega)
  · intro m hm
    rw [A]
    split
    · exact h.top m (by omega)
    · exact h.top (m + 1) (by omega)
  · intro m u hm hle hnx
    rw [A] at hle
    rw [V]
    rcases (by omega : m + 1 < j ∨ m + 1 = j ∨ j ≤ m) with h1 | h1 | h1
    · rw [if_pos (by omega)] at hle ⊢
      refine h.rep m u (by omega) hle fun hx => ?_
      have := hnx (by omega)
      rw [A, if_pos h1] at this
      exact this
    · subst h1
      rw [if_pos (by omega)] at hle ⊢
      by_cases hu : u < tA L (m + 1)
      · exact h.rep m u (by omega) hle fun _ => hu
      · rw [show m = m + 1 - 1 by omega, ← hv]
        refine h.rep (m + 1) u (by omega) (by omega) fun hx => ?_
        have := hnx (by omega)
        rw [A, if_neg (by omega)] at this
        exact this
    · rw [if_neg (by omega)] at hle ⊢
      refine h.rep (m + 1) u (by omega) hle fun hx => ?_
      have := hnx (by omega)
      rw [A, if_neg (by omega)] at this
      exact this
theorem AltT.del {X Y : Int → Prop} {j : Nat} (h : AltT L X) (hj0 : 0 < j) (hj : j < L.length) (hv : tV L j = tV L (j - 1)) (hX : ∀ s, X s → Y s ∨ s = tA L j) (hs : ∀ m, j < m → m < L.length → tA L j ≠ tA L m) (hs2 : ∀ m, m < j → tA L m ≠ tA L j) : AltT (delL L j) Y := by
  have hl := length_delL hj
  have A := tA_del hj
  have V := tV_del hj
  intro m hm hY
  rw [A] at hY
  rw [V, V]
  rcases (by omega : m + 1 < j ∨ m + 1 = j ∨ j ≤ m) with h1 | h1 | h1
  · rw [if_pos h1] at hY
    rw [if_pos (by omega), if_pos h1]
    refine h m (by omega) fun hx => ?_
    rcases hX _ hx with h2 | h2
    · exact hY h2
    · exact hs2 _ h1 h2
  · rw [if_neg (by omega)] at hY
    rw [if_pos (by omega), if_neg (by omega)]
    have := h (m + 1) (by omega)
    rw [show m = j - 1 by omega, ← hv, show j = m + 1 by omega]
    rw [show m + 1 - 1 = m by omega]
    refine this fun hx => ?_
    rcases hX _ hx with h2 | h2
    · exact hY h2
    · exact hs _ (by omega) (by omega) h2.symm
  · rw [if_neg (by omega)] at hY
    rw [if_neg (by omega), if_neg (by omega)]
    refine h (m + 1) (by omega) fun hx => ?_
    rcases hX _ hx with h2 | h2
    · exact hY h2
    · exact hs _ (by omega) (by omega) h2.symm

/-- From step i up to step j, n more are free. -/
structure Raised (L L' : List (Int × Int)) (i j : Nat) (n : Int) : Prop where
  len : L'.length = L.length
  a : ∀ m, tA L' m = tA L m
  v : ∀ m, m < L.length → tV L' m = tV L m + (if i ≤ m ∧ m < j then n else 0)

/-- What is added at a time. -/
def had (a b n t : Int) : Int := if a ≤ t ∧ (t < b ∨ b = 1152921504606846976) then n else 0

theorem Sm.raise {L' : List (Int × Int)} {i j : Nat} {n a b : Int} (h : Sm L now f) (hr : Raised L L' i j n) (hi : i < L.length) (ha : tA L i = a)
    (hj : (j < L.length ∧ tA L j = b) ∨ (j = L.length ∧ b = 1152921504606846976)) : Sm L' now (fun t => f t + had a b n t) := by
  refine ⟨by rw [hr.len]; exact h.pos, by rw [hr.a]; exact h.hd, fun m hm => by rw [hr.a, hr.a]; rw [hr.len] at hm; exact h.inc m hm, fun m hm => by rw [hr.a]; rw [hr.len] at hm; exact h.top m hm, fun m t hm hle hnx => ?_⟩
  rw [hr.len] at hm hnx
  rw [hr.a] at hle hnx
  rw [hr.v m hm]
  show f t + had a b n t = _
  rw [h.rep m t hm hle hnx]
  congr 1
  unfold had
  have h1 : a ≤ t ↔ i ≤ m := by
    constructor
    · intro h1
      rcases Nat.lt_or_ge m i with h2 | h2
      · have h3 := h.le (i := m + 1) (j := i) (by omega) hi
        have := hnx (by omega)
        omega
      · exact h2
    · intro h1
      have := h.le h1 hm
      omega
  have h2 : (t < b ∨ b = 1152921504606846976) ↔ m < j := by
    rcases hj with ⟨hj, hb⟩ | ⟨hj, hb⟩
    · have htop := h.top j hj
      constructor
      · intro h1
        rcases Nat.lt_or_ge m j with h2 | h2
        · exact h2
        · have := h.le h2 hm
          omega
      · intro h1
        have h3 := h.le (i := m + 1) (j := j) (by omega) hj
        have := hnx (by omega)
        exact .inl (by omega)
    · exact ⟨fun _ => by omega, fun _ => .inr hb⟩
  by_cases hc : i ≤ m ∧ m < j
  · rw [if_pos hc, if_pos ⟨h1.2 hc.1, h2.2 hc.2⟩]
  · rw [if_neg hc, if_neg fun hx => hc ⟨h1.1 hx.1, h2.1 hx.2⟩]
theorem AltT.raise {L' : List (Int × Int)} {i j : Nat} {n a b : Int} {X Y : Int → Prop} (h : AltT L X) (hr : Raised L L' i j n) (ha : tA L i = a)
    (hj : (j < L.length ∧ tA L j = b) ∨ (j = L.length ∧ b = 1152921504606846976)) (hX : ∀ s, X s → Y s) (hY1 : Y a) (hY2 : Y b) : AltT L' Y := by
  intro m hm hY
  rw [hr.len] at hm
  rw [hr.a] at hY
  have h0 := h m hm fun hx => hY (hX _ hx)
  rw [hr.v m (by omega), hr.v (m + 1) hm]
  have e1 : m + 1 ≠ i := fun e => by rw [e, ha] at hY; exact hY hY1
  have e2 : m + 1 ≠ j := fun e => by
    rcases hj with ⟨hj, hb⟩ | ⟨hj, hb⟩
    · rw [e, hb] at hY; exact hY hY2
    · omega
  by_cases hc : i ≤ m ∧ m < j
  · rw [if_pos hc, if_pos (by omega)]; omega
  · rw [if_neg hc, if_neg (by omega)]; omega

/-- Steps from a later time on. -/
theorem Can.later {L' : List (Int × Int)} {k : Nat} {t : Int} (h : Can L now f) (hk : IsIx L t k) (hn : now ≤ t) (ht : t < 1152921504606846976) (hl : L'.length = L.length - k) (h0 : tA L' 0 = t) (ha : ∀ m, 0 < m → tA L' m = tA L (m + k)) (hv : ∀ m, tV L' m = tV L (m + k)) : Can L' t f := by
  have hkl := hk.lt
  have hle := hk.le_now h.sm hn
  refine ⟨⟨by omega, h0, fun m hm => ?_, fun m hm => ?_, fun m u hm hle2 hnx => ?_⟩, fun m hm _ => ?_⟩
  · rw [ha (m + 1) (by omega)]
    rcases Nat.eq_zero_or_pos m with h1 | h1
    · subst h1
      rw [h0, show 0 + 1 + k = k + 1 by omega]
      exact hk.nx (by omega)
    · rw [ha m h1, show m + 1 + k = m + k + 1 by omega]
      exact h.sm.inc (m + k) (by omega)
  · rcases Nat.eq_zero_or_pos m with h1 | h1
    · subst h1; rw [h0]; exact ht
    · rw [ha m h1]; exact h.sm.top (m + k) (by omega)
  · rw [hv]
    refine h.sm.rep (m + k) u (by omega) ?_ fun hx => ?_
    · rcases Nat.eq_zero_or_pos m with h1 | h1
      · subst h1; rw [h0] at hle2; rw [show 0 + k = k by omega]; omega
      · rw [ha m h1] at hle2; exact hle2
    · have := hnx (by omega)
      rw [ha (m + 1) (by omega)] at this
      rw [show m + k + 1 = m + 1 + k by omega]
      exact this
  · rw [hv, hv, show m + 1 + k = m + k + 1 by omega]
    exact h.alt (m + k) (by omega) (fun x => x)
end

/-- The least of what is free at any time between two (64 if there is none), and the most (0 if there is none). -/
structure BL (f : Int → Int) (lo hi m : Int) : Prop where
  le : m ≤ 64
  all : ∀ t, lo ≤ t → t < hi → m ≤ f t
  one : m = 64 ∨ ∃ t, lo ≤ t ∧ t < hi ∧ f t = m
structure BM (f : Int → Int) (lo hi m : Int) : Prop where
  le : 0 ≤ m
  all : ∀ t, lo ≤ t → t < hi → f t ≤ m
  one : m = 0 ∨ ∃ t, lo ≤ t ∧ t < hi ∧ f t = m
theorem BL.uniq {f g : Int → Int} {lo hi m n : Int} (h : BL f lo hi m) (h' : BL g lo hi n) (hfg : ∀ t, lo ≤ t → f t = g t) : m = n := by
  have a : m ≤ n := by
    rcases h'.one with e | ⟨t, h1, h2, e⟩
    · have := h.le; omega
    · have := h.all t h1 h2; have := hfg t h1; omega
  have b : n ≤ m := by
    rcases h.one with e | ⟨t, h1, h2, e⟩
    · have := h'.le; omega
    · have := h'.all t h1 h2; have := hfg t h1; omega
  omega

/-- So many are free for so long from a time on. -/
def Good (f : Int → Int) (long width u : Int) : Prop := ∀ x, u ≤ x → x < u + long → width ≤ f x
/-- What Earliest tells. -/
def EarlP (f : Int → Int) (lo long width t e : Int) : Prop :=
  (e = 0 ∧ lo ≤ t ∧ t ≤ 1099511627776 ∧ Good f long width t ∧ ∀ u, lo ≤ u → u < t → ¬ Good f long width u) ∨ (e = 16 ∧ t = 0 ∧ ∀ u, lo ≤ u → u ≤ 1099511627776 → ¬ Good f long width u)
theorem Good.congr {f g : Int → Int} {long width u lo : Int} (hfg : ∀ t, lo ≤ t → f t = g t) (hu : lo ≤ u) (h : Good f long width u) : Good g long width u := fun x h1 h2 => by rw [← hfg x (by omega)]; exact h x h1 h2
theorem EarlP.uniq {f g : Int → Int} {lo long width t e t' e' : Int} (h : EarlP f lo long width t e) (h' : EarlP g lo long width t' e') (hfg : ∀ t, lo ≤ t → f t = g t) : t = t' ∧ e = e' := by
  have hgf : ∀ t, lo ≤ t → g t = f t := fun t ht => (hfg t ht).symm
  rcases h with ⟨e1, a1, b1, c1, d1⟩ | ⟨e1, a1, d1⟩ <;> rcases h' with ⟨e2, a2, b2, c2, d2⟩ | ⟨e2, a2, d2⟩
  · refine ⟨?_, by omega⟩
    rcases Int.lt_trichotomy t t' with h | h | h
    · exact absurd (c1.congr hfg a1) (d2 t a1 h)
    · exact h
    · exact absurd (c2.congr hgf a2) (d1 t' a2 h)
  · exact absurd (c1.congr hfg a1) (d2 t a1 b1)
  · exact absurd (c2.congr hgf a2) (d1 t' a2 b2)
  · exact ⟨by omega, by omega⟩

/-! What was added, from when to when. -/
def hadS (t : Int) (s : Sp) : Int := had s.a s.b s.n t
def raw (F : Int) (E : List Sp) (t : Int) : Int := F + (E.map (hadS t)).sum
theorem raw_snoc (F : Int) (E : List Sp) (s : Sp) (t : Int) : raw F (E ++ [s]) t = raw F E t + had s.a s.b s.n t := by simp [raw, hadS]; omega
theorem raw_nil (F t : Int) : raw F [] t = F := by simp [raw]

/-- A span that was added. -/
structure SpOk (s : Sp) : Prop where
  a : 0 ≤ s.a
  ab : s.a < s.b
  b : s.b ≤ 1152921504606846976
  n : -64 ≤ s.n ∧ s.n ≤ 64
theorem hadS_range {t : Int} {s : Sp} (h : SpOk s) : -64 ≤ hadS t s ∧ hadS t s ≤ 64 := by
  have := h.n
  unfold hadS had
  split <;> omega
theorem raw_range {E : List Sp} (h : ∀ s ∈ E, SpOk s) (t : Int) : -64 * (E.length : Int) ≤ (E.map (hadS t)).sum ∧ (E.map (hadS t)).sum ≤ 64 * E.length := by
  induction E with
  | nil => simp
  | cons s E ih =>
    have h1 := hadS_range (t := t) (h s (List.mem_cons_self ..))
    have h2 := ih fun s hs => h s (List.mem_cons_of_mem _ hs)
    rw [List.map_cons, List.sum_cons, List.length_cons]
    omega

/-- The times at which it may change, rising from now on. -/
structure EdgesOf (E : List Sp) (now : Int) (es : List Int) : Prop where
  pos : 0 < es.length
  hd : es.getD 0 0 = now
  inc : ∀ i, i + 1 < es.length → es.getD i 0 < es.getD (i + 1) 0
  top : ∀ i, i < es.length → es.getD i 0 < 1152921504606846976
  all : ∀ s ∈ E, ∀ x, x = s.a ∨ x = s.b → now < x → x < 1152921504606846976 → ∃ i, i < es.length ∧ es.getD i 0 = x

section
variable {E : List Sp} {now : Int} {es : List Int}
theorem EdgesOf.lt (h : EdgesOf E now es) {i j : Nat} (hij : i < j) (hj : j < es.length) : es.getD i 0 < es.getD j 0 := by
  induction j with
  | zero => omega
  | succ j ih =>
    rcases Nat.lt_or_ge i j with h1 | h1
    · have := ih h1 (by omega)
      have := h.inc j hj
      omega
    · have : i = j := by omega
      subst this
      exact h.inc i hj
theorem EdgesOf.le (h : EdgesOf E now es) {i j : Nat} (hij : i ≤ j) (hj : j < es.length) : es.getD i 0 ≤ es.getD j 0 := by
  rcases Nat.lt_or_ge i j with h1 | h1
  · exact Int.le_of_lt (h.lt h1 hj)
  · have : i = j := by omega
    subst this
    exact Int.le_refl _
theorem EdgesOf.ge_now (h : EdgesOf E now es) {i : Nat} (hi : i < es.length) : now ≤ es.getD i 0 := by
  rw [← h.hd]
  exact h.le (Nat.zero_le _) hi
theorem EdgesOf.const (h : EdgesOf E now es) (hE : ∀ s ∈ E, SpOk s) (F : Int) {k : Nat} {t : Int} (hk : k < es.length) (hle : es.getD k 0 ≤ t) (hnx : k + 1 < es.length → t < es.getD (k + 1) 0) : raw F E t = raw F E (es.getD k 0) := by
  have hn := h.ge_now hk
  have far : ∀ s ∈ E, ∀ x, x = s.a ∨ x = s.b → x < 1152921504606846976 → (x ≤ t ↔ x ≤ es.getD k 0) := by
    intro s hs x hx hxf
    refine ⟨fun h1 => ?_, fun h1 => by omega⟩
    rcases Int.lt_or_le (es.getD k 0) x with h2 | h2
    · obtain ⟨i, hi, e⟩ := h.all s hs x hx (by omega) hxf
      have hki : k < i := by
        rcases Nat.lt_or_ge k i with h3 | h3
        · exact h3
        · have := h.le h3 hk; omega
      have h4 := h.le (i := k + 1) (j := i) (by omega) hi
      have := hnx (by omega)
      omega
    · exact h2
  have : ∀ (l : List Sp), (∀ s ∈ l, s ∈ E) → (l.map (hadS t)).sum = (l.map (hadS (es.getD k 0))).sum := by
    intro l
    induction l with
    | nil => intro _; rfl
    | cons s l ih =>
      intro hl
      rw [List.map_cons, List.map_cons, List.sum_cons, List.sum_cons, ih fun x hx => hl x (List.mem_cons_of_mem _ hx)]
      congr 1
      have hs := hl s (List.mem_cons_self ..)
      have ho := hE s hs
      have h1 := far s hs s.a (.inl rfl) (by have := ho.ab; have := ho.b; omega)
      unfold hadS had
      by_cases hb : s.b = 1152921504606846976
      · simp only [hb, or_true, and_true, h1]
      · have h2 := far s hs s.b (.inr rfl) (by have := ho.b; omega)
        have e1 : (t < s.b ∨ s.b = 1152921504606846976) ↔ (es.getD k 0 < s.b ∨ s.b = 1152921504606846976) := by omega
        simp only [h1, e1]
  unfold raw
  rw [this E fun s hs => hs]
/-- The last of the times up to a time. -/
theorem EdgesOf.ix (h : EdgesOf E now es) {t : Int} (hn : now ≤ t) : ∃ k, k < es.length ∧ es.getD k 0 ≤ t ∧ (k + 1 < es.length → t < es.getD (k + 1) 0) := by
  have key : ∀ q, q ≤ es.length → (∃ k, k < es.length ∧ es.getD k 0 ≤ t ∧ (k + 1 < es.length → t < es.getD (k + 1) 0)) ∨ (∀ j, j < es.length → es.length - q ≤ j → t < es.getD j 0) := by
    intro q
    induction q with
    | zero => intro _; exact .inr fun j hj hk => by omega
    | succ q ih =>
      intro hq
      rcases ih (by omega) with h1 | h1
      · exact .inl h1
      · by_cases hle : es.getD (es.length - (q + 1)) 0 ≤ t
        · exact .inl ⟨es.length - (q + 1), by omega, hle, fun hx => h1 _ hx (by omega)⟩
        · refine .inr fun j hj hjk => ?_
          rcases Nat.lt_or_ge j (es.length - q) with h2 | h2
          · have : j = es.length - (q + 1) := by omega
            subst this; omega
          · exact h1 j hj h2
  rcases key es.length (Nat.le_refl _) with h1 | h1
  · exact h1
  · have := h1 0 h.pos (by omega)
    rw [h.hd] at this
    omega
/-- Each time lies behind lo, or behind an edge behind lo, from which on nothing changes up to it. -/
theorem EdgesOf.cand (h : EdgesOf E now es) (hE : ∀ s ∈ E, SpOk s) (F : Int) {lo t : Int} (hlo : now ≤ lo) (ht : lo ≤ t) : ∃ k, k ≤ es.length ∧ lo ≤ (lo :: es).getD k 0 ∧ (lo :: es).getD k 0 ≤ t ∧ ∀ u, (lo :: es).getD k 0 ≤ u → u ≤ t → raw F E u = raw F E t := by
  obtain ⟨k, hk, hle, hnx⟩ := h.ix (t := t) (by omega)
  have hc : ∀ u, es.getD k 0 ≤ u → u ≤ t → raw F E u = raw F E t := fun u h1 h2 => by
    rw [h.const hE F hk hle hnx, h.const hE F hk h1 fun hx => by have := hnx hx; omega]
  rcases Int.lt_or_le (es.getD k 0) lo with h1 | h1
  · exact ⟨0, Nat.zero_le _, by simp, by simpa using ht, fun u h2 h3 => hc u (by simp at h2; omega) h3⟩
  · exact ⟨k + 1, by omega, by simpa using h1, by simpa using hle, fun u h2 h3 => hc u (by simpa using h2) h3⟩
end

end Go.Proofs.Ytbnpeicmbbgboaa
