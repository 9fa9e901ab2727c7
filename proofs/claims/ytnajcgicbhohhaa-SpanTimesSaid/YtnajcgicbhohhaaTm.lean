/-
  Own arithmetic: the times at which spans begin or end, rising, each once. Nothing of a program is said here.
-/
import Derived.Test.YtnajcgicbhohhaaSpA
namespace Go.Proofs.Ytnajcgicbhohhaa

/-- The times at which spans begin or end, as they come. -/
def allT (l : List Sp) : List Int := l.flatMap fun s => if rightB s then [s.a, s.b] else []
theorem allT_snoc (l : List Sp) (s : Sp) : allT (l ++ [s]) = allT l ++ (if rightB s then [s.a, s.b] else []) := by simp [allT]
theorem allT_snoc_yes {l : List Sp} {s : Sp} (h : rightB s = true) : allT (l ++ [s]) = allT l ++ [s.a, s.b] := by rw [allT_snoc, if_pos h]
theorem allT_snoc_no {l : List Sp} {s : Sp} (h : rightB s = false) : allT (l ++ [s]) = allT l := by rw [allT_snoc, if_neg (by rw [h]; decide), List.append_nil]
theorem allT_mem {l : List Sp} {t : Int} : t ∈ allT l ↔ ∃ s ∈ l, rightB s = true ∧ (t = s.a ∨ t = s.b) := by
  unfold allT
  rw [List.mem_flatMap]
  constructor
  · rintro ⟨s, hs, ht⟩
    by_cases hr : rightB s = true
    · rw [if_pos hr] at ht
      simp at ht
      exact ⟨s, hs, hr, ht⟩
    · rw [if_neg hr] at ht; cases ht
  · rintro ⟨s, hs, hr, ht⟩
    refine ⟨s, hs, ?_⟩
    rw [if_pos hr]
    simpa using ht
theorem allT_range {l : List Sp} {t : Int} (h : t ∈ allT l) : 0 ≤ t ∧ t ≤ 1152921504606846976 := by
  obtain ⟨s, _, hr, ht⟩ := allT_mem.1 h
  have := rightB_yes hr
  omega
theorem allT_length (l : List Sp) : (allT l).length ≤ 2 * l.length := by
  induction l with
  | nil => simp [allT]
  | cons s l ih =>
    have e : allT (s :: l) = (if rightB s then [s.a, s.b] else []) ++ allT l := by simp [allT]
    rw [e, List.length_append, List.length_cons]
    split <;> simp <;> omega
theorem allT_take_le (l : List Sp) (k : Nat) (h : l.length ≤ 30) : (allT (l.take k)).length ≤ 60 := by
  have := allT_length (l.take k)
  have h2 : (l.take k).length ≤ 30 := by rw [List.length_take]; omega
  omega

/-- A list that holds just these times, rising, each once. -/
def IsT (l : List Sp) (r : List Int) : Prop := r.Pairwise (· < ·) ∧ ∀ t, t ∈ r ↔ t ∈ allT l

theorem asc_unique : ∀ (r r' : List Int), r.Pairwise (· < ·) → r'.Pairwise (· < ·) → (∀ t, t ∈ r ↔ t ∈ r') → r = r'
  | [], [], _, _, _ => rfl
  | [], b :: bs, _, _, h => by have := (h b).2 (by simp); cases this
  | a :: us, [], _, _, h => by have := (h a).1 (by simp); cases this
  | a :: us, b :: bs, h1, h2, h => by
    rw [List.pairwise_cons] at h1 h2
    have hab : a = b := by
      rcases List.mem_cons.1 ((h a).1 (by simp)) with e | e
      · exact e
      · rcases List.mem_cons.1 ((h b).2 (by simp)) with e' | e'
        · exact e'.symm
        · have := h1.1 b e'; have := h2.1 a e; omega
    subst hab
    congr 1
    refine asc_unique us bs h1.2 h2.2 fun t => ⟨fun ht => ?_, fun ht => ?_⟩
    · rcases List.mem_cons.1 ((h t).1 (List.mem_cons_of_mem _ ht)) with e | e
      · have := h1.1 t ht; omega
      · exact e
    · rcases List.mem_cons.1 ((h t).2 (List.mem_cons_of_mem _ ht)) with e | e
      · have := h2.1 t ht; omega
      · exact e
theorem IsT.unique {l : List Sp} {r r' : List Int} (h : IsT l r) (h' : IsT l r') : r = r' := asc_unique r r' h.1 h'.1 fun t => (h.2 t).trans (h'.2 t).symm

/-- What is gathered after k rounds, up to m. -/
def TInv (l : List Sp) (r : List Int) (m : Int) (k : Nat) : Prop :=
  -1 ≤ m ∧ r.length = k ∧ r.Pairwise (· < ·) ∧ (∀ t ∈ r, t ≤ m ∧ t ∈ allT l) ∧ (∀ t ∈ allT l, t ≤ m → t ∈ r) ∧ ((allT l).filter fun t => decide (m < t)).length + k ≤ 2 * l.length
/-- The next time behind m. -/
def NextT (ts : List Int) (m x : Int) : Prop := x ∈ ts ∧ m < x ∧ ∀ t ∈ ts, m < t → x ≤ t

theorem TInv.start (l : List Sp) : TInv l [] (-1) 0 := by
  refine ⟨by omega, rfl, List.Pairwise.nil, (fun t ht => by cases ht), fun t ht h => ?_, ?_⟩
  · have := allT_range ht; omega
  · have := allT_length l
    have := List.length_filter_le (fun t : Int => decide (-1 < t)) (allT l)
    omega
theorem filter_less {ts : List Int} {m x : Int} (hx : x ∈ ts) (h : m < x) : (ts.filter fun t => decide (x < t)).length + 1 ≤ (ts.filter fun t => decide (m < t)).length := by
  induction ts with
  | nil => cases hx
  | cons a ts ih =>
    rw [List.filter_cons, List.filter_cons]
    by_cases hax : x = a
    · subst hax
      have h0 : ¬ (decide (x < x) = true) := by simp
      have h1 : decide (m < x) = true := by simpa using h
      rw [if_neg h0, if_pos h1, List.length_cons]
      have key : ∀ us : List Int, (us.filter fun t => decide (x < t)).length ≤ (us.filter fun t => decide (m < t)).length := by
        intro us
        induction us with
        | nil => simp
        | cons u us ih =>
          rw [List.filter_cons, List.filter_cons]
          by_cases hu : x < u
          · rw [if_pos (by simpa using hu), if_pos (by simp; omega), List.length_cons, List.length_cons]; omega
          · rw [if_neg (by simpa using hu)]
            split
            · rw [List.length_cons]; omega
            · exact ih
      have := key ts
      omega
    · have hx' : x ∈ ts := by
        rcases List.mem_cons.1 hx with e | e
        · exact (hax e).elim
        · exact e
      have := ih hx'
      by_cases hu : x < a
      · rw [if_pos (by simpa using hu), if_pos (by simp; omega), List.length_cons, List.length_cons]; omega
      · rw [if_neg (by simpa using hu)]
        split
        · rw [List.length_cons]; omega
        · exact this
theorem TInv.step {l : List Sp} {r : List Int} {m x : Int} {k : Nat} (h : TInv l r m k) (hx : NextT (allT l) m x) : TInv l (r ++ [x]) x (k + 1) := by
  obtain ⟨h1, h2, h3, h4, h5, h6⟩ := h
  obtain ⟨hx1, hx2, hx3⟩ := hx
  refine ⟨by omega, by simp [h2], ?_, ?_, ?_, ?_⟩
  · rw [List.pairwise_append]
    refine ⟨h3, by simp, fun a ha b hb => ?_⟩
    simp at hb; subst hb
    have := (h4 a ha).1; omega
  · intro t ht
    rcases List.mem_append.1 ht with ht | ht
    · have := h4 t ht; exact ⟨by omega, this.2⟩
    · simp at ht; subst ht; exact ⟨by omega, hx1⟩
  · intro t ht hle
    by_cases hm : t ≤ m
    · exact List.mem_append_left _ (h5 t ht hm)
    · have := hx3 t ht (by omega)
      have : t = x := by omega
      subst this
      simp
  · have := filter_less hx1 hx2; omega
theorem TInv.done {l : List Sp} {r : List Int} {m : Int} {k : Nat} (h : TInv l r m k) (hno : ∀ t ∈ allT l, t ≤ m) : IsT l r :=
  ⟨h.2.2.1, fun t => ⟨fun ht => (h.2.2.2.1 t ht).2, fun ht => h.2.2.2.2.1 t ht (hno t ht)⟩⟩
theorem TInv.full {l : List Sp} {r : List Int} {m : Int} (h : TInv l r m (2 * l.length)) : IsT l r := by
  refine h.done fun t ht => ?_
  have h6 := h.2.2.2.2.2
  have h0 : ((allT l).filter fun t => decide (m < t)) = [] := List.eq_nil_of_length_eq_zero (by omega)
  rcases Int.lt_or_le m t with hlt | hle
  · have : t ∈ (allT l).filter fun t => decide (m < t) := List.mem_filter.2 ⟨ht, by simpa using hlt⟩
    rw [h0] at this; cases this
  · exact hle

/-- The best so far, as the text looks for it. -/
def stepT (m b t : Int) : Int := if m < t ∧ (b < 0 ∨ t < b) then t else b
theorem stepT_yes {m b t : Int} (h : m < t ∧ (b < 0 ∨ t < b)) : stepT m b t = t := if_pos h
theorem stepT_no {m b t : Int} (h : ¬ (m < t ∧ (b < 0 ∨ t < b))) : stepT m b t = b := if_neg h
def bestT (m : Int) (ts : List Int) : Int := ts.foldl (stepT m) (-1)
theorem bestT_two (m : Int) (ts : List Int) (x y : Int) : bestT m (ts ++ [x, y]) = stepT m (stepT m (bestT m ts) x) y := by unfold bestT; rw [List.foldl_append]; rfl
theorem bestT_spec (m : Int) (hm : -1 ≤ m) (ts : List Int) : (bestT m ts = -1 ∧ ∀ t ∈ ts, t ≤ m) ∨ (0 ≤ bestT m ts ∧ NextT ts m (bestT m ts)) := by
  have key : ∀ (us vs : List Int) (b : Int), ((b = -1 ∧ ∀ t ∈ vs, t ≤ m) ∨ (0 ≤ b ∧ NextT vs m b)) → ((us.foldl (stepT m) b = -1 ∧ ∀ t ∈ vs ++ us, t ≤ m) ∨ (0 ≤ us.foldl (stepT m) b ∧ NextT (vs ++ us) m (us.foldl (stepT m) b))) := by
    intro us
    induction us with
    | nil => intro vs b h; simpa using h
    | cons u us ih =>
      intro vs b h
      have := ih (vs ++ [u]) (stepT m b u) ?_
      · simpa using this
      · unfold stepT
        rcases h with ⟨rfl, h⟩ | ⟨hb, h1, h2, h3⟩
        · by_cases hu : m < u
          · rw [if_pos ⟨hu, Or.inl (by omega)⟩]
            refine Or.inr ⟨by omega, by simp, hu, fun t ht hmt => ?_⟩
            rcases List.mem_append.1 ht with ht | ht
            · have := h t ht; omega
            · simp at ht; omega
          · rw [if_neg (fun hh => hu hh.1)]
            refine Or.inl ⟨rfl, fun t ht => ?_⟩
            rcases List.mem_append.1 ht with ht | ht
            · exact h t ht
            · simp at ht; omega
        · by_cases hu : m < u ∧ (b < 0 ∨ u < b)
          · rw [if_pos hu]
            refine Or.inr ⟨by omega, by simp, hu.1, fun t ht hmt => ?_⟩
            rcases List.mem_append.1 ht with ht | ht
            · have := h3 t ht hmt; omega
            · simp at ht; omega
          · rw [if_neg hu]
            refine Or.inr ⟨hb, List.mem_append_left _ h1, h2, fun t ht hmt => ?_⟩
            rcases List.mem_append.1 ht with ht | ht
            · exact h3 t ht hmt
            · simp at ht; subst ht; omega
  have := key ts [] (-1) (Or.inl ⟨rfl, fun t ht => by cases ht⟩)
  simpa [bestT] using this
theorem bestT_range (m : Int) (hm : -1 ≤ m) (l : List Sp) : -1 ≤ bestT m (allT l) ∧ bestT m (allT l) ≤ 1152921504606846976 := by
  rcases bestT_spec m hm (allT l) with ⟨h, _⟩ | ⟨h, h2⟩
  · omega
  · have := allT_range h2.1; omega
theorem TInv.le {l : List Sp} {r : List Int} {m : Int} {k : Nat} (h : TInv l r m k) : ∀ t ∈ r, 0 ≤ t ∧ t ≤ 1152921504606846976 := fun t ht => allT_range (h.2.2.2.1 t ht).2

end Go.Proofs.Ytnajcgicbhohhaa
