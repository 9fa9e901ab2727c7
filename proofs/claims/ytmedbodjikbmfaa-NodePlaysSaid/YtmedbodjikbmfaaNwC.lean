/-
  Own words: what the comparison of both tables keeps: two rows of nodes and five counts.
-/
import Derived.Test.YtmedbodjikbmfaaNwB
namespace Go.Proofs.Ytmedbodjikbmfaa
open Go.RowKit Go.Lib Go.Sort

/-- How many of the first k are in a state. -/
def cN (l : List Int) (j : Int) (k : Nat) : Nat := cntK (fun i => decide (l.getD i 0 = j)) k
theorem cN_yes {l : List Int} {j : Int} {k : Nat} (h : l.getD k 0 = j) : cN l j (k + 1) = cN l j k + 1 := by
  unfold cN; simp only [cntK, h, decide_true, if_true]
theorem cN_no {l : List Int} {j : Int} {k : Nat} (h : l.getD k 0 ≠ j) : cN l j (k + 1) = cN l j k := by
  unfold cN; simp only [cntK, h, decide_false]; simp
theorem cN_le (l : List Int) (j : Int) (k : Nat) : cN l j k ≤ k := cntK_le _ _
/-- The used ones of the first k, in their order. -/
def useL (l : List Int) : Nat → List Int
  | 0 => []
  | k + 1 => useL l k ++ (if useB l k then [(k : Int)] else [])
theorem useL_yes {l : List Int} {k : Nat} (h : useB l k = true) : useL l (k + 1) = useL l k ++ [(k : Int)] := by simp [useL, h]
theorem useL_no {l : List Int} {k : Nat} (h : useB l k = false) : useL l (k + 1) = useL l k := by simp [useL, h]
theorem useL_mem (l : List Int) (k : Nat) (x : Int) : x ∈ useL l k ↔ ∃ i : Nat, i < k ∧ x = i ∧ useB l i = true := by
  induction k with
  | zero => simp [useL]
  | succ k ih =>
    simp only [useL, List.mem_append, ih]
    constructor
    · rintro (⟨i, h1, h2, h3⟩ | h)
      · exact ⟨i, by omega, h2, h3⟩
      · by_cases hk : useB l k = true
        · rw [if_pos hk] at h; exact ⟨k, by omega, by simpa using h, hk⟩
        · rw [if_neg hk] at h; cases h
    · rintro ⟨i, h1, h2, h3⟩
      by_cases e : i < k
      · exact .inl ⟨i, e, h2, h3⟩
      · have : i = k := by omega
        subst this; rw [if_pos h3]; exact .inr (by simpa using h2)
theorem useL_length (l : List Int) (k : Nat) : (useL l k).length ≤ k := by
  induction k with
  | zero => simp [useL]
  | succ k ih => simp only [useL, List.length_append]; split <;> simp <;> omega
theorem idleL_few (l : List Int) (k : Nat) : (idleL l k).length ≤ k := by rw [idleL_length]; exact cntK_le _ _
theorem idle_used (l : List Int) (k : Nat) : ∀ x, x ∈ idleL l k → x ∉ useL l k := by
  intro x h1 h2
  obtain ⟨i, _, rfl, hi⟩ := (idleL_mem l k x).1 h1
  obtain ⟨j, _, hj, hu⟩ := (useL_mem l k _).1 h2
  have : i = j := by omega
  subst this
  unfold isI at hi
  unfold useB at hu
  have : l.getD i 0 = 1 := of_decide_eq_true hi
  rw [this] at hu
  cases hu
theorem use_lt {l : List Int} {i : Nat} (h : useB l i = true) : i < l.length := by
  rcases Nat.lt_or_ge i l.length with h1 | h1
  · exact h1
  · unfold useB at h; rw [getD_out h1] at h; cases h
theorem memS_idle {l : List Int} : ofN (memS (idleL l l.length)) = ofN (isI l) := by
  refine ofN_congr fun i _ => ?_
  unfold memS
  rw [Bool.eq_iff_iff, decide_eq_true_eq, idleL_mem]
  constructor
  · rintro ⟨j, _, h1, h2⟩
    have : i = j := by omega
    subst this; exact h2
  · intro h; exact ⟨i, isI_lt h, rfl, h⟩
theorem memS_use {l : List Int} : ofN (memS (useL l l.length)) = ofN (useB l) := by
  refine ofN_congr fun i _ => ?_
  unfold memS
  rw [Bool.eq_iff_iff, decide_eq_true_eq, useL_mem]
  constructor
  · rintro ⟨j, _, h1, h2⟩
    have : i = j := by omega
    subst this; exact h2
  · intro h; exact ⟨i, use_lt h, rfl, h⟩
theorem cnt_out {f : Nat → Bool} {n k : Nat} (hf : ∀ i, n ≤ i → f i = false) (hk : n ≤ k) : cntK f k = cntK f n := by
  induction k with
  | zero => rw [show n = 0 by omega]
  | succ k ih =>
    by_cases e : n = k + 1
    · rw [e]
    · simp only [cntK]
      rw [ih (by omega), hf k (by omega)]
      simp
theorem cnt_1 {l : List Int} (h : Lok l) : cntK (isI l) 64 = cN l 1 l.length := cnt_end l h.few
theorem cnt_23 {l : List Int} (h : Lok l) : cntK (useB l) 64 = cN l 2 l.length + cN l 3 l.length := by
  rw [cnt_out (n := l.length) (fun i hi => by unfold useB; rw [getD_out hi]; rfl) h.few]
  generalize l.length = k
  induction k with
  | zero => rfl
  | succ k ih =>
    by_cases h2 : l.getD k 0 = 2
    · rw [cN_yes h2, cN_no (by omega)]
      simp only [cntK]
      have : useB l k = true := by unfold useB; rw [h2]; rfl
      rw [ih, this]; simp; omega
    · by_cases h3 : l.getD k 0 = 3
      · rw [cN_yes h3, cN_no h2]
        simp only [cntK]
        have : useB l k = true := by unfold useB; rw [h3]; rfl
        rw [ih, this]; simp; omega
      · rw [cN_no h3, cN_no h2]
        simp only [cntK]
        have : useB l k = false := by unfold useB; rw [decide_eq_false h2, decide_eq_false h3]; rfl
        rw [ih, this]; simp
theorem cnt_4 {l : List Int} (h : Lok l) : cntK (fun i => barB l i && !useB l i) 64 = cN l 4 l.length := by
  rw [cnt_out (n := l.length) (fun i hi => by unfold barB; rw [getD_out hi]; rfl) h.few]
  unfold cN
  refine cntK_congr _ fun i hi => ?_
  have := h.st i hi
  unfold barB useB
  rcases (by omega : l.getD i 0 = 1 ∨ l.getD i 0 = 2 ∨ l.getD i 0 = 3 ∨ l.getD i 0 = 4) with h1 | h1 | h1 | h1 <;> (rw [h1]; rfl)
theorem stO_out (l : List Int) : stO l (-1) = 0 ∧ stO l l.length = 0 := by
  unfold stO
  exact ⟨if_neg (by omega), if_neg (by omega)⟩
theorem stO_in {l : List Int} {k : Nat} (h : k < l.length) : stO l k = l.getD k 0 := by
  unfold stO
  rw [if_pos (by omega)]
  simp

/-- An owned row of numbers can be read. -/
theorem ints_row {w : World} {base : Nat} {e : TypeId} {v : Value} {zs : List Int} {n : Nat} (h : w.ownsRow base e 1 v n (nV zs)) (hn : n = zs.length) (hf : ∀ z ∈ zs, -9223372036854775808 ≤ z ∧ z ≤ 9223372036854775807) : IntsAt w v zs := by
  subst hn
  refine ⟨?_, hf⟩
  have h0 := h
  rcases h.2 with ⟨rfl, hn⟩ | ⟨g, cap, cur, rfl, hg, hh, hnc, hm, _⟩
  · refine ⟨none, 0, by rw [hn], by omega, by decide, fun hne => ?_⟩
    exact absurd (List.eq_nil_of_length_eq_zero hn) hne
  · refine ⟨_, cap, rfl, hnc, hm, fun _ => ⟨g, 0, rfl, (Array.getElem?_eq_some_iff.1 hh).1, fun i hi => ?_⟩⟩
    rw [Nat.zero_add]
    exact nint_cell h0 hi

/-- Two rows that have no element in common lie in two blocks. -/
theorem rows_apart {w : World} {b b' : Nat} {e e' : TypeId} {v v' : Value} {xs ys : List Int} (h : w.ownsRow b e 1 v xs.length (nV xs)) (h' : w.ownsRow b' e' 1 v' ys.length (nV ys)) (h0 : xs = [] → v = .slice none 0 0) (h0' : ys = [] → v' = .slice none 0 0) (hd : ∀ x, x ∈ xs → x ∉ ys) : v.ownBlock = none ∨ v.ownBlock ≠ v'.ownBlock := by
  by_cases hx : xs = []
  · left; rw [h0 hx]; rfl
  · by_cases hy : ys = []
    · rcases h.2 with ⟨e0, hn⟩ | ⟨g, cap, cur, rfl, _⟩
      · left; rw [e0]; rfl
      · right; rw [h0' hy]; simp [Value.ownBlock]
    · rcases h.2 with ⟨e0, hn⟩ | ⟨g, cap, cur, rfl, _, hg, _⟩
      · left; rw [e0]; rfl
      · rcases h'.2 with ⟨e0, hn⟩ | ⟨g', cap', cur', rfl, _, hg', _⟩
        · right; rw [e0]; simp [Value.ownBlock]
        · right
          intro heq
          have hgg : g = g' := by simpa [Value.ownBlock] using heq
          subst hgg
          have c1 := nint_cell h (i := 0) (List.length_pos_iff.2 hx)
          have c2 := nint_cell h' (i := 0) (List.length_pos_iff.2 hy)
          rw [c1] at c2
          have e1 : xs.getD 0 0 = ys.getD 0 0 := by injection c2 with c2; injection c2
          obtain ⟨x, xs', rfl⟩ := List.exists_cons_of_ne_nil hx
          obtain ⟨y, ys', rfl⟩ := List.exists_cons_of_ne_nil hy
          have e2 : x = y := e1
          subst e2
          exact hd x (by simp) (by simp)

/-- Five counts in a block. -/
def Arr (w : World) (z : Nat) (c1 c2 c3 c4 : Int) : Prop := w.heap[z]? = some (.cells #[.int .i64 0, .int .i64 c1, .int .i64 c2, .int .i64 c3, .int .i64 c4] 62 (0, 0))

/-- What a round keeps. -/
structure LS (w0 : World) (z : Nat) (li lu : List Int) (c1 c2 c3 c4 : Int) (gi gu : Value) (w : World) : Prop where
  i : w.ownsRow w0.heap.size 3 1 gi li.length (nV li)
  u : w.ownsRow w0.heap.size 3 1 gu lu.length (nV lu)
  i0 : li = [] → gi = .slice none 0 0
  u0 : lu = [] → gu = .slice none 0 0
  dis : ∀ x, x ∈ li → x ∉ lu
  a : Arr w z c1 c2 c3 c4
  b : Below w0.heap.size w0 w
  hz : w0.heap.size ≤ z

section
variable {w0 w w' : World} {z : Nat} {li lu : List Int} {c1 c2 c3 c4 : Int} {gi gu : Value}

theorem Arr.facts (h : Arr w z c1 c2 c3 c4) : w.cell? ⟨z, 1, none⟩ = some (.int .i64 c1) ∧ w.cell? ⟨z, 2, none⟩ = some (.int .i64 c2) ∧ w.cell? ⟨z, 3, none⟩ = some (.int .i64 c3) ∧ w.cell? ⟨z, 4, none⟩ = some (.int .i64 c4) ∧ ∀ j, w.frozen? ⟨z, j, none⟩ = false := by
  unfold Arr at h
  exact ⟨by simp [World.cell?, h], by simp [World.cell?, h], by simp [World.cell?, h], by simp [World.cell?, h], fun j => by simp [World.frozen?, h]⟩
theorem Arr.grown {row : Option Nat} (h : Arr w z c1 c2 c3 c4) (hg : w.grownBy w' row) (hne : ∀ k, row = some k → k ≠ z) : Arr w' z c1 c2 c3 c4 := by
  unfold Arr at *
  rw [hg.block z (lt_of_heap h) (fun e => hne z e.symm rfl)]
  exact h
theorem row_apart {e : TypeId} {n b : Nat} {v : Value} {xs : List Value} (h : Arr w z c1 c2 c3 c4) (ho : w.ownsRow b e 1 v n xs) (hne : e ≠ 62) : ∀ k, v.ownBlock = some k → k ≠ z := by
  intro k hk
  rcases ho.2 with ⟨rfl, _⟩ | ⟨g, cap, cur, rfl, _, hg, _⟩
  · simp [Value.ownBlock] at hk
  · have : g = k := by simpa [Value.ownBlock] using hk
    subst this
    exact apart_types hg h hne
theorem Arr.alloc (h : Arr w z c1 c2 c3 c4) (o : Obj) : Arr (w.alloc o) z c1 c2 c3 c4 := h.grown (World.grownBy_alloc w o none) (fun k hk => by cases hk)

theorem LS.drewN (h : LS w0 z li lu c1 c2 c3 c4 gi gu w) (n : Nat) : LS w0 z li lu c1 c2 c3 c4 gi gu (w.drewN n) :=
  ⟨ownsRow_block h.i fun _ _ => rfl, ownsRow_block h.u fun _ _ => rfl, h.i0, h.u0, h.dis, h.a, below_drewN h.b n, h.hz⟩
theorem LS.drew (h : LS w0 z li lu c1 c2 c3 c4 gi gu w) : LS w0 z li lu c1 c2 c3 c4 gi gu w.drew := h.drewN 1
theorem LS.store (j : Nat) (v : Int) {d1 d2 d3 d4 : Int} (h : LS w0 z li lu c1 c2 c3 c4 gi gu w) (hd : (#[.int .i64 0, .int .i64 c1, .int .i64 c2, .int .i64 c3, .int .i64 c4] : Array Value).set! j (.int .i64 v) = #[.int .i64 0, .int .i64 d1, .int .i64 d2, .int .i64 d3, .int .i64 d4]) :
    LS w0 z li lu d1 d2 d3 d4 gi gu (w.setCell ⟨z, j, none⟩ (.int .i64 v)) := by
  have h1 := row_apart h.a h.i (by decide)
  have h2 := row_apart h.a h.u (by decide)
  refine ⟨own_far h.i h1 j _, own_far h.u h2 j _, h.i0, h.u0, h.dis, ?_, h.b.setCell h.hz _, h.hz⟩
  have hlt := lt_of_heap h.a
  have h3 : w.heap[z]? = _ := h.a
  rw [Array.getElem?_eq_getElem hlt] at h3
  replace h3 := Option.some.inj h3
  unfold Arr
  rw [← hd]
  simp [World.setCell, hlt, Array.getElem_modify, h3]
theorem LS.app_i {v' : Value} {o : Obj} {x : Int} (h : LS w0 z li lu c1 c2 c3 c4 gi gu w) (hx : x ∉ lu) (ho : w'.ownsRow w0.heap.size 3 1 v' (li.length + 1) (nV li ++ [.int .i64 x])) (hg : (w.alloc o).grownBy w' gi.ownBlock) :
    LS w0 z (li ++ [x]) lu c1 c2 c3 c4 v' gu w' := by
  have hB := h.b.size
  refine ⟨by rw [List.length_append]; simpa [nV] using ho, (h.u.alloc o).kept hg ?_, fun e => by simp at e, h.u0, ?_, (h.a.alloc o).grown hg (row_apart h.a h.i (by decide)), (h.b.alloc hB o).grown hg (by simp; omega) (fun k hk => (h.i.lt k hk).1), h.hz⟩
  · rcases rows_apart h.u h.i h.u0 h.i0 (fun y hy hy' => h.dis y hy' hy) with e | e
    · exact .inl e
    · exact .inr e
  · intro y hy
    rcases List.mem_append.1 hy with h1 | h1
    · exact h.dis y h1
    · rw [List.mem_singleton.1 h1]; exact hx
theorem LS.app_u {v' : Value} {o : Obj} {x : Int} (h : LS w0 z li lu c1 c2 c3 c4 gi gu w) (hx : x ∉ li) (ho : w'.ownsRow w0.heap.size 3 1 v' (lu.length + 1) (nV lu ++ [.int .i64 x])) (hg : (w.alloc o).grownBy w' gu.ownBlock) :
    LS w0 z li (lu ++ [x]) c1 c2 c3 c4 gi v' w' := by
  have hB := h.b.size
  refine ⟨(h.i.alloc o).kept hg ?_, by rw [List.length_append]; simpa [nV] using ho, h.i0, fun e => by simp at e, ?_, (h.a.alloc o).grown hg (row_apart h.a h.u (by decide)), (h.b.alloc hB o).grown hg (by simp; omega) (fun k hk => (h.u.lt k hk).1), h.hz⟩
  · rcases rows_apart h.i h.u h.i0 h.u0 h.dis with e | e
    · exact .inl e
    · exact .inr e
  · intro y hy hy'
    rcases List.mem_append.1 hy' with h1 | h1
    · exact h.dis y hy h1
    · rw [List.mem_singleton.1 h1] at hy; exact hx hy
end

end Go.Proofs.Ytmedbodjikbmfaa
