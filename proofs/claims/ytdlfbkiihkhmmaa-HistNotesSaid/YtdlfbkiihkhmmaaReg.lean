/-
  Own rule for a statement whose order Go leaves open, over any program: what copies, reckons or compares ('pure') yields the same in every world; what only makes new memory or reads ('minor') has a post that
  stays where memory only grows; what writes to what was there ('major') comes in one order. Then it is enough to look at each in the order of the text. Nothing of a program is said here.
-/
import Derived.WalkKit
import Derived.Orders
namespace Go.Proofs.Ytdlfbkiihkhmmaa
set_option maxRecDepth 8000
open Go.RowKit
namespace Reg

inductive Kind : Type 1 where
  | pure
  | minor (α : Type) (d : α) (val : α → Value) (Post : α → World → Prop)
  | pinned (α : Type) (d : α) (val : α → Value) (Post : α → World → Prop)
  | major (α : Type) (d : α) (val : α → Value)

variable (P : Program) (ops : Array Oper)

/-- What an operation's own slot holds. -/
def slot (o : Oper) (a : Act) : Value := match o.dst with | some d => a.tmps.getD d undef | none => undef

/-- Memory only grows. -/
def Ext (w w' : World) : Prop := Below w.heap.size w w'

/-- One operation is carried out, to its end. -/
def Done (o : Oper) (R : Value → World → Prop) (a0 : Act) : Exit → Act → World → Prop
  | .normal, a, w => ∃ v, a = a0.put o.dst v ∧ R v w
  | _, _, _ => False

def One (o : Oper) (a : Act) (w : World) (R : Value → World → Prop) : Prop := wpList P ops (Done o R a) [o] a w

def noFact : World → Prop := fun _ => True

/-- The facts that the list names. -/
def facts (w : World) : List Bool → List (World → Prop) → Prop
  | true :: bs, f :: fs => f w ∧ facts w bs fs
  | false :: bs, _ :: fs => facts w bs fs
  | _, _ => True

def allFacts (w : World) : List (World → Prop) → Prop
  | f :: fs => f w ∧ allFacts w fs
  | [] => True

variable (I : World → Prop) (S : List Value → World → Prop) (G : World → World → Prop) (fin : Act → List (World → Prop) → List Value → Prop)

/-- One operation, and what follows (nx). -/
def opPass (o : Oper) (m : List Bool) (a : Act) (F : List (World → Prop)) (vs : List Value) (nx : Act → List (World → Prop) → List Value → Prop) : Kind → Prop
  | .pure => ∃ v : Value, Yields P ops o v a ∧ nx (a.put o.dst v) (F ++ [noFact]) vs
  | .minor α _ val Post =>
    (Region.wanted o (yielded ops a.tmps) = true → (∀ w, I w → facts w m F → One P ops o a w fun v w' => (∃ x : α, v = val x ∧ Post x w') ∧ Ext w w') ∧ ∀ x : α, nx (a.put o.dst (val x)) (F ++ [Post x]) vs) ∧
    (Region.wanted o (yielded ops a.tmps) = false → nx (a.put o.dst undef) (F ++ [noFact]) vs)
  | .pinned α _ val Post =>
    (Region.wanted o (yielded ops a.tmps) = true → (∀ w, I w → S vs w → facts w m F → One P ops o a w fun v w' => (∃ x : α, v = val x ∧ Post x w') ∧ Ext w w') ∧ ∀ x : α, nx (a.put o.dst (val x)) (F ++ [Post x]) vs) ∧
    (Region.wanted o (yielded ops a.tmps) = false → nx (a.put o.dst undef) (F ++ [noFact]) vs)
  | .major α _ val =>
    (Region.wanted o (yielded ops a.tmps) = true → (∀ w, I w → S vs w → facts w m F → One P ops o a w fun v w' => ((∃ x : α, v = val x) ∧ S (vs ++ [v]) w') ∧ G w w') ∧ ∀ x : α, nx (a.put o.dst (val x)) (F ++ [noFact]) (vs ++ [val x])) ∧
    (Region.wanted o (yielded ops a.tmps) = false → (∀ w, I w → S vs w → S (vs ++ [undef]) w) ∧ nx (a.put o.dst undef) (F ++ [noFact]) (vs ++ [undef]))

/-- The operations in the order of the text, each looked at once. -/
def pass : List (Oper × Kind × List Bool) → Act → List (World → Prop) → List Value → Prop
  | [], a, F, vs => fin a F vs
  | x :: r, a, F, vs => opPass P ops I S G x.1 x.2.2 a F vs (pass r) x.2.1

def kindStays : Kind → Prop
  | .minor _ _ _ Post => (∀ x w w', Ext w w' → Post x w → Post x w') ∧ (∀ x w w', G w w' → Post x w → Post x w')
  | .pinned _ _ _ Post => (∀ x w w', Ext w w' → Post x w → Post x w') ∧ (∀ x w w', G w w' → Post x w → Post x w')
  | _ => True

/-- Posts stay where memory only grows, and where a major has come. -/
def stays : List (Oper × Kind × List Bool) → Prop
  | x :: r => kindStays G x.2.1 ∧ stays r
  | [] => True

/-! The closed facts: in which order the operations may come. -/
def tagOf : Kind → Nat | .pure => 0 | .minor .. => 1 | .pinned .. => 2 | .major .. => 3

def at2 (ms : List (List Bool)) (i j : Nat) : Bool := (ms.getD i []).getD j false

def okRow (n : Nat) (ms : List (List Bool)) (tags : List Nat) (i : Nat) (o : Oper) : Bool :=
  (ms.getD i []).length == i && o.dst.isSome && (match o.op with | .select _ _ => false | _ => true) &&
  o.after.all (fun e => !Region.binds .any e || e.on < i) &&
  (List.range n).all fun j =>
    (!at2 ms i j || o.after.any fun e => Region.binds .any e && (e.on == j || at2 ms e.on j)) &&
    (!at2 ms i j || (List.range n).all fun l => !at2 ms j l || at2 ms i l) &&
    (match ops[j]? with
      | none => false
      | some p => (i == j || !(o.dst == p.dst)) && (match p.dst with | some d => !(o.looksAt ops).contains d || at2 ms i j | none => false) &&
        (!((tags.getD i 0 == 3 || tags.getD i 0 == 2) && tags.getD j 0 == 3) || i == j || at2 ms i j || at2 ms j i))

/-- ms: for each operation i of the first n those j < i that have come ahead of it whenever it comes; the operations from n on come last, in their order. N: the slots. -/
def okB (n N : Nat) (ms : List (List Bool)) (tags : List Nat) : Bool :=
  (n ≤ ops.size) && (List.range ops.size).all fun i => match ops[i]? with
    | none => false
    | some o => if i < n then okRow ops n ms tags i o && (match o.dst with | some d => d < N | none => false)
        else o.after.all (fun e => !Region.binds .any e || e.on < i) && (List.range i).all fun j => o.after.any fun e => Region.binds .any e && (e.on == j || (decide (e.on < n) && at2 ms e.on j) || (decide (n ≤ e.on) && decide (j < e.on)))

/-- The operations of a region in any order that the text allows: it is enough to look at each in the order of the text. -/
structure Ok (n N : Nat) (ms : List (List Bool)) (all : List (Oper × Kind × List Bool)) : Prop where
  le : n ≤ ops.size
  len : all.length = n
  get : ∀ (i : Nat) (o : Oper) (k : Kind) (m : List Bool), all[i]? = some (o, k, m) → ops[i]? = some o ∧ m = ms.getD i []
  mlen : ∀ (i : Nat) (o : Oper), i < n → ops[i]? = some o → (ms.getD i []).length = i
  dst : ∀ (i : Nat) (o : Oper), i < n → ops[i]? = some o → ∃ d, o.dst = some d ∧ d < N
  sel : ∀ (i : Nat) (o : Oper), i < n → ops[i]? = some o → ∀ cs b, o.op ≠ .select cs b
  back : ∀ (i : Nat) (o : Oper), ops[i]? = some o → ∀ e ∈ o.after, Region.binds .any e = true → e.on < i
  ahead : ∀ (i : Nat) (o : Oper) (j : Nat), i < n → ops[i]? = some o → at2 ms i j = true → ∃ e ∈ o.after, Region.binds .any e = true ∧ (e.on = j ∨ at2 ms e.on j = true)
  trans : ∀ (i j l : Nat), i < n → at2 ms i j = true → at2 ms j l = true → at2 ms i l = true
  apart : ∀ (i j : Nat) (o p : Oper), i < n → j < n → i ≠ j → ops[i]? = some o → ops[j]? = some p → o.dst ≠ p.dst
  looks : ∀ (i j : Nat) (o p : Oper) (d : Tmp), i < n → j < n → ops[i]? = some o → ops[j]? = some p → p.dst = some d → d ∈ o.looksAt ops → at2 ms i j = true
  maj : ∀ (i j : Nat) (o : Oper) (k : Kind) (m : List Bool) (p : Oper) (k' : Kind) (m' : List Bool), all[i]? = some (o, k, m) → (tagOf k = 3 ∨ tagOf k = 2) → all[j]? = some (p, k', m') → tagOf k' = 3 → i ≠ j → at2 ms i j = true ∨ at2 ms j i = true
  tail : ∀ (i : Nat) (o : Oper) (j : Nat), n ≤ i → ops[i]? = some o → j < i → ∃ e ∈ o.after, Region.binds .any e = true ∧ (e.on = j ∨ (e.on < n ∧ at2 ms e.on j = true) ∨ (n ≤ e.on ∧ j < e.on))

theorem at2_lt {ms : List (List Bool)} {i j : Nat} (h : (ms.getD i []).length = i) (hj : at2 ms i j = true) : j < i := by
  unfold at2 at hj
  rcases Nat.lt_or_ge j i with hlt | hge
  · exact hlt
  · rw [List.getD_eq_getElem?_getD, List.getElem?_eq_none (by omega)] at hj
    cases hj

theorem ok_of {n N : Nat} {ms : List (List Bool)} {all : List (Oper × Kind × List Bool)} (h : okB ops n N ms (all.map fun x => tagOf x.2.1) = true) (hl : all.map (·.1) = ops.toList.take n) (hms : all.map (·.2.2) = ms) : Ok ops n N ms all := by
  unfold okB at h
  rw [Bool.and_eq_true] at h
  obtain ⟨hle, h⟩ := h
  have hle : n ≤ ops.size := by simpa using hle
  rw [List.all_eq_true] at h
  have hlen : all.length = n := by
    have := congrArg List.length hl
    simp only [List.length_map, List.length_take, Array.length_toList] at this
    omega
  have hget : ∀ (i : Nat) (o : Oper) (k : Kind) (m : List Bool), all[i]? = some (o, k, m) → ops[i]? = some o ∧ m = ms.getD i [] := by
    intro i o k m hi
    refine ⟨?_, by rw [← hms]; simp [List.getD, hi]⟩
    have h1 : (all.map (·.1))[i]? = some o := by simp [hi]
    rw [hl, List.getElem?_take] at h1
    split at h1
    · simpa using h1
    · cases h1
  have row : ∀ (i : Nat) (o : Oper), i < n → ops[i]? = some o → okRow ops n ms (all.map fun x => tagOf x.2.1) i o = true ∧ ∃ d, o.dst = some d ∧ d < N := by
    intro i o hi ho
    have := h i (List.mem_range.2 (by omega))
    simp only [ho, hi, if_true, Bool.and_eq_true] at this
    refine ⟨this.1, ?_⟩
    have h2 := this.2
    cases hd : o.dst with
    | none => simp [hd] at h2
    | some d => exact ⟨d, rfl, by simpa [hd] using h2⟩
  have rowj : ∀ (i : Nat) (o : Oper) (j : Nat), i < n → ops[i]? = some o → j < n →
      ((!at2 ms i j || o.after.any fun e => Region.binds .any e && (e.on == j || at2 ms e.on j)) &&
      (!at2 ms i j || (List.range n).all fun l => !at2 ms j l || at2 ms i l) &&
      (match ops[j]? with
        | none => false
        | some p => (i == j || !(o.dst == p.dst)) && (match p.dst with | some d => !(o.looksAt ops).contains d || at2 ms i j | none => false) &&
          (!(((all.map fun x => tagOf x.2.1).getD i 0 == 3 || (all.map fun x => tagOf x.2.1).getD i 0 == 2) && (all.map fun x => tagOf x.2.1).getD j 0 == 3) || i == j || at2 ms i j || at2 ms j i))) = true := by
    intro i o j hi ho hj
    have h1 := (row i o hi ho).1
    unfold okRow at h1
    rw [Bool.and_eq_true, List.all_eq_true] at h1
    exact h1.2 j (List.mem_range.2 hj)
  have hmlen : ∀ (i : Nat) (o : Oper), i < n → ops[i]? = some o → (ms.getD i []).length = i := by
    intro i o hi ho
    have h1 := (row i o hi ho).1
    unfold okRow at h1
    simp only [Bool.and_eq_true] at h1
    simpa using h1.1.1.1.1
  have some_of : ∀ (i : Nat), i < ops.size → ∃ o, ops[i]? = some o := fun i hi => ⟨ops[i], by simp [hi]⟩
  refine ⟨hle, hlen, hget, hmlen, fun i o hi ho => (row i o hi ho).2, ?_, ?_, ?_, ?_, ?_, ?_, ?_, ?_⟩
  · intro i o hi ho cs b hop
    have h1 := (row i o hi ho).1
    unfold okRow at h1
    simp only [Bool.and_eq_true] at h1
    have := h1.1.1.2
    rw [hop] at this
    cases this
  · intro i o ho e he hb
    have hi : i < ops.size := (Array.getElem?_eq_some_iff.1 ho).1
    have h1 := h i (List.mem_range.2 hi)
    simp only [ho] at h1
    split at h1
    · rename_i hin
      have h2 := (row i o hin ho).1
      unfold okRow at h2
      simp only [Bool.and_eq_true, Array.all_eq_true_iff_forall_mem] at h2
      simpa [hb] using h2.1.2 e he
    · rw [Bool.and_eq_true, Array.all_eq_true_iff_forall_mem] at h1
      simpa [hb] using h1.1 e he
  · intro i o j hi ho hj
    have hlt := at2_lt (hmlen i o hi ho) hj
    have h1 := rowj i o j hi ho (by omega)
    simp only [Bool.and_eq_true, hj, Bool.not_true, Bool.false_or] at h1
    have h2 := h1.1.1
    rw [Array.any_eq_true] at h2
    obtain ⟨x, hx, h3⟩ := h2
    simp only [Bool.and_eq_true, Bool.or_eq_true, beq_iff_eq] at h3
    exact ⟨_, Array.getElem_mem hx, h3.1, h3.2⟩
  · intro i j l hi hij hjl
    obtain ⟨o, ho⟩ := some_of i (by omega)
    have hlt := at2_lt (hmlen i o hi ho) hij
    obtain ⟨p, hp⟩ := some_of j (by omega)
    have hlt2 := at2_lt (hmlen j p (by omega) hp) hjl
    have h1 := rowj i o j hi ho (by omega)
    simp only [Bool.and_eq_true, hij, Bool.not_true, Bool.false_or] at h1
    have h2 := h1.1.2
    rw [List.all_eq_true] at h2
    have := h2 l (List.mem_range.2 (by omega))
    simpa [hjl] using this
  · intro i j o p hi hj hne ho hp he
    have h1 := rowj i o j hi ho hj
    simp only [hp, Bool.and_eq_true] at h1
    have h2 := h1.2.1.1
    obtain ⟨d, hd, _⟩ := (row i o hi ho).2
    rw [← he, hd] at h2
    simp [hne] at h2
  · intro i j o p d hi hj ho hp hd hm
    have h1 := rowj i o j hi ho hj
    simp only [hp, Bool.and_eq_true, hd] at h1
    have h2 := h1.2.1.2
    simpa [List.contains_iff_mem, hm] using h2
  · intro i j o k m p k' m' hi hk hj hk' hne
    have ho := (hget i o k m hi).1
    have hp := (hget j p k' m' hj).1
    have hin : i < n := by rw [← hlen]; exact (List.getElem?_eq_some_iff.1 hi).1
    have hjn : j < n := by rw [← hlen]; exact (List.getElem?_eq_some_iff.1 hj).1
    have h1 := rowj i o j hin ho hjn
    simp only [hp, Bool.and_eq_true] at h1
    have h2 := h1.2.2
    have e1 : (all.map fun x => tagOf x.2.1).getD i 0 = tagOf k := by simp [List.getD, hi]
    have e2 : (all.map fun x => tagOf x.2.1).getD j 0 = 3 := by simp [List.getD, hj, hk']
    rw [e1, e2] at h2
    have e3 : ((tagOf k == 3 || tagOf k == 2) && (3 == 3)) = true := by rcases hk with hk | hk <;> simp [hk]
    rw [e3] at h2
    simpa [hne] using h2
  · intro i o j hi ho hj
    have hio : i < ops.size := (Array.getElem?_eq_some_iff.1 ho).1
    have h1 := h i (List.mem_range.2 hio)
    simp only [ho, show ¬ i < n by omega, if_false, Bool.and_eq_true, List.all_eq_true] at h1
    have h2 := h1.2 j (List.mem_range.2 hj)
    rw [Array.any_eq_true] at h2
    obtain ⟨x, hx, h3⟩ := h2
    simp only [Bool.and_eq_true, Bool.or_eq_true, beq_iff_eq, decide_eq_true_eq] at h3
    refine ⟨_, Array.getElem_mem hx, h3.1, ?_⟩
    rcases h3.2 with (h4 | h4) | h4
    · exact .inl h4
    · exact .inr (.inl h4)
    · exact .inr (.inr h4)


/-! ### The run -/
variable {P ops I S G fin}

/-- The majors that have come, in their order: what they yielded. -/
def valsOf (L : Nat → Bool) (a : Act) : List (Oper × Kind × List Bool) → Nat → List Value
  | [], _ => []
  | x :: r, j => (if tagOf x.2.1 = 3 ∧ L j = true then [slot x.1 a] else []) ++ valsOf L a r (j + 1)

theorem valsOf_append (L : Nat → Bool) (a : Act) (r : List (Oper × Kind × List Bool)) : ∀ (l : List (Oper × Kind × List Bool)) (j : Nat), valsOf L a (l ++ r) j = valsOf L a l j ++ valsOf L a r (j + l.length)
  | [], j => by simp [valsOf]
  | x :: l, j => by
    simp only [List.cons_append, valsOf, valsOf_append L a r l (j + 1), List.append_assoc, List.length_cons]
    rw [show j + 1 + l.length = j + (l.length + 1) by omega]

theorem valsOf_congr {L L' : Nat → Bool} {a a' : Act} : ∀ (l : List (Oper × Kind × List Bool)) (j : Nat), (∀ i x, l[i]? = some x → tagOf x.2.1 = 3 → L (j + i) = L' (j + i) ∧ (L (j + i) = true → slot x.1 a = slot x.1 a')) → valsOf L a l j = valsOf L' a' l j
  | [], _, _ => rfl
  | x :: l, j, h => by
    have h0 := h 0 x rfl
    simp only [valsOf]
    rw [valsOf_congr l (j + 1) fun i y hy ht => by have := h (i + 1) y (by simpa using hy) ht; rw [show j + (i + 1) = j + 1 + i by omega] at this; exact this]
    by_cases ht : tagOf x.2.1 = 3
    · obtain ⟨h1, h2⟩ := h0 ht
      simp only [Nat.add_zero] at h1 h2
      by_cases hL : L j = true
      · rw [if_pos ⟨ht, hL⟩, if_pos ⟨ht, by rw [← h1]; exact hL⟩, h2 hL]
      · rw [if_neg (by simp [hL]), if_neg (by rw [← h1]; simp [hL])]
    · simp [ht]

theorem valsOf_nil {L : Nat → Bool} {a : Act} : ∀ (l : List (Oper × Kind × List Bool)) (j : Nat), (∀ i x, l[i]? = some x → tagOf x.2.1 = 3 → L (j + i) = false) → valsOf L a l j = []
  | [], _, _ => rfl
  | x :: l, j, h => by
    have h0 := h 0 x rfl
    simp only [valsOf]
    rw [valsOf_nil l (j + 1) fun i y hy ht => by have := h (i + 1) y (by simpa using hy) ht; rw [show j + (i + 1) = j + 1 + i by omega] at this; exact this]
    by_cases ht : tagOf x.2.1 = 3
    · have h1 := h0 ht
      simp only [Nat.add_zero] at h1
      simp [h1]
    · simp [ht]

/-- Of a kind: what its slot holds, when it has come. -/
def kindHolds (P : Program) (ops : Array Oper) (o : Oper) (a : Act) (w : World) : Kind → Prop
  | .pure => Yields P ops o (slot o a) a
  | .minor α _ val Post => (Region.wanted o (yielded ops a.tmps) = true → ∃ x : α, slot o a = val x ∧ Post x w) ∧ (Region.wanted o (yielded ops a.tmps) = false → slot o a = undef)
  | .pinned α _ val Post => (Region.wanted o (yielded ops a.tmps) = true → ∃ x : α, slot o a = val x ∧ Post x w) ∧ (Region.wanted o (yielded ops a.tmps) = false → slot o a = undef)
  | .major α _ val => (Region.wanted o (yielded ops a.tmps) = true → ∃ x : α, slot o a = val x) ∧ (Region.wanted o (yielded ops a.tmps) = false → slot o a = undef)

variable (P ops S) in
structure Inv (n : Nat) (ms : List (List Bool)) (all : List (Oper × Kind × List Bool)) (a0 : Act) (L : Nat → Bool) (a : Act) (w : World) : Prop where
  defers : a.defers = a0.defers
  size : a.tmps.size = a0.tmps.size
  frame : ∀ t, (∀ (j : Nat) (o : Oper), j < n → L j = true → ops[j]? = some o → o.dst ≠ some t) → a.tmps[t]? = a0.tmps[t]?
  closed : ∀ i j, i < n → L i = true → at2 ms i j = true → L j = true
  holds : ∀ (j : Nat) (o : Oper) (k : Kind) (m : List Bool), L j = true → all[j]? = some (o, k, m) → kindHolds P ops o a w k
  state : S (valsOf L a all 0) w

theorem yields_val {o : Oper} {v v' : Value} {a : Act} (w : World) (h : Yields P ops o v a) (h' : Yields P ops o v' a) : v = v' := by
  rcases h with ⟨h1, h2⟩ | ⟨h1, rfl⟩ <;> rcases h' with ⟨h3, h4⟩ | ⟨h3, rfl⟩
  · have := (h2 w).symm.trans (h4 w); simpa using this
  · rw [h1] at h3; cases h3
  · rw [h1] at h3; cases h3
  · rfl

/-- An operation looks at the same where the slots that it looks at are the same. -/
theorem same_of {o : Oper} (hs : ∀ cs b, o.op ≠ .select cs b) {a b : Act} (h : ∀ t, t ∈ o.looksAt ops → a.tmps[t]? = b.tmps[t]?) :
    execOp a.eval o = execOp b.eval o ∧ Region.wanted o (yielded ops a.tmps) = Region.wanted o (yielded ops b.tmps) := by
  constructor
  · refine execOp_congr o hs fun x hx => ?_
    cases x with
    | tmp t =>
      have : t ∈ o.looksAt ops := List.mem_append_left _ (List.mem_filterMap.2 ⟨.tmp t, by simpa using hx, rfl⟩)
      simp [Act.eval, h t this]
    | _ => rfl
  · unfold Region.wanted
    cases hg : o.guard with
    | none => rfl
    | some gw =>
      obtain ⟨g, want⟩ := gw
      have hy : yielded ops a.tmps g = yielded ops b.tmps g := by
        unfold yielded
        cases ht : (ops[g]?).bind (·.dst) with
        | none => rfl
        | some t =>
          have : t ∈ o.looksAt ops := List.mem_append_right _ (by simp [hg, ht])
          simp [h t this]
      simp only [hy]

theorem slot_put {o : Oper} {a : Act} {d : Tmp} (hd : o.dst = some d) (hlt : d < a.tmps.size) (v : Value) : slot o (a.put o.dst v) = v := by
  simp [slot, hd, Act.put, hlt]

theorem put_get {a : Act} {d t : Tmp} (h : d ≠ t) (v : Value) : (a.put (some d) v).tmps[t]? = a.tmps[t]? := by
  simp [Act.put, Array.getElem?_setIfInBounds_ne h]

theorem slot_put_ne {o : Oper} {a : Act} {d : Tmp} (h : o.dst ≠ some d) (v : Value) : slot o (a.put (some d) v) = slot o a := by
  unfold slot
  cases ho : o.dst with
  | none => rfl
  | some e =>
    have hne : d ≠ e := fun hx => h (by rw [ho, hx])
    simp only [Array.getD_eq_getD_getElem?, put_get hne]

theorem put_self {a b : Act} {d : Tmp} (ha : d < a.tmps.size) (v : Value) (hv : v = b.tmps.getD d undef) (hb : d < b.tmps.size) : (a.put (some d) v).tmps[d]? = b.tmps[d]? := by
  subst hv; simp [Act.put, ha, hb]

theorem put_size (a : Act) (d : Option Tmp) (v : Value) : (a.put d v).tmps.size = a.tmps.size := by
  cases d <;> simp [Act.put]
theorem put_defers (a : Act) (d : Option Tmp) (v : Value) : (a.put d v).defers = a.defers := by
  cases d <;> rfl

/-- How the slots of the walk in the text's order stand to those of the run, when the operations below j have been looked at. -/
structure Agr (ops : Array Oper) (n : Nat) (L : Nat → Bool) (a0 a : Act) (j : Nat) (ac : Act) : Prop where
  defers : ac.defers = a0.defers
  size : ac.tmps.size = a0.tmps.size
  done : ∀ (i : Nat) (o : Oper) (t : Tmp), i < j → i < n → L i = true → ops[i]? = some o → o.dst = some t → ac.tmps[t]? = a.tmps[t]?
  rest : ∀ t, (∀ (i : Nat) (o : Oper), i < j → i < n → ops[i]? = some o → o.dst ≠ some t) → ac.tmps[t]? = a0.tmps[t]?

theorem Agr.step {n N : Nat} {ms : List (List Bool)} {all : List (Oper × Kind × List Bool)} {L : Nat → Bool} {a0 a ac : Act} {j : Nat} {o : Oper} (ok : Ok ops n N ms all) (hN : a0.tmps.size = N) (ha : a.tmps.size = a0.tmps.size)
    (h : Agr ops n L a0 a j ac) (hj : j < n) (ho : ops[j]? = some o) {v : Value} (hv : L j = true → v = slot o a) : Agr ops n L a0 a (j + 1) (ac.put o.dst v) := by
  obtain ⟨d, hd, hlt⟩ := ok.dst j o hj ho
  refine ⟨(put_defers _ _ _).trans h.defers, (put_size _ _ _).trans h.size, ?_, ?_⟩
  · intro i p t hi hin hLi hp ht
    by_cases hij : i = j
    · subst hij
      rw [ho] at hp
      obtain rfl := Option.some.inj hp
      rw [hd] at ht
      obtain rfl := Option.some.inj ht
      rw [hd]
      exact put_self (by rw [h.size, hN]; exact hlt) _ (by rw [hv hLi]; simp [slot, hd]) (by rw [ha, hN]; exact hlt)
    · rw [hd, put_get (fun e => ok.apart i j p o hin hj hij hp ho (by rw [ht, hd, e])) _]
      exact h.done i p t (by omega) hin hLi hp ht
  · intro t ht
    have hne : d ≠ t := fun e => ht j o (by omega) hj ho (by rw [hd, e])
    rw [hd, put_get hne]
    exact h.rest t fun i p hi hin hp => ht i p (by omega) hin hp

/-- The slots that operation j looks at read alike, if those ahead of it have come. -/
theorem Agr.looks {n N : Nat} {ms : List (List Bool)} {all : List (Oper × Kind × List Bool)} {a0 a ac : Act} {j : Nat} {o : Oper} {L : Nat → Bool} {w : World} (ok : Ok ops n N ms all) (inv : Inv P ops S n ms all a0 L a w)
    (h : Agr ops n L a0 a j ac) (hjn : j < n) (ho : ops[j]? = some o) (hM : ∀ i, at2 ms j i = true → L i = true) :
    ∀ t, t ∈ o.looksAt ops → ac.tmps[t]? = a.tmps[t]? := by
  intro t ht
  by_cases hx : ∃ (i : Nat) (p : Oper), i < n ∧ ops[i]? = some p ∧ p.dst = some t
  · obtain ⟨i, p, hin, hp, hd⟩ := hx
    have h2 := ok.looks j i o p t hjn hin ho hp hd ht
    have hlt := at2_lt (ok.mlen j o hjn ho) h2
    exact h.done i p t hlt hin (hM i h2) hp hd
  · rw [h.rest t fun i p _ hin hp hd => hx ⟨i, p, hin, hp, hd⟩, inv.frame t fun i p hin _ hp hd => hx ⟨i, p, hin, hp, hd⟩]

theorem facts_of {w : World} : ∀ (m : List Bool) (F : List (World → Prop)), (∀ (i : Nat) (f : World → Prop), m.getD i false = true → F[i]? = some f → f w) → facts w m F
  | [], F, _ => by unfold facts; trivial
  | true :: m, [], _ => by unfold facts; trivial
  | false :: m, [], _ => by unfold facts; trivial
  | true :: m, f :: F, h => ⟨h 0 f rfl rfl, facts_of m F fun i g hi hg => h (i + 1) g (by simpa using hi) (by simpa using hg)⟩
  | false :: m, f :: F, h => facts_of m F fun i g hi hg => h (i + 1) g (by simpa using hi) (by simpa using hg)

theorem allFacts_of {w : World} : ∀ (F : List (World → Prop)), (∀ (i : Nat) (f : World → Prop), F[i]? = some f → f w) → allFacts w F
  | [], _ => trivial
  | f :: F, h => ⟨h 0 f rfl, allFacts_of F fun i g hg => h (i + 1) g (by simpa using hg)⟩

/-- The walk in the text's order, up to operation j, along what the run has yielded (and whatever where nothing has come yet). -/
theorem pass_run {n N : Nat} {ms : List (List Bool)} {all : List (Oper × Kind × List Bool)} {a0 a : Act} {L : Nat → Bool} {w : World} (ok : Ok ops n N ms all) (hN : a0.tmps.size = N) (inv : Inv P ops S n ms all a0 L a w)
    (hp : pass P ops I S G fin all a0 [] []) : ∀ j, j ≤ n → ∃ ac F vs, pass P ops I S G fin (all.drop j) ac F vs ∧ Agr ops n L a0 a j ac ∧ F.length = j ∧ (∀ (i : Nat) (f : World → Prop), L i = true → F[i]? = some f → f w) ∧
      ((∀ i x, i < j → all[i]? = some x → tagOf x.2.1 = 3 → L i = true) → vs = valsOf L a (all.take j) 0) := by
  intro j
  induction j with
  | zero => exact fun _ => ⟨a0, [], [], by simpa using hp, ⟨rfl, rfl, fun i o t hi => by omega, fun t _ => rfl⟩, rfl, fun i f _ h => by simp at h, fun _ => by simp [valsOf]⟩
  | succ j ih =>
    intro hj
    obtain ⟨ac, F, vs, hpass, hag, hF, hf, hvs⟩ := ih (by omega)
    have hjl : j < all.length := by rw [ok.len]; omega
    obtain ⟨⟨o, k, m⟩, hall⟩ : ∃ x, all[j]? = some x := ⟨all[j], by simp [hjl]⟩
    obtain ⟨ho, _⟩ := ok.get j o k m hall
    have hdrop : all.drop j = (o, k, m) :: all.drop (j + 1) := by
      rw [List.drop_eq_getElem_cons hjl]
      rw [List.getElem?_eq_getElem hjl] at hall
      rw [Option.some.inj hall]
    have htake : all.take (j + 1) = all.take j ++ [(o, k, m)] := by
      rw [List.take_succ_eq_append_getElem hjl]
      rw [List.getElem?_eq_getElem hjl] at hall
      rw [Option.some.inj hall]
    rw [hdrop] at hpass
    have hlen0 : (all.take j).length = j := by rw [List.length_take]; omega
    have hfn : ∀ (g : World → Prop), (L j = true → g w) → ∀ (i : Nat) (f : World → Prop), L i = true → (F ++ [g])[i]? = some f → f w := by
      intro g hg i f hLi hfi
      rcases Nat.lt_or_ge i F.length with h | h
      · rw [List.getElem?_append_left h] at hfi; exact hf i f hLi hfi
      · rw [List.getElem?_append_right h] at hfi
        have : i = j := by
          have := (List.getElem?_eq_some_iff.1 hfi).1
          simp at this; omega
        subst this
        rw [hF, Nat.sub_self] at hfi
        simp at hfi
        subst hfi
        exact hg hLi
    have hv0 : tagOf k ≠ 3 → (∀ i x, i < j + 1 → all[i]? = some x → tagOf x.2.1 = 3 → L i = true) → vs = valsOf L a (all.take (j + 1)) 0 := by
      intro ht hx
      rw [htake, valsOf_append, hlen0, hvs fun i x hi => hx i x (by omega)]
      simp [valsOf, ht]
    have hv3 : tagOf k = 3 → ∀ v, (L j = true → v = slot o a) → (∀ i x, i < j + 1 → all[i]? = some x → tagOf x.2.1 = 3 → L i = true) → vs ++ [v] = valsOf L a (all.take (j + 1)) 0 := by
      intro ht v hv hx
      have hLj := hx j _ (by omega) hall ht
      rw [htake, valsOf_append, hlen0, hvs fun i x hi => hx i x (by omega), hv hLj]
      simp [valsOf, ht, hLj]
    have hlk : L j = true → execOp ac.eval o = execOp a.eval o ∧ Region.wanted o (yielded ops ac.tmps) = Region.wanted o (yielded ops a.tmps) := fun hLj =>
      same_of (fun cs b => ok.sel j o (by omega) ho cs b) (hag.looks ok inv (by omega) ho fun i hi => inv.closed j i (by omega) hLj hi)
    have hst : ∀ v, (L j = true → v = slot o a) → Agr ops n L a0 a (j + 1) (ac.put o.dst v) := fun v hv => hag.step ok hN inv.size (by omega) ho hv
    have hflen : ∀ (g : World → Prop), (F ++ [g]).length = j + 1 := fun g => by simp [hF]
    cases hLj : L j with
    | false =>
      have hno : ∀ {p : Prop}, L j = true → p := fun h => by rw [hLj] at h; cases h
      cases k with
      | pure =>
        obtain ⟨v, hy, hnx⟩ := hpass
        exact ⟨_, _, _, hnx, hst v hno, hflen _, hfn _ hno, hv0 (by simp [tagOf])⟩
      | minor α d val Post =>
        cases hw : Region.wanted o (yielded ops ac.tmps) with
        | true => exact ⟨_, _, _, (hpass.1 hw).2 d, hst _ hno, hflen _, hfn _ hno, hv0 (by simp [tagOf])⟩
        | false => exact ⟨_, _, _, hpass.2 hw, hst _ hno, hflen _, hfn _ hno, hv0 (by simp [tagOf])⟩
      | pinned α d val Post =>
        cases hw : Region.wanted o (yielded ops ac.tmps) with
        | true => exact ⟨_, _, _, (hpass.1 hw).2 d, hst _ hno, hflen _, hfn _ hno, hv0 (by simp [tagOf])⟩
        | false => exact ⟨_, _, _, hpass.2 hw, hst _ hno, hflen _, hfn _ hno, hv0 (by simp [tagOf])⟩
      | major α d val =>
        cases hw : Region.wanted o (yielded ops ac.tmps) with
        | true => exact ⟨_, _, _, (hpass.1 hw).2 d, hst _ hno, hflen _, hfn _ hno, hv3 rfl _ hno⟩
        | false => exact ⟨_, _, _, (hpass.2 hw).2, hst _ hno, hflen _, hfn _ hno, hv3 rfl _ hno⟩
    | true =>
      obtain ⟨hex, hwt⟩ := hlk hLj
      have hh := inv.holds j o k m hLj hall
      cases k with
      | pure =>
        obtain ⟨v, hy, hnx⟩ := hpass
        have hv : v = slot o a := yields_val w hy (Yields.of_same (show Yields P ops o (slot o a) a from hh) hex hwt)
        exact ⟨_, _, _, hnx, hst v fun _ => hv, hflen _, hfn _ fun _ => trivial, hv0 (by simp [tagOf])⟩
      | minor α d val Post =>
        cases hw : Region.wanted o (yielded ops ac.tmps) with
        | true =>
          obtain ⟨x, hx, hpx⟩ := hh.1 (by rw [← hwt]; exact hw)
          exact ⟨_, _, _, (hpass.1 hw).2 x, hst _ fun _ => hx.symm, hflen _, hfn _ fun _ => hpx, hv0 (by simp [tagOf])⟩
        | false =>
          have hu := hh.2 (by rw [← hwt]; exact hw)
          exact ⟨_, _, _, hpass.2 hw, hst _ fun _ => hu.symm, hflen _, hfn _ fun _ => trivial, hv0 (by simp [tagOf])⟩
      | pinned α d val Post =>
        cases hw : Region.wanted o (yielded ops ac.tmps) with
        | true =>
          obtain ⟨x, hx, hpx⟩ := hh.1 (by rw [← hwt]; exact hw)
          exact ⟨_, _, _, (hpass.1 hw).2 x, hst _ fun _ => hx.symm, hflen _, hfn _ fun _ => hpx, hv0 (by simp [tagOf])⟩
        | false =>
          have hu := hh.2 (by rw [← hwt]; exact hw)
          exact ⟨_, _, _, hpass.2 hw, hst _ fun _ => hu.symm, hflen _, hfn _ fun _ => trivial, hv0 (by simp [tagOf])⟩
      | major α d val =>
        cases hw : Region.wanted o (yielded ops ac.tmps) with
        | true =>
          obtain ⟨x, hx⟩ := hh.1 (by rw [← hwt]; exact hw)
          exact ⟨_, _, _, (hpass.1 hw).2 x, hst _ fun _ => hx.symm, hflen _, hfn _ fun _ => trivial, hv3 rfl _ fun _ => hx.symm⟩
        | false =>
          have hu := hh.2 (by rw [← hwt]; exact hw)
          exact ⟨_, _, _, (hpass.2 hw).2, hst _ fun _ => hu.symm, hflen _, hfn _ fun _ => trivial, hv3 rfl _ fun _ => hu.symm⟩

theorem put_inj {a : Act} {d : Tmp} (hlt : d < a.tmps.size) {u v : Value} (h : a.put (some d) u = a.put (some d) v) : u = v := by
  have := congrArg (fun b : Act => b.tmps[d]?) h
  simpa [Act.put, hlt] using this

/-- What was shown of an operation in the walk holds of it in the run. -/
theorem one_wp {o : Oper} {a ac : Act} {w : World} {R : Value → World → Prop} {K : Act → World → Prop} {Q : Exit → Act → World → Prop} {d : Tmp} (hd : o.dst = some d) (hlt : d < ac.tmps.size)
    (h : One P ops o ac w R) (hex : execOp ac.eval o = execOp a.eval o) (hw : Region.wanted o (yielded ops ac.tmps) = true) (hK : ∀ v w', R v w' → K (a.put o.dst v) w') : o.wp P a w K Q := by
  unfold One wpList at h
  rw [if_pos hw] at h
  rcases h with h | ⟨_, a', w', h⟩
  case inr => exact h.elim
  unfold Oper.wp at *
  rw [hex] at h
  generalize (execOp a.eval o).run P w = r at *
  have key : ∀ u w', wpList P ops (Done o R ac) [] (ac.put o.dst u) w' → K (a.put o.dst u) w' := by
    intro u w' hn
    obtain ⟨v, hv, hR⟩ := hn
    rw [hd] at hv
    have := put_inj hlt hv
    subst this
    exact hK _ _ hR
  cases r with
  | ok n w' =>
    cases n <;> simp only [Oper.upon] at h ⊢
    case value u => exact key _ _ h
    case skip => exact key _ _ h
    case defer x =>
      obtain ⟨v, hv, _⟩ := h
      have := congrArg (fun b : Act => b.defers.length) hv
      simp [put_defers] at this
    case enter f args =>
      refine Calls.mono h fun e w'' he => ?_
      cases e with
      | returned u => exact key _ _ he
      | panicked c => exact (he : False).elim
      | outgrown => obtain ⟨a', w', he⟩ := he; exact (he : False).elim
    case row row args => exact Rows.mono h fun u w'' he => key _ _ he
  | halt x w' =>
    cases x <;> simp only [Oper.upon] at h ⊢
    case panic u => exact (h : False).elim

/-- The set with one more. -/
def more (L : Nat → Bool) (i : Nat) : Nat → Bool := fun j => j == i || L j

theorem more_self {L : Nat → Bool} {i : Nat} : more L i i = true := by simp [more]
theorem more_old {L : Nat → Bool} {i j : Nat} (h : L j = true) : more L i j = true := by simp [more, h]
theorem more_cases {L : Nat → Bool} {i j : Nat} (h : more L i j = true) : j = i ∨ L j = true := by simpa [more] using h

/-- What holds of a slot stays, where another slot is written, and facts stay. -/
theorem kindHolds_keep {n N : Nat} {ms : List (List Bool)} {all : List (Oper × Kind × List Bool)} {i j : Nat} {o p : Oper} {k : Kind} {a : Act} {w w' : World} (ok : Ok ops n N ms all) (hi : i < n) (hj : j < n) (hne : i ≠ j)
    (ho : ops[i]? = some o) (hp : ops[j]? = some p) (hnot : at2 ms j i ≠ true) (v : Value)
    (hpost : ∀ α d val Post, (k = .minor α d val Post ∨ k = .pinned α d val Post) → ∀ x, Post x w → Post x w') (h : kindHolds P ops p a w k) : kindHolds P ops p (a.put o.dst v) w' k := by
  obtain ⟨d, hd, _⟩ := ok.dst i o hi ho
  have hslot : slot p (a.put o.dst v) = slot p a := by rw [hd]; exact slot_put_ne (fun e => ok.apart i j o p hi hj hne ho hp (by rw [hd, e])) v
  have hlk : ∀ t, t ∈ p.looksAt ops → (a.put o.dst v).tmps[t]? = a.tmps[t]? := by
    intro t ht
    rw [hd]
    exact put_get (fun e => by subst e; exact hnot (ok.looks j i p o d hj hi hp ho hd ht)) v
  obtain ⟨hex, hwt⟩ := same_of (fun cs b => ok.sel j p hj hp cs b) hlk
  cases k with
  | pure => exact Yields.of_same (by rw [hslot]; exact h) hex hwt
  | minor α dd val Post =>
    refine ⟨fun hw => ?_, fun hw => ?_⟩
    · obtain ⟨x, hx, hpx⟩ := h.1 (by rw [← hwt]; exact hw)
      exact ⟨x, by rw [hslot]; exact hx, hpost α dd val Post (Or.inl rfl) x hpx⟩
    · rw [hslot]; exact h.2 (by rw [← hwt]; exact hw)
  | pinned α dd val Post =>
    refine ⟨fun hw => ?_, fun hw => ?_⟩
    · obtain ⟨x, hx, hpx⟩ := h.1 (by rw [← hwt]; exact hw)
      exact ⟨x, by rw [hslot]; exact hx, hpost α dd val Post (Or.inr rfl) x hpx⟩
    · rw [hslot]; exact h.2 (by rw [← hwt]; exact hw)
  | major α dd val =>
    refine ⟨fun hw => ?_, fun hw => ?_⟩
    · obtain ⟨x, hx⟩ := h.1 (by rw [← hwt]; exact hw)
      exact ⟨x, by rw [hslot]; exact hx⟩
    · rw [hslot]; exact h.2 (by rw [← hwt]; exact hw)

theorem stays_get {l : List (Oper × Kind × List Bool)} (h : stays G l) {j : Nat} {o : Oper} {k : Kind} {m : List Bool} (hj : l[j]? = some (o, k, m)) : kindStays G k := by
  induction l generalizing j with
  | nil => simp at hj
  | cons x l ih =>
    cases j with
    | zero => simp at hj; subst hj; exact h.1
    | succ j => exact ih h.2 (by simpa using hj)

/-- The new state, when operation i has yielded v. -/
theorem Inv.next {n N : Nat} {ms : List (List Bool)} {all : List (Oper × Kind × List Bool)} {a0 a : Act} {L : Nat → Bool} {w w' : World} {i : Nat} {o : Oper} {k : Kind} {m : List Bool} {v : Value}
    (ok : Ok ops n N ms all) (hN : a0.tmps.size = N) (inv : Inv P ops S n ms all a0 L a w) (hi : i < n) (hLi : L i = false) (hall : all[i]? = some (o, k, m)) (hm : ∀ j, at2 ms i j = true → L j = true)
    (hpost : ∀ (j : Nat) (p : Oper) (k' : Kind) (m' : List Bool), all[j]? = some (p, k', m') → ∀ α d val Post, (k' = .minor α d val Post ∨ k' = .pinned α d val Post) → ∀ x, Post x w → Post x w')
    (hself : kindHolds P ops o (a.put o.dst v) w' k)
    (hS : S (if tagOf k = 3 then valsOf L a all 0 ++ [v] else valsOf L a all 0) w') : Inv P ops S n ms all a0 (more L i) (a.put o.dst v) w' := by
  obtain ⟨ho, _⟩ := ok.get i o k m hall
  obtain ⟨d, hd, hlt⟩ := ok.dst i o hi ho
  have hsz : d < a.tmps.size := by rw [inv.size, hN]; exact hlt
  have hjlt : ∀ (j : Nat) (p : Oper) (k' : Kind) (m' : List Bool), all[j]? = some (p, k', m') → j < n := fun j p k' m' hj => by rw [← ok.len]; exact (List.getElem?_eq_some_iff.1 hj).1
  refine ⟨(put_defers _ _ _).trans inv.defers, (put_size _ _ _).trans inv.size, ?_, ?_, ?_, ?_⟩
  · intro t ht
    rw [hd, put_get (fun e => ht i o hi more_self ho (by rw [hd, e]))]
    exact inv.frame t fun j p hj hLj hp => ht j p hj (more_old hLj) hp
  · intro x j hx hLx hxj
    rcases more_cases hLx with rfl | hLx
    · exact more_old (hm j hxj)
    · exact more_old (inv.closed x j hx hLx hxj)
  · intro j p k' m' hLj hj
    rcases more_cases hLj with rfl | hLj
    · rw [hall] at hj
      obtain ⟨rfl, rfl, rfl⟩ : o = p ∧ k = k' ∧ m = m' := by simpa using hj
      exact hself
    · have hjn := hjlt j p k' m' hj
      have hne : i ≠ j := fun e => by subst e; rw [hLi] at hLj; cases hLj
      refine kindHolds_keep ok hi hjn hne ho (ok.get j p k' m' hj).1 (fun h => ?_) v (hpost j p k' m' hj) (inv.holds j p k' m' hLj hj)
      have := inv.closed j i hjn hLj h
      rw [hLi] at this; cases this
  · have hil : i < all.length := by rw [ok.len]; exact hi
    have hsplit : all = all.take i ++ (o, k, m) :: all.drop (i + 1) := by
      have h1 := List.drop_eq_getElem_cons hil
      rw [List.getElem?_eq_getElem hil] at hall
      rw [Option.some.inj hall] at h1
      rw [← h1, List.take_append_drop]
    have hlen : (all.take i).length = i := by rw [List.length_take]; omega
    have hval : valsOf (more L i) (a.put o.dst v) all 0 = if tagOf k = 3 then valsOf L a all 0 ++ [v] else valsOf L a all 0 := by
      have hcong : ∀ (l : List (Oper × Kind × List Bool)) (j0 : Nat), (∀ x y, l[x]? = some y → all[j0 + x]? = some y ∧ j0 + x ≠ i) → valsOf (more L i) (a.put o.dst v) l j0 = valsOf L a l j0 := by
        intro l j0 hl
        refine (valsOf_congr l j0 fun x y hx ht => ?_).symm
        obtain ⟨h1, h2⟩ := hl x y hx
        refine ⟨by simp [more, h2], fun hL => ?_⟩
        obtain ⟨p, k', m'⟩ := y
        rw [hd]
        exact (slot_put_ne (fun e => ok.apart i (j0 + x) o p hi (hjlt _ p k' m' h1) (Ne.symm h2) ho (ok.get _ p k' m' h1).1 (by rw [hd, e])) v).symm
      have hA : valsOf (more L i) (a.put o.dst v) (all.take i) 0 = valsOf L a (all.take i) 0 := hcong _ 0 fun x y hx => by
        rw [List.getElem?_take] at hx
        split at hx
        · exact ⟨by simpa using hx, by omega⟩
        · cases hx
      have hB : valsOf (more L i) (a.put o.dst v) (all.drop (i + 1)) (i + 1) = valsOf L a (all.drop (i + 1)) (i + 1) := hcong _ (i + 1) fun x y hx => by
        rw [List.getElem?_drop] at hx
        exact ⟨hx, by omega⟩
      have e1 : valsOf (more L i) (a.put o.dst v) all 0 = valsOf L a (all.take i) 0 ++ ((if tagOf k = 3 then [v] else []) ++ valsOf L a (all.drop (i + 1)) (i + 1)) := by
        conv => lhs; rw [hsplit]
        rw [valsOf_append, hA, hlen]
        simp only [valsOf, Nat.zero_add, hB, more_self, and_true]
        rw [slot_put hd hsz]
      have e2 : valsOf L a all 0 = valsOf L a (all.take i) 0 ++ valsOf L a (all.drop (i + 1)) (i + 1) := by
        conv => lhs; rw [hsplit]
        rw [valsOf_append, hlen]
        simp [valsOf, hLi]
      by_cases ht : tagOf k = 3
      · have hC : valsOf L a (all.drop (i + 1)) (i + 1) = [] := by
          refine valsOf_nil _ _ fun x y hx hy => ?_
          rw [List.getElem?_drop] at hx
          obtain ⟨p, k', m'⟩ := y
          have hjn := hjlt _ p k' m' hx
          rcases ok.maj i (i + 1 + x) o k m p k' m' hall (Or.inl ht) hx hy (by omega) with h | h
          · have := at2_lt (ok.mlen i o hi ho) h; omega
          · cases hL : L (i + 1 + x) with
            | false => rfl
            | true => have := inv.closed _ i hjn hL h; rw [hLi] at this; cases this
        rw [e1, e2, hC]
        simp [ht]
      · rw [e1, e2]
        simp [ht]
    rw [hval]
    exact hS

/-- What must stay where memory only grows, and where a major has come. -/
structure Firm (I : World → Prop) (S : List Value → World → Prop) (G : World → World → Prop) (all : List (Oper × Kind × List Bool)) : Prop where
  s : ∀ vs w w', Ext w w' → S vs w → S vs w'
  ie : ∀ w w', Ext w w' → I w → I w'
  ig : ∀ w w', G w w' → I w → I w'
  st : stays G all

theorem Ext.refl (w : World) : Ext w w := Below.refl _ _

/-- One operation of the run. -/
theorem step_run {n N : Nat} {ms : List (List Bool)} {all : List (Oper × Kind × List Bool)} {a0 a : Act} {L : Nat → Bool} {w : World} {i : Nat} {K : Act → World → Prop} {Q : Exit → Act → World → Prop} (ok : Ok ops n N ms all) (hN : a0.tmps.size = N) (firm : Firm I S G all)
    (hp : pass P ops I S G fin all a0 [] []) (inv : Inv P ops S n ms all a0 L a w) (hI : I w) (hi : i < n) (hLi : L i = false) (hm : ∀ j, at2 ms i j = true → L j = true)
    (hK : ∀ a' w', Inv P ops S n ms all a0 (more L i) a' w' → I w' → K a' w') : wpOp P ops Q i K a w := by
  obtain ⟨ac, F, vs, hpass, hag, hF, hf, hvs⟩ := pass_run ok hN inv hp i (by omega)
  have hil : i < all.length := by rw [ok.len]; exact hi
  obtain ⟨⟨o, k, m⟩, hall⟩ : ∃ x, all[i]? = some x := ⟨all[i], by simp [hil]⟩
  obtain ⟨ho, hmm⟩ := ok.get i o k m hall
  obtain ⟨d, hd, hlt⟩ := ok.dst i o hi ho
  have hdrop : all.drop i = (o, k, m) :: all.drop (i + 1) := by
    rw [List.drop_eq_getElem_cons hil]
    rw [List.getElem?_eq_getElem hil] at hall
    rw [Option.some.inj hall]
  rw [hdrop] at hpass
  have hasz : d < a.tmps.size := by rw [inv.size, hN]; exact hlt
  have hcsz : d < ac.tmps.size := by rw [hag.size, hN]; exact hlt
  obtain ⟨hex, hwt⟩ := same_of (fun cs b => ok.sel i o hi ho cs b) (hag.looks ok inv hi ho hm)
  have hjlt : ∀ (j : Nat) (p : Oper) (k' : Kind) (m' : List Bool), all[j]? = some (p, k', m') → j < n := fun j p k' m' hj => by rw [← ok.len]; exact (List.getElem?_eq_some_iff.1 hj).1
  -- its own slot is none that it looks at
  have hown : ∀ v, execOp (a.put o.dst v).eval o = execOp a.eval o ∧ Region.wanted o (yielded ops (a.put o.dst v).tmps) = Region.wanted o (yielded ops a.tmps) := fun v =>
    same_of (fun cs b => ok.sel i o hi ho cs b) fun t ht => by
      rw [hd]
      refine put_get (fun e => ?_) v
      subst e
      have h1 := ok.looks i i o o d hi hi ho ho hd ht
      have := at2_lt (ok.mlen i o hi ho) h1
      omega
  have hfacts : facts w m F := facts_of m F fun j f hj hjf => hf j f (hm j (by subst hmm; exact hj)) hjf
  have hstay : ∀ w', Ext w w' ∨ G w w' → ∀ (j : Nat) (p : Oper) (k' : Kind) (m' : List Bool), all[j]? = some (p, k', m') → ∀ α dd val Post, (k' = .minor α dd val Post ∨ k' = .pinned α dd val Post) → ∀ x, Post x w → Post x w' := by
    intro w' hw' j p k' m' hj α dd val Post hk x hx
    have hs := stays_get firm.st hj
    rcases hk with rfl | rfl <;> rcases hw' with h | h
    · exact hs.1 x w w' h hx
    · exact hs.2 x w w' h hx
    · exact hs.1 x w w' h hx
    · exact hs.2 x w w' h hx
  have hvall : (tagOf k = 3 ∨ tagOf k = 2) → vs = valsOf L a all 0 := by
    intro ht
    have hold : ∀ (j : Nat) (x : Oper × Kind × List Bool), j ≠ i → all[j]? = some x → tagOf x.2.1 = 3 → (j < i → L j = true) ∧ (i < j → L j = false) := by
      intro j x hne hj hx
      obtain ⟨p, k', m'⟩ := x
      have hjn := hjlt j p k' m' hj
      rcases ok.maj i j o k m p k' m' hall ht hj hx (Ne.symm hne) with h | h
      · have hji := at2_lt (ok.mlen i o hi ho) h
        exact ⟨fun _ => hm j h, fun _ => by omega⟩
      · have hji := at2_lt (ok.mlen j p hjn (ok.get j p k' m' hj).1) h
        refine ⟨fun _ => by omega, fun _ => ?_⟩
        cases hL : L j with
        | false => rfl
        | true => have := inv.closed j i hjn hL h; rw [hLi] at this; cases this
    rw [hvs fun j x hji hj hx => (hold j x (by omega) hj hx).1 hji]
    have hsplit : all = all.take i ++ all.drop i := (List.take_append_drop i all).symm
    have hlen : (all.take i).length = i := by rw [List.length_take]; omega
    conv => rhs; rw [hsplit]
    rw [valsOf_append, hlen, Nat.zero_add, valsOf_nil (all.drop i) i fun x y hx hy => ?_, List.append_nil]
    rw [List.getElem?_drop] at hx
    by_cases h0 : x = 0
    · subst h0; simpa using hLi
    · exact (hold (i + x) y (by omega) hx hy).2 (by omega)
  have other : ∀ v w', (Ext w w' ∨ G w w') → kindHolds P ops o (a.put o.dst v) w' k → S (if tagOf k = 3 then valsOf L a all 0 ++ [v] else valsOf L a all 0) w' → K (a.put o.dst v) w' := by
    intro v w' hw' hself hS
    refine hK _ _ (inv.next ok hN hi hLi hall hm (hstay w' hw') hself hS) ?_
    rcases hw' with h | h
    · exact firm.ie w w' h hI
    · exact firm.ig w w' h hI
  unfold wpOp
  simp only [ho]
  cases k with
  | pure =>
    obtain ⟨v, hy, _⟩ := hpass
    have hya : Yields P ops o v a := hy.of_same hex.symm hwt.symm
    have hk := other v w (Or.inl (Ext.refl w)) (by
      show Yields P ops o (slot o (a.put o.dst v)) (a.put o.dst v)
      rw [slot_put hd hasz]
      exact hya.of_same (hown v).1 (hown v).2) (by simpa [tagOf] using inv.state)
    rcases hya with ⟨hw, hv⟩ | ⟨hw, rfl⟩
    · rw [if_pos hw]; left; simp only [Oper.wp, hv w, Oper.upon]; exact hk
    · rw [if_neg (by simp [hw])]; exact hk
  | minor α dd val Post =>
    cases hw : Region.wanted o (yielded ops ac.tmps) with
    | true =>
      rw [if_pos (by rw [← hwt]; exact hw)]
      left
      refine one_wp hd hcsz ((hpass.1 hw).1 w hI hfacts) hex hw fun v w' ⟨⟨x, hx, hpx⟩, he⟩ => ?_
      refine other v w' (Or.inl he) ⟨fun _ => ⟨x, by rw [slot_put hd hasz]; exact hx, hpx⟩, fun h => ?_⟩ (by simpa [tagOf] using firm.s _ w w' he inv.state)
      rw [(hown v).2, ← hwt, hw] at h; cases h
    | false =>
      rw [if_neg (by rw [← hwt]; simp [hw])]
      refine other undef w (Or.inl (Ext.refl w)) ⟨fun h => ?_, fun _ => slot_put hd hasz _⟩ (by simpa [tagOf] using inv.state)
      rw [(hown undef).2, ← hwt, hw] at h; cases h
  | pinned α dd val Post =>
    cases hw : Region.wanted o (yielded ops ac.tmps) with
    | true =>
      rw [if_pos (by rw [← hwt]; exact hw)]
      left
      refine one_wp hd hcsz ((hpass.1 hw).1 w hI (by rw [hvall (Or.inr rfl)]; exact inv.state) hfacts) hex hw fun v w' ⟨⟨x, hx, hpx⟩, he⟩ => ?_
      refine other v w' (Or.inl he) ⟨fun _ => ⟨x, by rw [slot_put hd hasz]; exact hx, hpx⟩, fun h => ?_⟩ (by simpa [tagOf] using firm.s _ w w' he inv.state)
      rw [(hown v).2, ← hwt, hw] at h; cases h
    | false =>
      rw [if_neg (by rw [← hwt]; simp [hw])]
      refine other undef w (Or.inl (Ext.refl w)) ⟨fun h => ?_, fun _ => slot_put hd hasz _⟩ (by simpa [tagOf] using inv.state)
      rw [(hown undef).2, ← hwt, hw] at h; cases h
  | major α dd val =>
    cases hw : Region.wanted o (yielded ops ac.tmps) with
    | true =>
      rw [if_pos (by rw [← hwt]; exact hw)]
      left
      refine one_wp hd hcsz ((hpass.1 hw).1 w hI (by rw [hvall (Or.inl rfl)]; exact inv.state) hfacts) hex hw fun v w' ⟨⟨⟨x, hx⟩, hS⟩, hg⟩ => ?_
      refine other v w' (Or.inr hg) ⟨fun _ => ⟨x, by rw [slot_put hd hasz]; exact hx⟩, fun h => ?_⟩ (by rw [hvall (Or.inl rfl)] at hS; simpa [tagOf] using hS)
      rw [(hown v).2, ← hwt, hw] at h; cases h
    | false =>
      rw [if_neg (by rw [← hwt]; simp [hw])]
      have hS := (hpass.2 hw).1 w hI (by rw [hvall (Or.inl rfl)]; exact inv.state)
      rw [hvall (Or.inl rfl)] at hS
      refine other undef w (Or.inl (Ext.refl w)) ⟨fun h => ?_, fun _ => slot_put hd hasz _⟩ (by simpa [tagOf] using hS)
      rw [(hown undef).2, ← hwt, hw] at h; cases h

/-- What is owed behind the region. -/
def Last (P : Program) (ops : Array Oper) (I : World → Prop) (S : List Value → World → Prop) (Q : Exit → Act → World → Prop) (n : Nat) (a : Act) (F : List (World → Prop)) (vs : List Value) : Prop :=
  ∀ w, I w → S vs w → allFacts w F → wpList P ops Q (ops.toList.drop n) a w

theorem act_ext {a b : Act} (h1 : a.defers = b.defers) (hs : a.tmps.size = b.tmps.size) (h : ∀ t : Nat, a.tmps[t]? = b.tmps[t]?) : a = b := by
  obtain ⟨at_, ad⟩ := a
  obtain ⟨bt, bd⟩ := b
  simp only at h1 hs h
  subst h1
  congr 1
  apply Array.ext hs
  intro i hi hi'
  have := h i
  simpa [hi, hi'] using this

/-- When all of the first n have come, what follows is as the walk has it. -/
theorem last_run {n N : Nat} {ms : List (List Bool)} {all : List (Oper × Kind × List Bool)} {a0 a : Act} {L : Nat → Bool} {w : World} {Q : Exit → Act → World → Prop} (ok : Ok ops n N ms all) (hN : a0.tmps.size = N)
    (hp : pass P ops I S G (Last P ops I S Q n) all a0 [] []) (inv : Inv P ops S n ms all a0 L a w) (hI : I w) (hL : ∀ j, j < n → L j = true) : wpList P ops Q (ops.toList.drop n) a w := by
  obtain ⟨ac, F, vs, hpass, hag, hF, hf, hvs⟩ := pass_run ok hN inv hp n (Nat.le_refl _)
  have hd : all.drop n = [] := List.drop_eq_nil_of_le (by rw [ok.len]; exact Nat.le_refl _)
  rw [hd] at hpass
  have hv : vs = valsOf L a all 0 := by
    rw [hvs fun i x hi _ _ => hL i hi, List.take_of_length_le (by rw [ok.len]; exact Nat.le_refl _)]
  have hac : ac = a := by
    refine act_ext (hag.defers.trans inv.defers.symm) (hag.size.trans inv.size.symm) fun t => ?_
    by_cases hx : ∃ (i : Nat) (p : Oper), i < n ∧ ops[i]? = some p ∧ p.dst = some t
    · obtain ⟨i, p, hin, hp, hdt⟩ := hx
      exact hag.done i p t hin hin (hL i hin) hp hdt
    · rw [hag.rest t fun i p _ hin hp hdt => hx ⟨i, p, hin, hp, hdt⟩, inv.frame t fun i p hin _ hp hdt => hx ⟨i, p, hin, hp, hdt⟩]
  subst hac
  exact hpass w hI (by rw [hv]; exact inv.state) (allFacts_of F fun i f hi => hf i f (hL i (by have := (List.getElem?_eq_some_iff.1 hi).1; omega)) hi)

theorem least_of {f : Nat → Bool} : ∀ n, (∃ j, j < n ∧ f j = false) → ∃ j, j < n ∧ f j = false ∧ ∀ i, i < j → f i = true
  | 0, ⟨j, h, _⟩ => by omega
  | n + 1, ⟨j, hj, hf⟩ => by
    by_cases hx : ∃ i, i < n ∧ f i = false
    · obtain ⟨i, hi, h1, h2⟩ := least_of n hx
      exact ⟨i, by omega, h1, h2⟩
    · have hjn : j = n := by
        rcases Nat.lt_or_ge j n with h | h
        · exact (hx ⟨j, h, hf⟩).elim
        · omega
      subst hjn
      refine ⟨j, hj, hf, fun i hi => ?_⟩
      cases h : f i with
      | true => rfl
      | false => exact (hx ⟨i, hi, h⟩).elim

theorem getD_size {l : Array Bool} {i : Nat} (h : l.getD i true = false) : i < l.size := by
  rcases Nat.lt_or_ge i l.size with h' | h'
  · exact h'
  · simp [Array.getElem?_eq_none h'] at h

theorem getD_any {l : Array Bool} {i : Nat} (h : i < l.size) (d d' : Bool) : l.getD i d = l.getD i d' := by simp [h]

theorem set_more {l : Array Bool} {i : Nat} (h : i < l.size) : (fun j => (l.setIfInBounds i true).getD j false) = more (fun j => l.getD j false) i := by
  funext j
  by_cases hij : i = j
  · subst hij; simp [more, h]
  · have : (j == i) = false := by simp [Ne.symm hij]
    simp only [more, this, Bool.false_or]
    exact getD_set_ne false hij

theorem count_set {l : Array Bool} {i : Nat} (h : l.getD i true = false) : (l.setIfInBounds i true).toList.count false + 1 = l.toList.count false := by
  have hi := getD_size h
  have hl : l[i] = false := by simpa [hi] using h
  have hpos : 0 < l.toList.count false := List.count_pos_iff.2 (by rw [← hl]; exact Array.mem_toList_iff.2 (Array.getElem_mem hi))
  rw [Array.toList_setIfInBounds, List.count_set (by simpa using hi)]
  have e : (l.toList[i]'(by simpa using hi) == false) = true := by simp [hl]
  rw [if_pos e, if_neg (by decide)]
  omega

/-- ████ A region whose order is open. ████ -/
theorem main_run {n N : Nat} {ms : List (List Bool)} {all : List (Oper × Kind × List Bool)} {a0 : Act} {Q : Exit → Act → World → Prop} (ok : Ok ops n N ms all) (hN : a0.tmps.size = N) (firm : Firm I S G all)
    (hp : pass P ops I S G (Last P ops I S Q n) all a0 [] []) : ∀ (fuel : Nat) (listed : Array Bool) (a : Act) (w : World), listed.size = ops.size → listed.toList.count false ≤ fuel →
      (((∃ j, j < n ∧ listed.getD j false = false) ∧ Inv P ops S n ms all a0 (fun j => listed.getD j false) a w ∧ I w) ∨
        ∃ k, n ≤ k ∧ k ≤ ops.size ∧ (∀ j, j < k → listed.getD j false = true) ∧ (∀ j, k ≤ j → listed.getD j false = false) ∧ wpList P ops Q (ops.toList.drop k) a w) →
      (∀ j, n ≤ j → (∃ i, i < n ∧ listed.getD i false = false) → listed.getD j false = false) → wpAny P .any ops Q fuel listed a w := by
  intro fuel
  -- who may come up
  have ready_lt : ∀ {listed : Array Bool} {i : Nat}, listed.size = ops.size → i ∈ Region.ready .any ops listed → ∃ o, ops[i]? = some o ∧ i < listed.size ∧ listed.getD i false = false ∧ ∀ e ∈ o.after, Region.binds .any e = true → listed.getD e.on false = true := by
    intro listed i hs h
    obtain ⟨h0, o, ho, hall⟩ := mem_ready.1 h
    have hlt := getD_size h0
    exact ⟨o, ho, hlt, by rw [getD_any hlt false true]; exact h0, hall⟩
  have ready_of : ∀ {listed : Array Bool} {j : Nat}, listed.size = ops.size → j < ops.size → listed.getD j false = false → (∀ i, i < j → listed.getD i false = true) → j ∈ Region.ready .any ops listed := by
    intro listed j hs hj hf hbe
    refine mem_ready.2 ⟨by rw [getD_any (by omega) true false]; exact hf, ops[j], by simp [hj], fun e he hb => hbe _ (ok.back j ops[j] (by simp [hj]) e he hb)⟩
  induction fuel with
  | zero =>
    intro listed a w hs hc hstate _
    have hnone : ∀ j, j < ops.size → listed.getD j false = true := by
      intro j hj
      have hj' : j < listed.size := by omega
      have h0 : ¬ false ∈ listed.toList := fun h => by have := List.count_pos_iff.2 h; omega
      have : listed[j] ≠ false := fun e => h0 (by rw [← e]; exact Array.mem_toList_iff.2 (Array.getElem_mem hj'))
      simpa [hj'] using this
    have hr : Region.ready .any ops listed = [] := by
      cases hx : Region.ready .any ops listed with
      | nil => rfl
      | cons i l =>
        obtain ⟨o, ho, _, hf, _⟩ := ready_lt hs (by rw [hx]; exact List.mem_cons_self ..)
        have := hnone i (Array.getElem?_eq_some_iff.1 ho).1
        rw [hf] at this; cases this
    refine ⟨hr, ?_⟩
    rcases hstate with ⟨⟨j, hj, hf⟩, _⟩ | ⟨k, hnk, hks, _, hafter, hl⟩
    · have := hnone j (by have := ok.le; omega)
      rw [hf] at this; cases this
    · have hk : k = ops.size := by
        rcases Nat.lt_or_ge k ops.size with h | h
        · have h1 := hnone k h; rw [hafter k (Nat.le_refl _)] at h1; cases h1
        · omega
      rw [List.drop_eq_nil_of_le (by rw [Array.length_toList, hk]; exact Nat.le_refl _)] at hl
      exact hl
  | succ fuel ih =>
    intro listed a w hs hc hstate htail
    rcases hstate with ⟨hex, inv, hI⟩ | ⟨k, hnk, hks, hbefore, hafter, hl⟩
    · obtain ⟨j0, hj0, hf0, hb0⟩ := least_of n hex
      have hj0r := ready_of (j := j0) hs (by have := ok.le; omega) hf0 hb0
      refine ⟨fun h => (by rw [h] at hj0r; cases hj0r), fun i hi => ?_⟩
      obtain ⟨o, ho, hil, hif, hedge⟩ := ready_lt hs hi
      have hin : i < n := by
        rcases Nat.lt_or_ge i n with h | h
        · exact h
        · obtain ⟨e, he, hb, hon⟩ := ok.tail i o j0 h ho (by omega)
          have := hedge e he hb
          rcases hon with hon | ⟨hon, hat⟩ | ⟨hon, _⟩
          · rw [hon, hf0] at this; cases this
          · have h2 := inv.closed e.on j0 hon this hat
            have h2 : listed.getD j0 false = true := h2
            rw [hf0] at h2; cases h2
          · rw [htail e.on hon hex] at this; cases this
      have hm : ∀ j, at2 ms i j = true → (fun j => listed.getD j false) j = true := by
        intro j hj
        obtain ⟨e, he, hb, hon⟩ := ok.ahead i o j hin ho hj
        have h1 := hedge e he hb
        rcases hon with rfl | hon
        · exact h1
        · exact inv.closed e.on j (by have := ok.back i o ho e he hb; omega) h1 hon
      refine step_run ok hN firm hp inv hI hin hif hm fun a' w' inv' hI' => ?_
      have hset : (fun j => (listed.setIfInBounds i true).getD j false) = more (fun j => listed.getD j false) i := set_more hil
      have hcnt := count_set (l := listed) (i := i) (by rw [getD_any hil true false]; exact hif)
      refine ih _ a' w' (by simpa using hs) (by omega) ?_ ?_
      · by_cases hall : ∀ j, j < n → more (fun j => listed.getD j false) i j = true
        · right
          refine ⟨n, Nat.le_refl _, ok.le, fun j hj => ?_, fun j hj => ?_, last_run ok hN hp inv' hI' hall⟩
          · have := congrFun hset j; rw [this]; exact hall j hj
          · have := congrFun hset j
            rw [this]
            have h1 := htail j hj hex
            have : (j == i) = false := by simp; omega
            simp only [more, this, Bool.false_or]
            exact h1
        · left
          refine ⟨?_, by rw [hset]; exact inv', hI'⟩
          have ⟨j, hj⟩ := Classical.not_forall.1 hall
          have ⟨hjn, hj2⟩ := Classical.not_imp.1 hj
          exact ⟨j, hjn, by have := congrFun hset j; rw [this]; simpa using hj2⟩
      · intro j hj _
        have := congrFun hset j
        rw [this]
        have h1 := htail j hj hex
        have : (j == i) = false := by simp; omega
        simp only [more, this, Bool.false_or]
        exact h1
    · refine ⟨fun h => ?_, fun i hi => ?_⟩
      · have hk : k = ops.size := by
          rcases Nat.lt_or_ge k ops.size with hlt | hge
          · have := ready_of hs hlt (hafter k (Nat.le_refl _)) hbefore
            rw [h] at this; cases this
          · omega
        rw [List.drop_eq_nil_of_le (by rw [Array.length_toList, hk]; exact Nat.le_refl _)] at hl
        exact hl
      · obtain ⟨o, ho, hil, hif, hedge⟩ := ready_lt hs hi
        have hki : k ≤ i := by
          rcases Nat.lt_or_ge i k with h | h
          · have := hbefore i h; rw [hif] at this; cases this
          · exact h
        have hik : i = k := by
          rcases Nat.lt_or_ge k i with h | h
          · obtain ⟨e, he, hb, hon⟩ := ok.tail i o k (by omega) ho h
            have := hedge e he hb
            rcases hon with hon | ⟨hon, hat⟩ | ⟨_, hon⟩
            · rw [hon, hafter k (Nat.le_refl _)] at this; cases this
            · obtain ⟨oe, hoe⟩ : ∃ oe, ops[e.on]? = some oe := ⟨_, Array.getElem?_eq_getElem (by have := ok.le; omega)⟩
              have := at2_lt (ok.mlen e.on oe hon hoe) hat
              omega
            · rw [hafter e.on (by omega)] at this; cases this
          · omega
        subst hik
        have hilt : i < ops.toList.length := by rw [Array.length_toList]; exact (Array.getElem?_eq_some_iff.1 ho).1
        have hcons : ops.toList.drop i = o :: ops.toList.drop (i + 1) := by
          rw [List.drop_eq_getElem_cons hilt]
          have h1 := ho
          rw [← Array.getElem?_toList, List.getElem?_eq_getElem hilt] at h1
          rw [Option.some.inj h1]
        rw [hcons] at hl
        have hset : (fun j => (listed.setIfInBounds i true).getD j false) = more (fun j => listed.getD j false) i := set_more hil
        have hcnt := count_set (l := listed) (i := i) (by rw [getD_any hil true false]; exact hif)
        have hw : wpOp P ops Q i (wpList P ops Q (ops.toList.drop (i + 1))) a w := by
          unfold wpOp
          simp only [ho]
          exact hl
        refine wpOp_mono (fun a' w' h => ih _ a' w' (by simpa using hs) (by omega) (Or.inr ⟨i + 1, by omega, by rw [Array.length_toList] at hilt; omega, fun j hj => ?_, fun j hj => ?_, h⟩) ?_) hw
        · have := congrFun hset j
          rw [this]
          by_cases hji : j = i
          · subst hji; exact more_self
          · exact more_old (hbefore j (by omega))
        · have := congrFun hset j
          rw [this]
          have : (j == i) = false := by simp; omega
          simp only [more, this, Bool.false_or]
          exact hafter j (by omega)
        · rintro j hj ⟨x, hx, hxf⟩
          have := congrFun hset x
          rw [this] at hxf
          have h2 := hbefore x (by omega)
          rw [more_old h2] at hxf; cases hxf

theorem region {n N : Nat} {ms : List (List Bool)} (all : List (Oper × Kind × List Bool)) {a : Act} {w : World} {id : Nat} {Q : Exit → Act → World → Prop} (I : World → Prop) (S : List Value → World → Prop) (G : World → World → Prop)
    (hm : P.follows .mixedOrders = true) (ok : Ok ops n N ms all) (hN : a.tmps.size = N) (firm : Firm I S G all) (hn : 0 < n) (hI : I w.drew) (hS : S [] w.drew)
    (hp : pass P ops I S G (Last P ops I S Q n) all a [] []) : (Code.region id ops true).wp P Q a w := by
  refine wp_region_any hm ?_
  show wpAny P .any ops Q ops.size (Array.replicate ops.size false) a w.drew
  have hfalse : ∀ j, (Array.replicate ops.size false).getD j false = false := by
    intro j
    rcases Nat.lt_or_ge j ops.size with h | h
    · simp [h]
    · simp [Array.getElem?_eq_none (xs := Array.replicate ops.size false) (i := j) (by simpa using h)]
  refine main_run ok hN firm hp ops.size _ a w.drew (by simp) (by simp) (Or.inl ⟨⟨0, hn, hfalse 0⟩, ?_, hI⟩) fun j _ _ => hfalse j
  have hL : (fun j => (Array.replicate ops.size false).getD j false) = fun _ => false := funext hfalse
  rw [hL]
  refine ⟨rfl, rfl, fun t _ => rfl, fun i j _ h => (nomatch h), fun j o k m h => (nomatch h), ?_⟩
  rw [valsOf_nil all 0 fun i x _ _ => rfl]
  exact hS

/-! ### For use -/
def mk (ops : Array Oper) (n : Nat) (ks : List Kind) (ms : List (List Bool)) : List (Oper × Kind × List Bool) := (ops.toList.take n).zip (ks.zip ms)

theorem region_mk (n N : Nat) (ms : List (List Bool)) (tags : List Nat) (ks : List Kind) {a : Act} {w : World} {id : Nat} {Q : Exit → Act → World → Prop} (I : World → Prop) (S : List Value → World → Prop) (G : World → World → Prop)
    (hm : P.follows .mixedOrders = true) (hok : (okB ops n N ms tags && (ms.length == n) && (tags.length == n) && decide (0 < n)) = true) (htags : ks.map tagOf = tags) (hN : a.tmps.size = N)
    (hs : ∀ vs w w', Ext w w' → S vs w → S vs w') (hie : ∀ w w', Ext w w' → I w → I w') (hig : ∀ w w', G w w' → I w → I w') (hst : stays G (mk ops n ks ms)) (hI : I w.drew) (hS : S [] w.drew)
    (hp : pass P ops I S G (Last P ops I S Q n) (mk ops n ks ms) a [] []) : (Code.region id ops true).wp P Q a w := by
  simp only [Bool.and_eq_true, beq_iff_eq, decide_eq_true_eq] at hok
  obtain ⟨⟨⟨hok, hml⟩, htl⟩, hn⟩ := hok
  have hle : n ≤ ops.size := by
    unfold okB at hok
    rw [Bool.and_eq_true] at hok
    simpa using hok.1
  have hkl : ks.length = n := by rw [← htl, ← htags, List.length_map]
  have h1 : (mk ops n ks ms).map (·.1) = ops.toList.take n := by
    unfold mk
    rw [List.map_fst_zip]
    rw [List.length_zip, List.length_take, hkl, hml]; omega
  have hl0 : (ops.toList.take n).length = n := by rw [List.length_take, Array.length_toList]; omega
  have h2 : (mk ops n ks ms).map (·.2) = ks.zip ms := by
    unfold mk
    rw [List.map_snd_zip]
    rw [List.length_zip, hl0, hkl, hml]; omega
  have h3 : (mk ops n ks ms).map (·.2.2) = ms := by
    have : (mk ops n ks ms).map (·.2.2) = ((mk ops n ks ms).map (·.2)).map (·.2) := by rw [List.map_map]; rfl
    rw [this, h2, List.map_snd_zip]
    omega
  have h4 : (mk ops n ks ms).map (fun x => tagOf x.2.1) = tags := by
    have : (mk ops n ks ms).map (fun x => tagOf x.2.1) = (((mk ops n ks ms).map (·.2)).map (·.1)).map tagOf := by rw [List.map_map, List.map_map]; rfl
    rw [this, h2, List.map_fst_zip, htags]
    omega
  exact region _ I S G hm (ok_of _ (by rw [h4]; exact hok) h1 h3) hN ⟨hs, hie, hig, hst⟩ hn hI hS hp

section
variable {o : Oper} {m : List Bool} {r : List (Oper × Kind × List Bool)} {a : Act} {F : List (World → Prop)} {vs : List Value}

theorem pass_pure (v : Value) (h : Yields P ops o v a) (hn : pass P ops I S G fin r (a.put o.dst v) (F ++ [noFact]) vs) : pass P ops I S G fin ((o, .pure, m) :: r) a F vs := ⟨v, h, hn⟩

theorem pass_is (v : Value) (hw : Region.wanted o (yielded ops a.tmps) = true) (h : ∀ w, (execOp a.eval o).run P w = .ok (.value v) w) (hn : pass P ops I S G fin r (a.put o.dst v) (F ++ [noFact]) vs) : pass P ops I S G fin ((o, .pure, m) :: r) a F vs := ⟨v, Or.inl ⟨hw, h⟩, hn⟩

theorem pass_not (hw : Region.wanted o (yielded ops a.tmps) = false) (hn : pass P ops I S G fin r (a.put o.dst undef) (F ++ [noFact]) vs) : pass P ops I S G fin ((o, .pure, m) :: r) a F vs := ⟨undef, Or.inr ⟨hw, rfl⟩, hn⟩

theorem pass_minor {α : Type} {d : α} {val : α → Value} {Post : α → World → Prop} (hw : Region.wanted o (yielded ops a.tmps) = true) (h : ∀ w, I w → facts w m F → One P ops o a w fun v w' => (∃ x : α, v = val x ∧ Post x w') ∧ Ext w w')
    (hn : ∀ x : α, pass P ops I S G fin r (a.put o.dst (val x)) (F ++ [Post x]) vs) : pass P ops I S G fin ((o, .minor α d val Post, m) :: r) a F vs := ⟨fun _ => ⟨h, hn⟩, fun h' => by rw [hw] at h'; cases h'⟩

theorem pass_minor_no {α : Type} {d : α} {val : α → Value} {Post : α → World → Prop} (hw : Region.wanted o (yielded ops a.tmps) = false)
    (hn : pass P ops I S G fin r (a.put o.dst undef) (F ++ [noFact]) vs) : pass P ops I S G fin ((o, .minor α d val Post, m) :: r) a F vs := ⟨fun h' => (by rw [hw] at h'; cases h'), fun _ => hn⟩

theorem pass_pinned {α : Type} {d : α} {val : α → Value} {Post : α → World → Prop} (hw : Region.wanted o (yielded ops a.tmps) = true) (h : ∀ w, I w → S vs w → facts w m F → One P ops o a w fun v w' => (∃ x : α, v = val x ∧ Post x w') ∧ Ext w w')
    (hn : ∀ x : α, pass P ops I S G fin r (a.put o.dst (val x)) (F ++ [Post x]) vs) : pass P ops I S G fin ((o, .pinned α d val Post, m) :: r) a F vs := ⟨fun _ => ⟨h, hn⟩, fun h' => by rw [hw] at h'; cases h'⟩

theorem pass_pinned_no {α : Type} {d : α} {val : α → Value} {Post : α → World → Prop} (hw : Region.wanted o (yielded ops a.tmps) = false)
    (hn : pass P ops I S G fin r (a.put o.dst undef) (F ++ [noFact]) vs) : pass P ops I S G fin ((o, .pinned α d val Post, m) :: r) a F vs := ⟨fun h' => (by rw [hw] at h'; cases h'), fun _ => hn⟩

theorem pass_major {α : Type} {d : α} {val : α → Value} (hw : Region.wanted o (yielded ops a.tmps) = true) (h : ∀ w, I w → S vs w → facts w m F → One P ops o a w fun v w' => ((∃ x : α, v = val x) ∧ S (vs ++ [v]) w') ∧ G w w')
    (hn : ∀ x : α, pass P ops I S G fin r (a.put o.dst (val x)) (F ++ [noFact]) (vs ++ [val x])) : pass P ops I S G fin ((o, .major α d val, m) :: r) a F vs := ⟨fun _ => ⟨h, hn⟩, fun h' => by rw [hw] at h'; cases h'⟩

theorem pass_major_no {α : Type} {d : α} {val : α → Value} (hw : Region.wanted o (yielded ops a.tmps) = false) (h : ∀ w, I w → S vs w → S (vs ++ [undef]) w)
    (hn : pass P ops I S G fin r (a.put o.dst undef) (F ++ [noFact]) (vs ++ [undef])) : pass P ops I S G fin ((o, .major α d val, m) :: r) a F vs := ⟨fun h' => (by rw [hw] at h'; cases h'), fun _ => ⟨h, hn⟩⟩

theorem pass_end {n : Nat} {Q : Exit → Act → World → Prop} (h : ∀ w, I w → S vs w → allFacts w F → wpList P ops Q (ops.toList.drop n) a w) : pass P ops I S G (Last P ops I S Q n) [] a F vs := h
end

end Reg
end Go.Proofs.Ytdlfbkiihkhmmaa
