/-
 Own words and walks, merged: part 2 of 9.
-/
import Derived.WalkKit
import Derived.Orders
import Derived.Deep.LoopGhost
import Derived.Test.YtelnhablglomjaaGreatZa1
set_option maxRecDepth 1000000
set_option maxHeartbeats 8000000
set_option linter.all false

namespace Go.Proofs.YtelnhablglomjaaGreat
open Go.RowKit
namespace Reg2
inductive Kind : Type 1 where
 | pure
 | minor (α : Type) (d : α) (val : α → Value) (Post : α → World → Prop)
 | pinned (α : Type) (d : α) (val : α → Value) (Post : α → World → Prop)
 | major (α : Type) (d : α) (val : α → Value)
variable (P : Program) (ops : Array Oper)
def slot (o : Oper) (a : Act) : Value := match o.dst with | some d => a.tmps.getD d undef | none => undef
def Ext (w w' : World) : Prop := Below w.heap.size w w'
def Done (o : Oper) (R : Value → World → Prop) (a0 : Act) : Exit → Act → World → Prop
 | .normal, a, w => ∃ v, a = a0.put o.dst v ∧ R v w
 | _, _, _ => False
def One (o : Oper) (a : Act) (w : World) (R : Value → World → Prop) : Prop := wpList P ops (Done o R a) [o] a w
def ku : World → Prop := fun _ => True
def facts (w : World) : List Bool → List (World → Prop) → Prop
 | true :: bs, f :: fs => f w ∧ facts w bs fs
 | false :: bs, _ :: fs => facts w bs fs
 | _, _ => True
def uT (w : World) : List (World → Prop) → Prop
 | f :: fs => f w ∧ uT w fs
 | [] => True
variable (I : World → Prop) (S : List Value → World → Prop) (G : World → World → Prop) (fin : Act → List (World → Prop) → List Value → Prop)
def opPass (o : Oper) (m : List Bool) (a : Act) (F : List (World → Prop)) (vs : List Value) (nx : Act → List (World → Prop) → List Value → Prop) : Kind → Prop
 | .pure => ∃ v : Value, Yields P ops o v a ∧ nx (a.put o.dst v) (F ++ [ku]) vs
 | .minor α _ val Post =>
   (Region.wanted o (yielded ops a.tmps) = true → (∀ w, I w → facts w m F → One P ops o a w fun v w' => (∃ x : α, v = val x ∧ Post x w') ∧ Ext w w') ∧ ∀ x : α, nx (a.put o.dst (val x)) (F ++ [Post x]) vs) ∧
   (Region.wanted o (yielded ops a.tmps) = false → nx (a.put o.dst undef) (F ++ [ku]) vs)
 | .pinned α _ val Post =>
   (Region.wanted o (yielded ops a.tmps) = true → (∀ w, I w → S vs w → facts w m F → One P ops o a w fun v w' => (∃ x : α, v = val x ∧ Post x w') ∧ Ext w w') ∧ ∀ x : α, nx (a.put o.dst (val x)) (F ++ [Post x]) vs) ∧
   (Region.wanted o (yielded ops a.tmps) = false → nx (a.put o.dst undef) (F ++ [ku]) vs)
 | .major α _ val =>
   (Region.wanted o (yielded ops a.tmps) = true → (∀ w, I w → S vs w → facts w m F → One P ops o a w fun v w' => ((∃ x : α, v = val x) ∧ S (vs ++ [v]) w') ∧ G w w') ∧ ∀ x : α, nx (a.put o.dst (val x)) (F ++ [ku]) (vs ++ [val x])) ∧
   (Region.wanted o (yielded ops a.tmps) = false → (∀ w, I w → S vs w → S (vs ++ [undef]) w) ∧ nx (a.put o.dst undef) (F ++ [ku]) (vs ++ [undef]))
def pass : List (Oper × Kind × List Bool) → Act → List (World → Prop) → List Value → Prop
 | [], a, F, vs => fin a F vs
 | x :: r, a, F, vs => opPass P ops I S G x.1 x.2.2 a F vs (pass r) x.2.1
def rH : Kind → Prop
 | .minor _ _ _ Post => (∀ x w w', Ext w w' → Post x w → Post x w') ∧ (∀ x w w', G w w' → Post x w → Post x w')
 | .pinned _ _ _ Post => (∀ x w w', Ext w w' → Post x w → Post x w') ∧ (∀ x w w', G w w' → Post x w → Post x w')
 | _ => True
def stays : List (Oper × Kind × List Bool) → Prop
 | x :: r => rH G x.2.1 ∧ stays r
 | [] => True
def bF : Kind → Nat | .pure => 0 | .minor .. => 1 | .pinned .. => 2 | .major .. => 3
def at2 (ms : List (List Bool)) (i j : Nat) : Bool := (ms.getD i []).getD j false
def okRow (n : Nat) (ms : List (List Bool)) (tags : List Nat) (i : Nat) (o : Oper) : Bool :=
 (ms.getD i []).length == i && (o.dst.isSome || tags.getD i 0 == 3) && (match o.op with | .select _ _ => false | _ => true) &&
 o.after.all (fun e => !Region.binds .any e || e.on < i) &&
 (List.range n).all fun j =>
  (!at2 ms i j || o.after.any fun e => Region.binds .any e && (e.on == j || at2 ms e.on j)) &&
  (!at2 ms i j || (List.range n).all fun l => !at2 ms j l || at2 ms i l) &&
  (match ops[j]? with
   | none => false
   | some p => (i == j || !(o.dst == p.dst) || !o.dst.isSome) && (match p.dst with | some d => !(o.looksAt ops).contains d || at2 ms i j | none => true) &&
     (!((tags.getD i 0 == 3 || tags.getD i 0 == 2) && tags.getD j 0 == 3) || i == j || at2 ms i j || at2 ms j i))
def okB (n N : Nat) (ms : List (List Bool)) (tags : List Nat) : Bool :=
 (n ≤ ops.size) && (List.range ops.size).all fun i => match ops[i]? with
  | none => false
  | some o => if i < n then okRow ops n ms tags i o && (match o.dst with | some d => d < N | none => true)
   else o.after.all (fun e => !Region.binds .any e || e.on < i) && (List.range i).all fun j => o.after.any fun e => Region.binds .any e && (e.on == j || (decide (e.on < n) && at2 ms e.on j) || (decide (n ≤ e.on) && decide (j < e.on)))
def silent : Kind → Prop | .major _ _ val => ∀ x, val x = undef | _ => False
structure Ok (n N : Nat) (ms : List (List Bool)) (all : List (Oper × Kind × List Bool)) : Prop where
 le : n ≤ ops.size
 len : all.length = n
 get : ∀ (i : Nat) (o : Oper) (k : Kind) (m : List Bool), all[i]? = some (o, k, m) → ops[i]? = some o ∧ m = ms.getD i []
 Dz : ∀ (i : Nat) (o : Oper), i < n → ops[i]? = some o → (ms.getD i []).length = i
 dst : ∀ (i : Nat) (o : Oper), i < n → ops[i]? = some o → ∀ d, o.dst = some d → d < N
 non : ∀ (i : Nat) (o : Oper) (k : Kind) (m : List Bool), all[i]? = some (o, k, m) → o.dst = none → silent k
 TA : ∀ (i : Nat) (o : Oper), i < n → ops[i]? = some o → ∀ cs b, o.op ≠ .select cs b
 back : ∀ (i : Nat) (o : Oper), ops[i]? = some o → ∀ e ∈ o.after, Region.binds .any e = true → e.on < i
 ahead : ∀ (i : Nat) (o : Oper) (j : Nat), i < n → ops[i]? = some o → at2 ms i j = true → ∃ e ∈ o.after, Region.binds .any e = true ∧ (e.on = j ∨ at2 ms e.on j = true)
 trans : ∀ (i j l : Nat), i < n → at2 ms i j = true → at2 ms j l = true → at2 ms i l = true
 apart : ∀ (i j : Nat) (o p : Oper), i < n → j < n → i ≠ j → ops[i]? = some o → ops[j]? = some p → ∀ d, o.dst = some d → p.dst ≠ some d
 looks : ∀ (i j : Nat) (o p : Oper) (d : Tmp), i < n → j < n → ops[i]? = some o → ops[j]? = some p → p.dst = some d → d ∈ o.looksAt ops → at2 ms i j = true
 Wt : ∀ (i j : Nat) (o : Oper) (k : Kind) (m : List Bool) (p : Oper) (k' : Kind) (m' : List Bool), all[i]? = some (o, k, m) → (bF k = 3 ∨ bF k = 2) → all[j]? = some (p, k', m') → bF k' = 3 → i ≠ j → at2 ms i j = true ∨ at2 ms j i = true
 tail : ∀ (i : Nat) (o : Oper) (j : Nat), n ≤ i → ops[i]? = some o → j < i → ∃ e ∈ o.after, Region.binds .any e = true ∧ (e.on = j ∨ (e.on < n ∧ at2 ms e.on j = true) ∨ (n ≤ e.on ∧ j < e.on))
theorem ow {ms : List (List Bool)} {i j : Nat} (h : (ms.getD i []).length = i) (hj : at2 ms i j = true) : j < i := by
 unfold at2 at hj
 rcases Nat.lt_or_ge j i with hlt | hge
 ·exact hlt
 ·rw [List.getD_eq_getElem?_getD, List.getElem?_eq_none (by omega)] at hj
  cases hj
theorem Qa {n N : Nat} {ms : List (List Bool)} {all : List (Oper × Kind × List Bool)} (h : okB ops n N ms (all.map fun x => bF x.2.1) = true) (hl : all.map (·.1) = ops.toList.take n) (hms : all.map (·.2.2) = ms) (qb : ∀ x ∈ all, x.1.dst = none → silent x.2.1) : Ok ops n N ms all := by
 unfold okB at h
 rw [Bool.and_eq_true] at h
 obtain ⟨hle, h⟩ := h
 have hle : n ≤ ops.size := by simpa using hle
 rw [List.all_eq_true] at h
 have hlen : all.length = n := by
  have := congrArg List.length hl
  simp only [List.length_map, List.length_take, Array.length_toList] at this
  omega
 have hget : ∀ (i : Nat) (o : Oper) (k : Kind) (m : List Bool), all[i]? = some (o, k, m) → ops[i]? = some o ∧ m = ms.getD i [] := by
  intro i o k m hi
  refine ⟨?_, by rw [← hms]; simp [List.getD, hi]⟩
  have h1 : (all.map (·.1))[i]? = some o := by simp [hi]
  rw [hl, List.getElem?_take] at h1
  split at h1
  ·simpa using h1
  ·cases h1
 have row : ∀ (i : Nat) (o : Oper), i < n → ops[i]? = some o → okRow ops n ms (all.map fun x => bF x.2.1) i o = true ∧ ∀ d, o.dst = some d → d < N := by
  intro i o hi ho
  have := h i (List.mem_range.2 (by omega))
  simp only [ho, hi, if_true, Bool.and_eq_true] at this
  refine ⟨this.1, ?_⟩
  have h2 := this.2
  intro d hd
  simpa [hd] using h2
 have GZ : ∀ (i : Nat) (o : Oper) (j : Nat), i < n → ops[i]? = some o → j < n →
  ((!at2 ms i j || o.after.any fun e => Region.binds .any e && (e.on == j || at2 ms e.on j)) &&
  (!at2 ms i j || (List.range n).all fun l => !at2 ms j l || at2 ms i l) &&
  (match ops[j]? with
   | none => false
   | some p => (i == j || !(o.dst == p.dst) || !o.dst.isSome) && (match p.dst with | some d => !(o.looksAt ops).contains d || at2 ms i j | none => true) &&
     (!(((all.map fun x => bF x.2.1).getD i 0 == 3 || (all.map fun x => bF x.2.1).getD i 0 == 2) && (all.map fun x => bF x.2.1).getD j 0 == 3) || i == j || at2 ms i j || at2 ms j i))) = true := by
  intro i o j hi ho hj
  have h1 := (row i o hi ho).1
  unfold okRow at h1
  rw [Bool.and_eq_true, List.all_eq_true] at h1
  exact h1.2 j (List.mem_range.2 hj)
 have E9 : ∀ (i : Nat) (o : Oper), i < n → ops[i]? = some o → (ms.getD i []).length = i := by
  intro i o hi ho
  have h1 := (row i o hi ho).1
  unfold okRow at h1
  simp only [Bool.and_eq_true] at h1
  simpa using h1.1.1.1.1
 have G5 : ∀ (i : Nat), i < ops.size → ∃ o, ops[i]? = some o := fun i hi => ⟨ops[i], by simp [hi]⟩
 refine ⟨hle, hlen, hget, E9, fun i o hi ho => (row i o hi ho).2, fun i o k m hi => qb _ (List.mem_of_getElem? hi), ?_, ?_, ?_, ?_, ?_, ?_, ?_, ?_⟩
 ·intro i o hi ho cs b hop
  have h1 := (row i o hi ho).1
  unfold okRow at h1
  simp only [Bool.and_eq_true] at h1
  have := h1.1.1.2
  rw [hop] at this
  cases this
 ·intro i o ho e he hb
  have hi : i < ops.size := (Array.getElem?_eq_some_iff.1 ho).1
  have h1 := h i (List.mem_range.2 hi)
  simp only [ho] at h1
  split at h1
  ·rename_i hin
   have h2 := (row i o hin ho).1
   unfold okRow at h2
   simp only [Bool.and_eq_true, Array.all_eq_true_iff_forall_mem] at h2
   simpa [hb] using h2.1.2 e he
  ·rw [Bool.and_eq_true, Array.all_eq_true_iff_forall_mem] at h1
   simpa [hb] using h1.1 e he
 ·intro i o j hi ho hj
  have hlt := ow (E9 i o hi ho) hj
  have h1 := GZ i o j hi ho (by omega)
  simp only [Bool.and_eq_true, hj, Bool.not_true, Bool.false_or] at h1
  have h2 := h1.1.1
  rw [Array.any_eq_true] at h2
  obtain ⟨x, hx, h3⟩ := h2
  simp only [Bool.and_eq_true, Bool.or_eq_true, beq_iff_eq] at h3
  exact ⟨_, Array.getElem_mem hx, h3.1, h3.2⟩
 ·intro i j l hi hij hjl
  obtain ⟨o, ho⟩ := G5 i (by omega)
  have hlt := ow (E9 i o hi ho) hij
  obtain ⟨p, hp⟩ := G5 j (by omega)
  have hlt2 := ow (E9 j p (by omega) hp) hjl
  have h1 := GZ i o j hi ho (by omega)
  simp only [Bool.and_eq_true, hij, Bool.not_true, Bool.false_or] at h1
  have h2 := h1.1.2
  rw [List.all_eq_true] at h2
  have := h2 l (List.mem_range.2 (by omega))
  simpa [hjl] using this
 ·intro i j o p hi hj hne ho hp d hd he
  have h1 := GZ i o j hi ho hj
  simp only [hp, Bool.and_eq_true] at h1
  have h2 := h1.2.1.1
  rw [he, hd] at h2
  simp [hne] at h2
 ·intro i j o p d hi hj ho hp hd hm
  have h1 := GZ i o j hi ho hj
  simp only [hp, Bool.and_eq_true, hd] at h1
  have h2 := h1.2.1.2
  simpa [List.contains_iff_mem, hm] using h2
 ·intro i j o k m p k' m' hi hk hj hk' hne
  have ho := (hget i o k m hi).1
  have hp := (hget j p k' m' hj).1
  have hin : i < n := by rw [← hlen]; exact (List.getElem?_eq_some_iff.1 hi).1
  have hjn : j < n := by rw [← hlen]; exact (List.getElem?_eq_some_iff.1 hj).1
  have h1 := GZ i o j hin ho hjn
  simp only [hp, Bool.and_eq_true] at h1
  have h2 := h1.2.2
  have e1 : (all.map fun x => bF x.2.1).getD i 0 = bF k := by simp [List.getD, hi]
  have e2 : (all.map fun x => bF x.2.1).getD j 0 = 3 := by simp [List.getD, hj, hk']
  rw [e1, e2] at h2
  have e3 : ((bF k == 3 || bF k == 2) && (3 == 3)) = true := by rcases hk with hk | hk <;> simp [hk]
  rw [e3] at h2
  simpa [hne] using h2
 ·intro i o j hi ho hj
  have Yo : i < ops.size := (Array.getElem?_eq_some_iff.1 ho).1
  have h1 := h i (List.mem_range.2 Yo)
  simp only [ho, show ¬ i < n by omega, if_false, Bool.and_eq_true, List.all_eq_true] at h1
  have h2 := h1.2 j (List.mem_range.2 hj)
  rw [Array.any_eq_true] at h2
  obtain ⟨x, hx, h3⟩ := h2
  simp only [Bool.and_eq_true, Bool.or_eq_true, beq_iff_eq, decide_eq_true_eq] at h3
  refine ⟨_, Array.getElem_mem hx, h3.1, ?_⟩
  rcases h3.2 with (h4 | h4) | h4
  ·exact .inl h4
  ·exact .inr (.inl h4)
  ·exact .inr (.inr h4)
variable {P ops I S G fin}
def valsOf (L : Nat → Bool) (a : Act) : List (Oper × Kind × List Bool) → Nat → List Value
 | [], _ => []
 | x :: r, j => (if bF x.2.1 = 3 ∧ L j = true then [slot x.1 a] else []) ++ valsOf L a r (j + 1)
theorem iT (L : Nat → Bool) (a : Act) (r : List (Oper × Kind × List Bool)) : ∀ (l : List (Oper × Kind × List Bool)) (j : Nat), valsOf L a (l ++ r) j = valsOf L a l j ++ valsOf L a r (j + l.length)
 | [], j => by simp [valsOf]
 | x :: l, j => by
   simp only [xE, valsOf, iT L a r l (j + 1), List.append_assoc, List.length_cons]
   rw [show j + 1 + l.length = j + (l.length + 1) by omega]
theorem vG {L L' : Nat → Bool} {a a' : Act} : ∀ (l : List (Oper × Kind × List Bool)) (j : Nat), (∀ i x, l[i]? = some x → bF x.2.1 = 3 → L (j + i) = L' (j + i) ∧ (L (j + i) = true → slot x.1 a = slot x.1 a')) → valsOf L a l j = valsOf L' a' l j
 | [], _, _ => rfl
 | x :: l, j, h => by
   have h0 := h 0 x rfl
   simp only [valsOf]
   rw [vG l (j + 1) fun i y hy ht => by have := h (i + 1) y (by simpa using hy) ht; rw [show j + (i + 1) = j + 1 + i by omega] at this; exact this]
   by_cases ht : bF x.2.1 = 3
   ·obtain ⟨h1, h2⟩ := h0 ht
    simp only [Nat.add_zero] at h1 h2
    by_cases hL : L j = true
    ·rw [if_pos ⟨ht, hL⟩, if_pos ⟨ht, by rw [← h1]; exact hL⟩, h2 hL]
    ·rw [if_neg (by simp [hL]), if_neg (by rw [← h1]; simp [hL])]
   ·simp [ht]
theorem qc {L : Nat → Bool} {a : Act} : ∀ (l : List (Oper × Kind × List Bool)) (j : Nat), (∀ i x, l[i]? = some x → bF x.2.1 = 3 → L (j + i) = false) → valsOf L a l j = []
 | [], _, _ => rfl
 | x :: l, j, h => by
   have h0 := h 0 x rfl
   simp only [valsOf]
   rw [qc l (j + 1) fun i y hy ht => by have := h (i + 1) y (by simpa using hy) ht; rw [show j + (i + 1) = j + 1 + i by omega] at this; exact this]
   by_cases ht : bF x.2.1 = 3
   ·have h1 := h0 ht
    simp only [Nat.add_zero] at h1
    simp [h1]
   ·simp [ht]
def oU (P : Program) (ops : Array Oper) (o : Oper) (a : Act) (w : World) : Kind → Prop
 | .pure => Yields P ops o (slot o a) a
 | .minor α _ val Post => (Region.wanted o (yielded ops a.tmps) = true → ∃ x : α, slot o a = val x ∧ Post x w) ∧ (Region.wanted o (yielded ops a.tmps) = false → slot o a = undef)
 | .pinned α _ val Post => (Region.wanted o (yielded ops a.tmps) = true → ∃ x : α, slot o a = val x ∧ Post x w) ∧ (Region.wanted o (yielded ops a.tmps) = false → slot o a = undef)
 | .major α _ val => (Region.wanted o (yielded ops a.tmps) = true → ∃ x : α, slot o a = val x) ∧ (Region.wanted o (yielded ops a.tmps) = false → slot o a = undef)
variable (P ops S) in
structure Inv (n : Nat) (ms : List (List Bool)) (all : List (Oper × Kind × List Bool)) (a0 : Act) (L : Nat → Bool) (a : Act) (w : World) : Prop where
 defers : a.defers = a0.defers
 size : a.tmps.size = a0.tmps.size
 frame : ∀ t, (∀ (j : Nat) (o : Oper), j < n → L j = true → ops[j]? = some o → o.dst ≠ some t) → a.tmps[t]? = a0.tmps[t]?
 closed : ∀ i j, i < n → L i = true → at2 ms i j = true → L j = true
 holds : ∀ (j : Nat) (o : Oper) (k : Kind) (m : List Bool), L j = true → all[j]? = some (o, k, m) → oU P ops o a w k
 state : S (valsOf L a all 0) w
theorem G6 {o : Oper} {v v' : Value} {a : Act} (w : World) (h : Yields P ops o v a) (h' : Yields P ops o v' a) : v = v' := by
 rcases h with ⟨h1, h2⟩ | ⟨h1, rfl⟩ <;> rcases h' with ⟨h3, h4⟩ | ⟨h3, rfl⟩
 ·have := (h2 w).symm.trans (h4 w); simpa using this
 ·rw [h1] at h3; cases h3
 ·rw [h1] at h3; cases h3
 ·rfl
theorem xc {o : Oper} (hs : ∀ cs b, o.op ≠ .select cs b) {a b : Act} (h : ∀ t, t ∈ o.looksAt ops → a.tmps[t]? = b.tmps[t]?) :
 execOp a.eval o = execOp b.eval o ∧ Region.wanted o (yielded ops a.tmps) = Region.wanted o (yielded ops b.tmps) := by
 constructor
 ·refine execOp_congr o hs fun x hx => ?_
  cases x with
  | tmp t =>
    have : t ∈ o.looksAt ops := List.mem_append_left _ (List.mem_filterMap.2 ⟨.tmp t, by simpa using hx, rfl⟩)
    simp [Act.eval, h t this]
  | _ => rfl
 ·unfold Region.wanted
  cases hg : o.guard with
  | none => rfl
  | some gw =>
    obtain ⟨g, want⟩ := gw
    have hy : yielded ops a.tmps g = yielded ops b.tmps g := by
     unfold yielded
     cases ht : (ops[g]?).bind (·.dst) with
     | none => rfl
     | some t =>
       have : t ∈ o.looksAt ops := List.mem_append_right _ (by simp [hg, ht])
       simp [h t this]
    simp only [hy]
theorem Nn {o : Oper} {a : Act} {d : Tmp} (hd : o.dst = some d) (hlt : d < a.tmps.size) (v : Value) : slot o (a.put o.dst v) = v := by
 simp [slot, hd, Act.put, hlt]
theorem G7 {a : Act} {d t : Tmp} (h : d ≠ t) (v : Value) : (a.put (some d) v).tmps[t]? = a.tmps[t]? := by
 simp [Act.put, Array.getElem?_setIfInBounds_ne h]
theorem Fa {o : Oper} {a : Act} {d : Tmp} (h : o.dst ≠ some d) (v : Value) : slot o (a.put (some d) v) = slot o a := by
 unfold slot
 cases ho : o.dst with
 | none => rfl
 | some e =>
   have hne : d ≠ e := fun hx => h (by rw [ho, hx])
   simp only [Array.getD_eq_getD_getElem?, G7 hne]
theorem Np {a b : Act} {d : Tmp} (ha : d < a.tmps.size) (v : Value) (hv : v = b.tmps.getD d undef) (hb : d < b.tmps.size) : (a.put (some d) v).tmps[d]? = b.tmps[d]? := by
 subst hv; simp [Act.put, ha, hb]
theorem jU {o : Oper} {a : Act} {v : Value} (hn : o.dst = none → v = undef) (hlt : ∀ d, o.dst = some d → d < a.tmps.size) : slot o (a.put o.dst v) = v := by
 cases hd : o.dst with
 | none => rw [hn hd]; simp [slot, hd]
 | some d => rw [← hd]; exact Nn hd (hlt d hd) v
theorem qM {o : Oper} {a : Act} {t : Tmp} (h : o.dst ≠ some t) (v : Value) : (a.put o.dst v).tmps[t]? = a.tmps[t]? := by
 cases hd : o.dst with
 | none => rfl
 | some d => exact G7 (fun e => h (by rw [hd, e])) v
theorem vH {o p : Oper} {a : Act} (h : ∀ d, o.dst = some d → p.dst ≠ some d) (v : Value) : slot p (a.put o.dst v) = slot p a := by
 cases hd : o.dst with
 | none => rfl
 | some d => exact Fa (h d hd) v
theorem DC (a : Act) (d : Option Tmp) (v : Value) : (a.put d v).tmps.size = a.tmps.size := by
 cases d <;> simp [Act.put]
theorem put_defers (a : Act) (d : Option Tmp) (v : Value) : (a.put d v).defers = a.defers := by
 cases d <;> rfl
structure J4 (ops : Array Oper) (n : Nat) (L : Nat → Bool) (a0 a : Act) (j : Nat) (ac : Act) : Prop where
 defers : ac.defers = a0.defers
 size : ac.tmps.size = a0.tmps.size
 done : ∀ (i : Nat) (o : Oper) (t : Tmp), i < j → i < n → L i = true → ops[i]? = some o → o.dst = some t → ac.tmps[t]? = a.tmps[t]?
 rest : ∀ t, (∀ (i : Nat) (o : Oper), i < j → i < n → ops[i]? = some o → o.dst ≠ some t) → ac.tmps[t]? = a0.tmps[t]?
theorem J4.step {n N : Nat} {ms : List (List Bool)} {all : List (Oper × Kind × List Bool)} {L : Nat → Bool} {a0 a ac : Act} {j : Nat} {o : Oper} (ok : Ok ops n N ms all) (hN : a0.tmps.size = N) (ha : a.tmps.size = a0.tmps.size)
 (h : J4 ops n L a0 a j ac) (hj : j < n) (ho : ops[j]? = some o) {v : Value} (hv : L j = true → v = slot o a) : J4 ops n L a0 a (j + 1) (ac.put o.dst v) := by
 refine ⟨(put_defers _ _ _).trans h.defers, (DC _ _ _).trans h.size, ?_, ?_⟩
 ·intro i p t hi hin xe hp ht
  by_cases hij : i = j
  ·subst hij
   rw [ho] at hp
   obtain rfl := Option.some.inj hp
   have hlt := ok.dst i o hj ho t ht
   rw [ht]
   exact Np (by rw [h.size, hN]; exact hlt) _ (by rw [hv xe]; simp [slot, ht]) (by rw [ha, hN]; exact hlt)
  ·rw [qM (ok.apart i j p o hin hj hij hp ho t ht) _]
   exact h.done i p t (by omega) hin xe hp ht
 ·intro t ht
  rw [qM (ht j o (by omega) hj ho)]
  exact h.rest t fun i p hi hin hp => ht i p (by omega) hin hp
theorem J4.looks {n N : Nat} {ms : List (List Bool)} {all : List (Oper × Kind × List Bool)} {a0 a ac : Act} {j : Nat} {o : Oper} {L : Nat → Bool} {w : World} (ok : Ok ops n N ms all) (inv : Inv P ops S n ms all a0 L a w)
 (h : J4 ops n L a0 a j ac) (hjn : j < n) (ho : ops[j]? = some o) (hM : ∀ i, at2 ms j i = true → L i = true) :
 ∀ t, t ∈ o.looksAt ops → ac.tmps[t]? = a.tmps[t]? := by
 intro t ht
 by_cases hx : ∃ (i : Nat) (p : Oper), i < n ∧ ops[i]? = some p ∧ p.dst = some t
 ·obtain ⟨i, p, hin, hp, hd⟩ := hx
  have h2 := ok.looks j i o p t hjn hin ho hp hd ht
  have hlt := ow (ok.Dz j o hjn ho) h2
  exact h.done i p t hlt hin (hM i h2) hp hd
 ·rw [h.rest t fun i p _ hin hp hd => hx ⟨i, p, hin, hp, hd⟩, inv.frame t fun i p hin _ hp hd => hx ⟨i, p, hin, hp, hd⟩]
theorem yg {w : World} : ∀ (m : List Bool) (F : List (World → Prop)), (∀ (i : Nat) (f : World → Prop), m.getD i false = true → F[i]? = some f → f w) → facts w m F
 | [], F, _ => by unfold facts; trivial
 | true :: m, [], _ => by unfold facts; trivial
 | false :: m, [], _ => by unfold facts; trivial
 | true :: m, f :: F, h => ⟨h 0 f rfl rfl, yg m F fun i g hi hg => h (i + 1) g (by simpa using hi) (by simpa using hg)⟩
 | false :: m, f :: F, h => yg m F fun i g hi hg => h (i + 1) g (by simpa using hi) (by simpa using hg)
theorem xg {w : World} : ∀ (F : List (World → Prop)), (∀ (i : Nat) (f : World → Prop), F[i]? = some f → f w) → uT w F
 | [], _ => trivial
 | f :: F, h => ⟨h 0 f rfl, xg F fun i g hg => h (i + 1) g (by simpa using hg)⟩
theorem DD {n N : Nat} {ms : List (List Bool)} {all : List (Oper × Kind × List Bool)} {a0 a : Act} {L : Nat → Bool} {w : World} (ok : Ok ops n N ms all) (hN : a0.tmps.size = N) (inv : Inv P ops S n ms all a0 L a w)
 (hp : pass P ops I S G fin all a0 [] []) : ∀ j, j ≤ n → ∃ ac F vs, pass P ops I S G fin (all.drop j) ac F vs ∧ J4 ops n L a0 a j ac ∧ F.length = j ∧ (∀ (i : Nat) (f : World → Prop), L i = true → F[i]? = some f → f w) ∧
  ((∀ i x, i < j → all[i]? = some x → bF x.2.1 = 3 → L i = true) → vs = valsOf L a (all.take j) 0) := by
 intro j
 induction j with
 | zero => exact fun _ => ⟨a0, [], [], by simpa using hp, ⟨rfl, rfl, fun i o t hi => by omega, fun t _ => rfl⟩, rfl, fun i f _ h => by simp at h, fun _ => by simp [valsOf]⟩
 | succ j ih =>
   intro hj
   obtain ⟨ac, F, vs, gI, hag, hF, hf, hvs⟩ := ih (by omega)
   have hjl : j < all.length := by rw [ok.len]; omega
   obtain ⟨⟨o, k, m⟩, hall⟩ : ∃ x, all[j]? = some x := ⟨all[j], by simp [hjl]⟩
   obtain ⟨ho, _⟩ := ok.get j o k m hall
   have hdrop : all.drop j = (o, k, m) :: all.drop (j + 1) := by
    rw [List.drop_eq_getElem_cons hjl]
    rw [List.getElem?_eq_getElem hjl] at hall
    rw [Option.some.inj hall]
   have htake : all.take (j + 1) = all.take j ++ [(o, k, m)] := by
    rw [List.take_succ_eq_append_getElem hjl]
    rw [List.getElem?_eq_getElem hjl] at hall
    rw [Option.some.inj hall]
   rw [hdrop] at gI
   have Qb : (all.take j).length = j := by rw [List.length_take]; omega
   have hfn : ∀ (g : World → Prop), (L j = true → g w) → ∀ (i : Nat) (f : World → Prop), L i = true → (F ++ [g])[i]? = some f → f w := by
    intro g hg i f xe hfi
    rcases Nat.lt_or_ge i F.length with h | h
    ·rw [List.getElem?_append_left h] at hfi; exact hf i f xe hfi
    ·rw [List.getElem?_append_right h] at hfi
     have : i = j := by
      have := (List.getElem?_eq_some_iff.1 hfi).1
      simp at this; omega
     subst this
     rw [hF, Nat.sub_self] at hfi
     simp at hfi
     subst hfi
     exact hg xe
   have hv0 : bF k ≠ 3 → (∀ i x, i < j + 1 → all[i]? = some x → bF x.2.1 = 3 → L i = true) → vs = valsOf L a (all.take (j + 1)) 0 := by
    intro ht hx
    rw [htake, iT, Qb, hvs fun i x hi => hx i x (by omega)]
    simp [valsOf, ht]
   have hv3 : bF k = 3 → ∀ v, (L j = true → v = slot o a) → (∀ i x, i < j + 1 → all[i]? = some x → bF x.2.1 = 3 → L i = true) → vs ++ [v] = valsOf L a (all.take (j + 1)) 0 := by
    intro ht v hv hx
    have tL := hx j _ (by omega) hall ht
    rw [htake, iT, Qb, hvs fun i x hi => hx i x (by omega), hv tL]
    simp [valsOf, ht, tL]
   have hlk : L j = true → execOp ac.eval o = execOp a.eval o ∧ Region.wanted o (yielded ops ac.tmps) = Region.wanted o (yielded ops a.tmps) := fun tL =>
    xc (fun cs b => ok.TA j o (by omega) ho cs b) (hag.looks ok inv (by omega) ho fun i hi => inv.closed j i (by omega) tL hi)
   have hst : ∀ v, (L j = true → v = slot o a) → J4 ops n L a0 a (j + 1) (ac.put o.dst v) := fun v hv => hag.step ok hN inv.size (by omega) ho hv
   have lZ : ∀ (g : World → Prop), (F ++ [g]).length = j + 1 := fun g => by simp [hF]
   cases tL : L j with
   | false =>
     have hno : ∀ {p : Prop}, L j = true → p := fun h => by rw [tL] at h; cases h
     cases k with
     | pure =>
       obtain ⟨v, hy, hnx⟩ := gI
       exact ⟨_, _, _, hnx, hst v hno, lZ _, hfn _ hno, hv0 (by simp [bF])⟩
     | minor α d val Post =>
       cases hw : Region.wanted o (yielded ops ac.tmps) with
       | true => exact ⟨_, _, _, (gI.1 hw).2 d, hst _ hno, lZ _, hfn _ hno, hv0 (by simp [bF])⟩
       | false => exact ⟨_, _, _, gI.2 hw, hst _ hno, lZ _, hfn _ hno, hv0 (by simp [bF])⟩
     | pinned α d val Post =>
       cases hw : Region.wanted o (yielded ops ac.tmps) with
       | true => exact ⟨_, _, _, (gI.1 hw).2 d, hst _ hno, lZ _, hfn _ hno, hv0 (by simp [bF])⟩
       | false => exact ⟨_, _, _, gI.2 hw, hst _ hno, lZ _, hfn _ hno, hv0 (by simp [bF])⟩
     | major α d val =>
       cases hw : Region.wanted o (yielded ops ac.tmps) with
       | true => exact ⟨_, _, _, (gI.1 hw).2 d, hst _ hno, lZ _, hfn _ hno, hv3 rfl _ hno⟩
       | false => exact ⟨_, _, _, (gI.2 hw).2, hst _ hno, lZ _, hfn _ hno, hv3 rfl _ hno⟩
   | true =>
     obtain ⟨hex, hwt⟩ := hlk tL
     have hh := inv.holds j o k m tL hall
     cases k with
     | pure =>
       obtain ⟨v, hy, hnx⟩ := gI
       have hv : v = slot o a := G6 w hy (Yields.of_same (show Yields P ops o (slot o a) a from hh) hex hwt)
       exact ⟨_, _, _, hnx, hst v fun _ => hv, lZ _, hfn _ fun _ => trivial, hv0 (by simp [bF])⟩
     | minor α d val Post =>
       cases hw : Region.wanted o (yielded ops ac.tmps) with
       | true =>
         obtain ⟨x, hx, hpx⟩ := hh.1 (by rw [← hwt]; exact hw)
         exact ⟨_, _, _, (gI.1 hw).2 x, hst _ fun _ => hx.symm, lZ _, hfn _ fun _ => hpx, hv0 (by simp [bF])⟩
       | false =>
         have hu := hh.2 (by rw [← hwt]; exact hw)
         exact ⟨_, _, _, gI.2 hw, hst _ fun _ => hu.symm, lZ _, hfn _ fun _ => trivial, hv0 (by simp [bF])⟩
     | pinned α d val Post =>
       cases hw : Region.wanted o (yielded ops ac.tmps) with
       | true =>
         obtain ⟨x, hx, hpx⟩ := hh.1 (by rw [← hwt]; exact hw)
         exact ⟨_, _, _, (gI.1 hw).2 x, hst _ fun _ => hx.symm, lZ _, hfn _ fun _ => hpx, hv0 (by simp [bF])⟩
       | false =>
         have hu := hh.2 (by rw [← hwt]; exact hw)
         exact ⟨_, _, _, gI.2 hw, hst _ fun _ => hu.symm, lZ _, hfn _ fun _ => trivial, hv0 (by simp [bF])⟩
     | major α d val =>
       cases hw : Region.wanted o (yielded ops ac.tmps) with
       | true =>
         obtain ⟨x, hx⟩ := hh.1 (by rw [← hwt]; exact hw)
         exact ⟨_, _, _, (gI.1 hw).2 x, hst _ fun _ => hx.symm, lZ _, hfn _ fun _ => trivial, hv3 rfl _ fun _ => hx.symm⟩
       | false =>
         have hu := hh.2 (by rw [← hwt]; exact hw)
         exact ⟨_, _, _, (gI.2 hw).2, hst _ fun _ => hu.symm, lZ _, hfn _ fun _ => trivial, hv3 rfl _ fun _ => hu.symm⟩
theorem Qc {a : Act} {d : Tmp} (hlt : d < a.tmps.size) {u v : Value} (h : a.put (some d) u = a.put (some d) v) : u = v := by
 have := congrArg (fun b : Act => b.tmps[d]?) h
 simpa [Act.put, hlt] using this
theorem Fb {o : Oper} {a ac : Act} {w : World} {R : Value → World → Prop} {K : Act → World → Prop} {Q : Exit → Act → World → Prop} (hlt : ∀ d, o.dst = some d → d < ac.tmps.size)
 (h : One P ops o ac w R) (hex : execOp ac.eval o = execOp a.eval o) (hw : Region.wanted o (yielded ops ac.tmps) = true) (hK : ∀ v w', R v w' → K (a.put o.dst v) w') : o.wp P a w K Q := by
 unfold One wpList at h
 rw [if_pos hw] at h
 rcases h with h | ⟨_, a', w', h⟩
 case inr => exact h.elim
 unfold Oper.wp at *
 rw [hex] at h
 generalize (execOp a.eval o).run P w = r at *
 have key : ∀ u w', wpList P ops (Done o R ac) [] (ac.put o.dst u) w' → K (a.put o.dst u) w' := by
  intro u w' hn
  obtain ⟨v, hv, hR⟩ := hn
  cases hd : o.dst with
  | none => rw [← show a.put o.dst v = a.put none u by rw [hd]; rfl]; exact hK _ _ hR
  | some d =>
    rw [hd] at hv
    have := Qc (hlt d hd) hv
    subst this
    rw [← hd]
    exact hK _ _ hR
 cases r with
 | ok n w' =>
   cases n <;> simp only [Oper.upon] at h ⊢
   case value u => exact key _ _ h
   case skip => exact key _ _ h
   case defer x =>
    obtain ⟨v, hv, _⟩ := h
    have := congrArg (fun b : Act => b.defers.length) hv
    simp [put_defers] at this
   case enter f args =>
    refine Calls.mono h fun e w'' he => ?_
    cases e with
    | returned u => exact key _ _ he
    | panicked c => exact (he : False).elim
    | outgrown => obtain ⟨a', w', he⟩ := he; exact (he : False).elim
   case row row args => exact Rows.mono h fun u w'' he => key _ _ he
 | halt x w' =>
   cases x <;> simp only [Oper.upon] at h ⊢
   case panic u => exact (h : False).elim
def more (L : Nat → Bool) (i : Nat) : Nat → Bool := fun j => j == i || L j
theorem vR {L : Nat → Bool} {i : Nat} : more L i i = true := by simp [more]
theorem qN {L : Nat → Bool} {i j : Nat} (h : L j = true) : more L i j = true := by simp [more, h]
theorem zh {L : Nat → Bool} {i j : Nat} (h : more L i j = true) : j = i ∨ L j = true := by simpa [more] using h
theorem Ac {n N : Nat} {ms : List (List Bool)} {all : List (Oper × Kind × List Bool)} {i j : Nat} {o p : Oper} {k : Kind} {a : Act} {w w' : World} (ok : Ok ops n N ms all) (hi : i < n) (hj : j < n) (hne : i ≠ j)
 (ho : ops[i]? = some o) (hp : ops[j]? = some p) (hnot : at2 ms j i ≠ true) (v : Value)
 (hpost : ∀ α d val Post, (k = .minor α d val Post ∨ k = .pinned α d val Post) → ∀ x, Post x w → Post x w') (h : oU P ops p a w k) : oU P ops p (a.put o.dst v) w' k := by
 have vS : slot p (a.put o.dst v) = slot p a := vH (ok.apart i j o p hi hj hne ho hp) v
 have hlk : ∀ t, t ∈ p.looksAt ops → (a.put o.dst v).tmps[t]? = a.tmps[t]? := by
  intro t ht
  exact qM (fun hd => hnot (ok.looks j i p o t hj hi hp ho hd ht)) v
 obtain ⟨hex, hwt⟩ := xc (fun cs b => ok.TA j p hj hp cs b) hlk
 cases k with
 | pure => exact Yields.of_same (by rw [vS]; exact h) hex hwt
 | minor α dd val Post =>
   refine ⟨fun hw => ?_, fun hw => ?_⟩
   ·obtain ⟨x, hx, hpx⟩ := h.1 (by rw [← hwt]; exact hw)
    exact ⟨x, by rw [vS]; exact hx, hpost α dd val Post (Or.inl rfl) x hpx⟩
   ·rw [vS]; exact h.2 (by rw [← hwt]; exact hw)
 | pinned α dd val Post =>
   refine ⟨fun hw => ?_, fun hw => ?_⟩
   ·obtain ⟨x, hx, hpx⟩ := h.1 (by rw [← hwt]; exact hw)
    exact ⟨x, by rw [vS]; exact hx, hpost α dd val Post (Or.inr rfl) x hpx⟩
   ·rw [vS]; exact h.2 (by rw [← hwt]; exact hw)
 | major α dd val =>
   refine ⟨fun hw => ?_, fun hw => ?_⟩
   ·obtain ⟨x, hx⟩ := h.1 (by rw [← hwt]; exact hw)
    exact ⟨x, by rw [vS]; exact hx⟩
   ·rw [vS]; exact h.2 (by rw [← hwt]; exact hw)
theorem J5 {l : List (Oper × Kind × List Bool)} (h : stays G l) {j : Nat} {o : Oper} {k : Kind} {m : List Bool} (hj : l[j]? = some (o, k, m)) : rH G k := by
 induction l generalizing j with
 | nil => simp at hj
 | cons x l ih =>
   cases j with
   | zero => simp at hj; subst hj; exact h.1
   | succ j => exact ih h.2 (by simpa using hj)
theorem Inv.next {n N : Nat} {ms : List (List Bool)} {all : List (Oper × Kind × List Bool)} {a0 a : Act} {L : Nat → Bool} {w w' : World} {i : Nat} {o : Oper} {k : Kind} {m : List Bool} {v : Value}
 (ok : Ok ops n N ms all) (hN : a0.tmps.size = N) (inv : Inv P ops S n ms all a0 L a w) (hi : i < n) (xe : L i = false) (hall : all[i]? = some (o, k, m)) (hm : ∀ j, at2 ms i j = true → L j = true)
 (hpost : ∀ (j : Nat) (p : Oper) (k' : Kind) (m' : List Bool), all[j]? = some (p, k', m') → ∀ α d val Post, (k' = .minor α d val Post ∨ k' = .pinned α d val Post) → ∀ x, Post x w → Post x w')
 (Vj : o.dst = none → v = undef) (hself : oU P ops o (a.put o.dst v) w' k)
 (hS : S (if bF k = 3 then valsOf L a all 0 ++ [v] else valsOf L a all 0) w') : Inv P ops S n ms all a0 (more L i) (a.put o.dst v) w' := by
 obtain ⟨ho, _⟩ := ok.get i o k m hall
 have hsz : ∀ d, o.dst = some d → d < a.tmps.size := fun d hd => by rw [inv.size, hN]; exact ok.dst i o hi ho d hd
 have hjlt : ∀ (j : Nat) (p : Oper) (k' : Kind) (m' : List Bool), all[j]? = some (p, k', m') → j < n := fun j p k' m' hj => by rw [← ok.len]; exact (List.getElem?_eq_some_iff.1 hj).1
 refine ⟨(put_defers _ _ _).trans inv.defers, (DC _ _ _).trans inv.size, ?_, ?_, ?_, ?_⟩
 ·intro t ht
  rw [qM (ht i o hi vR ho)]
  exact inv.frame t fun j p hj tL hp => ht j p hj (qN tL) hp
 ·intro x j hx Vk hxj
  rcases zh Vk with rfl | Vk
  ·exact qN (hm j hxj)
  ·exact qN (inv.closed x j hx Vk hxj)
 ·intro j p k' m' tL hj
  rcases zh tL with rfl | tL
  ·rw [hall] at hj
   obtain ⟨rfl, rfl, rfl⟩ : o = p ∧ k = k' ∧ m = m' := by simpa using hj
   exact hself
  ·have hjn := hjlt j p k' m' hj
   have hne : i ≠ j := fun e => by subst e; rw [xe] at tL; cases tL
   refine Ac ok hi hjn hne ho (ok.get j p k' m' hj).1 (fun h => ?_) v (hpost j p k' m' hj) (inv.holds j p k' m' tL hj)
   have := inv.closed j i hjn tL h
   rw [xe] at this; cases this
 ·have hil : i < all.length := by rw [ok.len]; exact hi
  have hsplit : all = all.take i ++ (o, k, m) :: all.drop (i + 1) := by
   have h1 := List.drop_eq_getElem_cons hil
   rw [List.getElem?_eq_getElem hil] at hall
   rw [Option.some.inj hall] at h1
   rw [← h1, List.take_append_drop]
  have hlen : (all.take i).length = i := by rw [List.length_take]; omega
  have hval : valsOf (more L i) (a.put o.dst v) all 0 = if bF k = 3 then valsOf L a all 0 ++ [v] else valsOf L a all 0 := by
   have Qd : ∀ (l : List (Oper × Kind × List Bool)) (j0 : Nat), (∀ x y, l[x]? = some y → all[j0 + x]? = some y ∧ j0 + x ≠ i) → valsOf (more L i) (a.put o.dst v) l j0 = valsOf L a l j0 := by
    intro l j0 hl
    refine (vG l j0 fun x y hx ht => ?_).symm
    obtain ⟨h1, h2⟩ := hl x y hx
    refine ⟨by simp [more, h2], fun hL => ?_⟩
    obtain ⟨p, k', m'⟩ := y
    exact (vH (ok.apart i (j0 + x) o p hi (hjlt _ p k' m' h1) (Ne.symm h2) ho (ok.get _ p k' m' h1).1) v).symm
   have hA : valsOf (more L i) (a.put o.dst v) (all.take i) 0 = valsOf L a (all.take i) 0 := Qd _ 0 fun x y hx => by
    rw [List.getElem?_take] at hx
    split at hx
    ·exact ⟨by simpa using hx, by omega⟩
    ·cases hx
   have hB : valsOf (more L i) (a.put o.dst v) (all.drop (i + 1)) (i + 1) = valsOf L a (all.drop (i + 1)) (i + 1) := Qd _ (i + 1) fun x y hx => by
    rw [List.getElem?_drop] at hx
    exact ⟨hx, by omega⟩
   have e1 : valsOf (more L i) (a.put o.dst v) all 0 = valsOf L a (all.take i) 0 ++ ((if bF k = 3 then [v] else []) ++ valsOf L a (all.drop (i + 1)) (i + 1)) := by
    conv => lhs; rw [hsplit]
    rw [iT, hA, hlen]
    simp only [valsOf, Nat.zero_add, hB, vR, and_true]
    rw [jU Vj hsz]
   have e2 : valsOf L a all 0 = valsOf L a (all.take i) 0 ++ valsOf L a (all.drop (i + 1)) (i + 1) := by
    conv => lhs; rw [hsplit]
    rw [iT, hlen]
    simp [valsOf, xe]
   by_cases ht : bF k = 3
   ·have hC : valsOf L a (all.drop (i + 1)) (i + 1) = [] := by
     refine qc _ _ fun x y hx hy => ?_
     rw [List.getElem?_drop] at hx
     obtain ⟨p, k', m'⟩ := y
     have hjn := hjlt _ p k' m' hx
     rcases ok.Wt i (i + 1 + x) o k m p k' m' hall (Or.inl ht) hx hy (by omega) with h | h
     ·have := ow (ok.Dz i o hi ho) h; omega
     ·cases hL : L (i + 1 + x) with
      | false => rfl
      | true => have := inv.closed _ i hjn hL h; rw [xe] at this; cases this
    rw [e1, e2, hC]
    simp [ht]
   ·rw [e1, e2]
    simp [ht]
  rw [hval]
  exact hS
structure Qe (I : World → Prop) (S : List Value → World → Prop) (G : World → World → Prop) (all : List (Oper × Kind × List Bool)) : Prop where
 s : ∀ vs w w', Ext w w' → S vs w → S vs w'
 ie : ∀ w w', Ext w w' → I w → I w'
 ig : ∀ w w', G w w' → I w → I w'
 st : stays G all
theorem Ext.refl (w : World) : Ext w w := Below.refl _ _
theorem Nq {n N : Nat} {ms : List (List Bool)} {all : List (Oper × Kind × List Bool)} {a0 a : Act} {L : Nat → Bool} {w : World} {i : Nat} {K : Act → World → Prop} {Q : Exit → Act → World → Prop} (ok : Ok ops n N ms all) (hN : a0.tmps.size = N) (xh : Qe I S G all)
 (hp : pass P ops I S G fin all a0 [] []) (inv : Inv P ops S n ms all a0 L a w) (hI : I w) (hi : i < n) (xe : L i = false) (hm : ∀ j, at2 ms i j = true → L j = true)
 (hK : ∀ a' w', Inv P ops S n ms all a0 (more L i) a' w' → I w' → K a' w') : wpOp P ops Q i K a w := by
 obtain ⟨ac, F, vs, gI, hag, hF, hf, hvs⟩ := DD ok hN inv hp i (by omega)
 have hil : i < all.length := by rw [ok.len]; exact hi
 obtain ⟨⟨o, k, m⟩, hall⟩ : ∃ x, all[i]? = some x := ⟨all[i], by simp [hil]⟩
 obtain ⟨ho, hmm⟩ := ok.get i o k m hall
 have hlt := ok.dst i o hi ho
 have qb := ok.non i o k m hall
 have hdrop : all.drop i = (o, k, m) :: all.drop (i + 1) := by
  rw [List.drop_eq_getElem_cons hil]
  rw [List.getElem?_eq_getElem hil] at hall
  rw [Option.some.inj hall]
 rw [hdrop] at gI
 have AO : ∀ d, o.dst = some d → d < a.tmps.size := fun d hd => by rw [inv.size, hN]; exact hlt d hd
 have hcsz : ∀ d, o.dst = some d → d < ac.tmps.size := fun d hd => by rw [hag.size, hN]; exact hlt d hd
 obtain ⟨hex, hwt⟩ := xc (fun cs b => ok.TA i o hi ho cs b) (hag.looks ok inv hi ho hm)
 have hjlt : ∀ (j : Nat) (p : Oper) (k' : Kind) (m' : List Bool), all[j]? = some (p, k', m') → j < n := fun j p k' m' hj => by rw [← ok.len]; exact (List.getElem?_eq_some_iff.1 hj).1
 have hown : ∀ v, execOp (a.put o.dst v).eval o = execOp a.eval o ∧ Region.wanted o (yielded ops (a.put o.dst v).tmps) = Region.wanted o (yielded ops a.tmps) := fun v =>
  xc (fun cs b => ok.TA i o hi ho cs b) fun t ht => by
   refine qM (fun hd => ?_) v
   have h1 := ok.looks i i o o t hi hi ho ho hd ht
   have := ow (ok.Dz i o hi ho) h1
   omega
 have Fe : facts w m F := yg m F fun j f hj Yp => hf j f (hm j (by subst hmm; exact hj)) Yp
 have Vl : ∀ w', Ext w w' ∨ G w w' → ∀ (j : Nat) (p : Oper) (k' : Kind) (m' : List Bool), all[j]? = some (p, k', m') → ∀ α dd val Post, (k' = .minor α dd val Post ∨ k' = .pinned α dd val Post) → ∀ x, Post x w → Post x w' := by
  intro w' hw' j p k' m' hj α dd val Post hk x hx
  have hs := J5 xh.st hj
  rcases hk with rfl | rfl <;> rcases hw' with h | h
  ·exact hs.1 x w w' h hx
  ·exact hs.2 x w w' h hx
  ·exact hs.1 x w w' h hx
  ·exact hs.2 x w w' h hx
 have AP : (bF k = 3 ∨ bF k = 2) → vs = valsOf L a all 0 := by
  intro ht
  have hold : ∀ (j : Nat) (x : Oper × Kind × List Bool), j ≠ i → all[j]? = some x → bF x.2.1 = 3 → (j < i → L j = true) ∧ (i < j → L j = false) := by
   intro j x hne hj hx
   obtain ⟨p, k', m'⟩ := x
   have hjn := hjlt j p k' m' hj
   rcases ok.Wt i j o k m p k' m' hall ht hj hx (Ne.symm hne) with h | h
   ·have hji := ow (ok.Dz i o hi ho) h
    exact ⟨fun _ => hm j h, fun _ => by omega⟩
   ·have hji := ow (ok.Dz j p hjn (ok.get j p k' m' hj).1) h
    refine ⟨fun _ => by omega, fun _ => ?_⟩
    cases hL : L j with
    | false => rfl
    | true => have := inv.closed j i hjn hL h; rw [xe] at this; cases this
  rw [hvs fun j x hji hj hx => (hold j x (by omega) hj hx).1 hji]
  have hsplit : all = all.take i ++ all.drop i := (List.take_append_drop i all).symm
  have hlen : (all.take i).length = i := by rw [List.length_take]; omega
  conv => rhs; rw [hsplit]
  rw [iT, hlen, Nat.zero_add, qc (all.drop i) i fun x y hx hy => ?_, List.append_nil]
  rw [List.getElem?_drop] at hx
  by_cases h0 : x = 0
  ·subst h0; simpa using xe
  ·exact (hold (i + x) y (by omega) hx hy).2 (by omega)
 have other : ∀ v w', (o.dst = none → v = undef) → (Ext w w' ∨ G w w') → oU P ops o (a.put o.dst v) w' k → S (if bF k = 3 then valsOf L a all 0 ++ [v] else valsOf L a all 0) w' → K (a.put o.dst v) w' := by
  intro v w' Vj hw' hself hS
  refine hK _ _ (inv.next ok hN hi xe hall hm (Vl w' hw') Vj hself hS) ?_
  rcases hw' with h | h
  ·exact xh.ie w w' h hI
  ·exact xh.ig w w' h hI
 unfold wpOp
 simp only [ho]
 cases k with
 | pure =>
   obtain ⟨v, hy, _⟩ := gI
   have hya : Yields P ops o v a := hy.of_same hex.symm hwt.symm
   have hk := other v w (fun hn => absurd (qb hn) id) (Or.inl (Ext.refl w)) (by
    show Yields P ops o (slot o (a.put o.dst v)) (a.put o.dst v)
    rw [jU (fun hn => absurd (qb hn) id) AO]
    exact hya.of_same (hown v).1 (hown v).2) (by simpa [bF] using inv.state)
   rcases hya with ⟨hw, hv⟩ | ⟨hw, rfl⟩
   ·rw [if_pos hw]; left; simp only [Oper.wp, hv w, Oper.upon]; exact hk
   ·rw [if_neg (by simp [hw])]; exact hk
 | minor α dd val Post =>
   cases hw : Region.wanted o (yielded ops ac.tmps) with
   | true =>
     rw [if_pos (by rw [← hwt]; exact hw)]
     left
     refine Fb hcsz ((gI.1 hw).1 w hI Fe) hex hw fun v w' ⟨⟨x, hx, hpx⟩, he⟩ => ?_
     refine other v w' (fun hn => absurd (qb hn) id) (Or.inl he) ⟨fun _ => ⟨x, by rw [jU (fun hn => absurd (qb hn) id) AO]; exact hx, hpx⟩, fun h => ?_⟩ (by simpa [bF] using xh.s _ w w' he inv.state)
     rw [(hown v).2, ← hwt, hw] at h; cases h
   | false =>
     rw [if_neg (by rw [← hwt]; simp [hw])]
     refine other undef w (fun hn => absurd (qb hn) id) (Or.inl (Ext.refl w)) ⟨fun h => ?_, fun _ => jU (fun hn => absurd (qb hn) id) AO⟩ (by simpa [bF] using inv.state)
     rw [(hown undef).2, ← hwt, hw] at h; cases h
 | pinned α dd val Post =>
   cases hw : Region.wanted o (yielded ops ac.tmps) with
   | true =>
     rw [if_pos (by rw [← hwt]; exact hw)]
     left
     refine Fb hcsz ((gI.1 hw).1 w hI (by rw [AP (Or.inr rfl)]; exact inv.state) Fe) hex hw fun v w' ⟨⟨x, hx, hpx⟩, he⟩ => ?_
     refine other v w' (fun hn => absurd (qb hn) id) (Or.inl he) ⟨fun _ => ⟨x, by rw [jU (fun hn => absurd (qb hn) id) AO]; exact hx, hpx⟩, fun h => ?_⟩ (by simpa [bF] using xh.s _ w w' he inv.state)
     rw [(hown v).2, ← hwt, hw] at h; cases h
   | false =>
     rw [if_neg (by rw [← hwt]; simp [hw])]
     refine other undef w (fun hn => absurd (qb hn) id) (Or.inl (Ext.refl w)) ⟨fun h => ?_, fun _ => jU (fun hn => absurd (qb hn) id) AO⟩ (by simpa [bF] using inv.state)
     rw [(hown undef).2, ← hwt, hw] at h; cases h
 | major α dd val =>
   cases hw : Region.wanted o (yielded ops ac.tmps) with
   | true =>
     rw [if_pos (by rw [← hwt]; exact hw)]
     left
     refine Fb hcsz ((gI.1 hw).1 w hI (by rw [AP (Or.inl rfl)]; exact inv.state) Fe) hex hw fun v w' ⟨⟨⟨x, hx⟩, hS⟩, hg⟩ => ?_
     refine other v w' (fun hn => by rw [hx]; exact qb hn x) (Or.inr hg) ⟨fun _ => ⟨x, by rw [jU (fun hn => by rw [hx]; exact qb hn x) AO]; exact hx⟩, fun h => ?_⟩ (by rw [AP (Or.inl rfl)] at hS; simpa [bF] using hS)
     rw [(hown v).2, ← hwt, hw] at h; cases h
   | false =>
     rw [if_neg (by rw [← hwt]; simp [hw])]
     have hS := (gI.2 hw).1 w hI (by rw [AP (Or.inl rfl)]; exact inv.state)
     rw [AP (Or.inl rfl)] at hS
     refine other undef w (fun _ => rfl) (Or.inl (Ext.refl w)) ⟨fun h => ?_, fun _ => jU (fun _ => rfl) AO⟩ (by simpa [bF] using hS)
     rw [(hown undef).2, ← hwt, hw] at h; cases h
def Last (P : Program) (ops : Array Oper) (I : World → Prop) (S : List Value → World → Prop) (Q : Exit → Act → World → Prop) (n : Nat) (a : Act) (F : List (World → Prop)) (vs : List Value) : Prop :=
 ∀ w, I w → S vs w → uT w F → wpList P ops Q (ops.toList.drop n) a w
theorem Qf {a b : Act} (h1 : a.defers = b.defers) (hs : a.tmps.size = b.tmps.size) (h : ∀ t : Nat, a.tmps[t]? = b.tmps[t]?) : a = b := by
 obtain ⟨at_, ad⟩ := a
 obtain ⟨bt, bd⟩ := b
 simp only at h1 hs h
 subst h1
 congr 1
 apply Array.ext hs
 intro i hi hi'
 have := h i
 simpa [hi, hi'] using this
theorem Nr {n N : Nat} {ms : List (List Bool)} {all : List (Oper × Kind × List Bool)} {a0 a : Act} {L : Nat → Bool} {w : World} {Q : Exit → Act → World → Prop} (ok : Ok ops n N ms all) (hN : a0.tmps.size = N)
 (hp : pass P ops I S G (Last P ops I S Q n) all a0 [] []) (inv : Inv P ops S n ms all a0 L a w) (hI : I w) (hL : ∀ j, j < n → L j = true) : wpList P ops Q (ops.toList.drop n) a w := by
 obtain ⟨ac, F, vs, gI, hag, hF, hf, hvs⟩ := DD ok hN inv hp n (Nat.le_refl _)
 have hd : all.drop n = [] := List.drop_eq_nil_of_le (by rw [ok.len]; exact Nat.le_refl _)
 rw [hd] at gI
 have hv : vs = valsOf L a all 0 := by
  rw [hvs fun i x hi _ _ => hL i hi, List.take_of_length_le (by rw [ok.len]; exact Nat.le_refl _)]
 have hac : ac = a := by
  refine Qf (hag.defers.trans inv.defers.symm) (hag.size.trans inv.size.symm) fun t => ?_
  by_cases hx : ∃ (i : Nat) (p : Oper), i < n ∧ ops[i]? = some p ∧ p.dst = some t
  ·obtain ⟨i, p, hin, hp, hdt⟩ := hx
   exact hag.done i p t hin hin (hL i hin) hp hdt
  ·rw [hag.rest t fun i p _ hin hp hdt => hx ⟨i, p, hin, hp, hdt⟩, inv.frame t fun i p hin _ hp hdt => hx ⟨i, p, hin, hp, hdt⟩]
 subst hac
 exact gI w hI (by rw [hv]; exact inv.state) (xg F fun i f hi => hf i f (hL i (by have := (List.getElem?_eq_some_iff.1 hi).1; omega)) hi)
theorem DF {f : Nat → Bool} : ∀ n, (∃ j, j < n ∧ f j = false) → ∃ j, j < n ∧ f j = false ∧ ∀ i, i < j → f i = true
 | 0, ⟨j, h, _⟩ => by omega
 | n + 1, ⟨j, hj, hf⟩ => by
   by_cases hx : ∃ i, i < n ∧ f i = false
   ·obtain ⟨i, hi, h1, h2⟩ := DF n hx
    exact ⟨i, by omega, h1, h2⟩
   ·have hjn : j = n := by
     rcases Nat.lt_or_ge j n with h | h
     ·exact (hx ⟨j, h, hf⟩).elim
     ·omega
    subst hjn
    refine ⟨j, hj, hf, fun i hi => ?_⟩
    cases h : f i with
    | true => rfl
    | false => exact (hx ⟨i, hi, h⟩).elim
theorem AQ {l : Array Bool} {i : Nat} (h : l.getD i true = false) : i < l.size := by
 rcases Nat.lt_or_ge i l.size with h' | h'
 ·exact h'
 ·simp [Array.getElem?_eq_none h'] at h
theorem uU {l : Array Bool} {i : Nat} (h : i < l.size) (d d' : Bool) : l.getD i d = l.getD i d' := by simp [h]
theorem DI {l : Array Bool} {i : Nat} (h : i < l.size) : (fun j => (l.setIfInBounds i true).getD j false) = more (fun j => l.getD j false) i := by
 funext j
 by_cases hij : i = j
 ·subst hij; simp [more, h]
 ·have : (j == i) = false := by simp [Ne.symm hij]
  simp only [more, this, Bool.false_or]
  exact getD_set_ne false hij
theorem count_set {l : Array Bool} {i : Nat} (h : l.getD i true = false) : (l.setIfInBounds i true).toList.count false + 1 = l.toList.count false := by
 have hi := AQ h
 have hl : l[i] = false := by simpa [hi] using h
 have hpos : 0 < l.toList.count false := List.count_pos_iff.2 (by rw [← hl]; exact Array.mem_toList_iff.2 (Array.getElem_mem hi))
 rw [Array.toList_setIfInBounds, List.count_set (by simpa using hi)]
 have e : (l.toList[i]'(by simpa using hi) == false) = true := by simp [hl]
 rw [if_pos e, if_neg (by decide)]
 omega
theorem Ns {n N : Nat} {ms : List (List Bool)} {all : List (Oper × Kind × List Bool)} {a0 : Act} {Q : Exit → Act → World → Prop} (ok : Ok ops n N ms all) (hN : a0.tmps.size = N) (xh : Qe I S G all)
 (hp : pass P ops I S G (Last P ops I S Q n) all a0 [] []) : ∀ (fuel : Nat) (listed : Array Bool) (a : Act) (w : World), listed.size = ops.size → listed.toList.count false ≤ fuel →
  (((∃ j, j < n ∧ listed.getD j false = false) ∧ Inv P ops S n ms all a0 (fun j => listed.getD j false) a w ∧ I w) ∨
    ∃ k, n ≤ k ∧ k ≤ ops.size ∧ (∀ j, j < k → listed.getD j false = true) ∧ (∀ j, k ≤ j → listed.getD j false = false) ∧ wpList P ops Q (ops.toList.drop k) a w) →
  (∀ j, n ≤ j → (∃ i, i < n ∧ listed.getD i false = false) → listed.getD j false = false) → wpAny P .any ops Q fuel listed a w := by
 intro fuel
 have yh : ∀ {listed : Array Bool} {i : Nat}, listed.size = ops.size → i ∈ Region.ready .any ops listed → ∃ o, ops[i]? = some o ∧ i < listed.size ∧ listed.getD i false = false ∧ ∀ e ∈ o.after, Region.binds .any e = true → listed.getD e.on false = true := by
  intro listed i hs h
  obtain ⟨h0, o, ho, hall⟩ := mem_ready.1 h
  have hlt := AQ h0
  exact ⟨o, ho, hlt, by rw [uU hlt false true]; exact h0, hall⟩
 have DJ : ∀ {listed : Array Bool} {j : Nat}, listed.size = ops.size → j < ops.size → listed.getD j false = false → (∀ i, i < j → listed.getD i false = true) → j ∈ Region.ready .any ops listed := by
  intro listed j hs hj hf hbe
  refine mem_ready.2 ⟨by rw [uU (by omega) true false]; exact hf, ops[j], by simp [hj], fun e he hb => hbe _ (ok.back j ops[j] (by simp [hj]) e he hb)⟩
 induction fuel with
 | zero =>
   intro listed a w hs hc Ff _
   have hnone : ∀ j, j < ops.size → listed.getD j false = true := by
    intro j hj
    have hj' : j < listed.size := by omega
    have h0 : ¬ false ∈ listed.toList := fun h => by have := List.count_pos_iff.2 h; omega
    have : listed[j] ≠ false := fun e => h0 (by rw [← e]; exact Array.mem_toList_iff.2 (Array.getElem_mem hj'))
    simpa [hj'] using this
   have hr : Region.ready .any ops listed = [] := by
    cases hx : Region.ready .any ops listed with
    | nil => rfl
    | cons i l =>
      obtain ⟨o, ho, _, hf, _⟩ := yh hs (by rw [hx]; exact List.mem_cons_self ..)
      have := hnone i (Array.getElem?_eq_some_iff.1 ho).1
      rw [hf] at this; cases this
   refine ⟨hr, ?_⟩
   rcases Ff with ⟨⟨j, hj, hf⟩, _⟩ | ⟨k, hnk, hks, _, hafter, hl⟩
   ·have := hnone j (by have := ok.le; omega)
    rw [hf] at this; cases this
   ·have hk : k = ops.size := by
     rcases Nat.lt_or_ge k ops.size with h | h
     ·have h1 := hnone k h; rw [hafter k (Nat.le_refl _)] at h1; cases h1
     ·omega
    rw [List.drop_eq_nil_of_le (by rw [Array.length_toList, hk]; exact Nat.le_refl _)] at hl
    exact hl
 | succ fuel ih =>
   intro listed a w hs hc Ff J6
   rcases Ff with ⟨hex, inv, hI⟩ | ⟨k, hnk, hks, xk, hafter, hl⟩
   ·obtain ⟨j0, hj0, hf0, hb0⟩ := DF n hex
    have UC := DJ (j := j0) hs (by have := ok.le; omega) hf0 hb0
    refine ⟨fun h => (by rw [h] at UC; cases UC), fun i hi => ?_⟩
    obtain ⟨o, ho, hil, hif, Fg⟩ := yh hs hi
    have hin : i < n := by
     rcases Nat.lt_or_ge i n with h | h
     ·exact h
     ·obtain ⟨e, he, hb, hon⟩ := ok.tail i o j0 h ho (by omega)
      have := Fg e he hb
      rcases hon with hon | ⟨hon, hat⟩ | ⟨hon, _⟩
      ·rw [hon, hf0] at this; cases this
      ·have h2 := inv.closed e.on j0 hon this hat
       have h2 : listed.getD j0 false = true := h2
       rw [hf0] at h2; cases h2
      ·rw [J6 e.on hon hex] at this; cases this
    have hm : ∀ j, at2 ms i j = true → (fun j => listed.getD j false) j = true := by
     intro j hj
     obtain ⟨e, he, hb, hon⟩ := ok.ahead i o j hin ho hj
     have h1 := Fg e he hb
     rcases hon with rfl | hon
     ·exact h1
     ·exact inv.closed e.on j (by have := ok.back i o ho e he hb; omega) h1 hon
    refine Nq ok hN xh hp inv hI hin hif hm fun a' w' UD hI' => ?_
    have hset : (fun j => (listed.setIfInBounds i true).getD j false) = more (fun j => listed.getD j false) i := DI hil
    have hcnt := count_set (l := listed) (i := i) (by rw [uU hil true false]; exact hif)
    refine ih _ a' w' (by simpa using hs) (by omega) ?_ ?_
    ·by_cases hall : ∀ j, j < n → more (fun j => listed.getD j false) i j = true
     ·right
      refine ⟨n, Nat.le_refl _, ok.le, fun j hj => ?_, fun j hj => ?_, Nr ok hN hp UD hI' hall⟩
      ·have := congrFun hset j; rw [this]; exact hall j hj
      ·have := congrFun hset j
       rw [this]
       have h1 := J6 j hj hex
       have : (j == i) = false := by simp; omega
       simp only [more, this, Bool.false_or]
       exact h1
     ·left
      refine ⟨?_, by rw [hset]; exact UD, hI'⟩
      have ⟨j, hj⟩ := Classical.not_forall.1 hall
      have ⟨hjn, hj2⟩ := Classical.not_imp.1 hj
      exact ⟨j, hjn, by have := congrFun hset j; rw [this]; simpa using hj2⟩
    ·intro j hj _
     have := congrFun hset j
     rw [this]
     have h1 := J6 j hj hex
     have : (j == i) = false := by simp; omega
     simp only [more, this, Bool.false_or]
     exact h1
   ·refine ⟨fun h => ?_, fun i hi => ?_⟩
    ·have hk : k = ops.size := by
      rcases Nat.lt_or_ge k ops.size with hlt | hge
      ·have := DJ hs hlt (hafter k (Nat.le_refl _)) xk
       rw [h] at this; cases this
      ·omega
     rw [List.drop_eq_nil_of_le (by rw [Array.length_toList, hk]; exact Nat.le_refl _)] at hl
     exact hl
    ·obtain ⟨o, ho, hil, hif, Fg⟩ := yh hs hi
     have hki : k ≤ i := by
      rcases Nat.lt_or_ge i k with h | h
      ·have := xk i h; rw [hif] at this; cases this
      ·exact h
     have hik : i = k := by
      rcases Nat.lt_or_ge k i with h | h
      ·obtain ⟨e, he, hb, hon⟩ := ok.tail i o k (by omega) ho h
       have := Fg e he hb
       rcases hon with hon | ⟨hon, hat⟩ | ⟨_, hon⟩
       ·rw [hon, hafter k (Nat.le_refl _)] at this; cases this
       ·obtain ⟨oe, hoe⟩ : ∃ oe, ops[e.on]? = some oe := ⟨_, Array.getElem?_eq_getElem (by have := ok.le; omega)⟩
        have := ow (ok.Dz e.on oe hon hoe) hat
        omega
       ·rw [hafter e.on (by omega)] at this; cases this
      ·omega
     subst hik
     have hilt : i < ops.toList.length := by rw [Array.length_toList]; exact (Array.getElem?_eq_some_iff.1 ho).1
     have Vm : ops.toList.drop i = o :: ops.toList.drop (i + 1) := by
      rw [List.drop_eq_getElem_cons hilt]
      have h1 := ho
      rw [← Array.getElem?_toList, List.getElem?_eq_getElem hilt] at h1
      rw [Option.some.inj h1]
     rw [Vm] at hl
     have hset : (fun j => (listed.setIfInBounds i true).getD j false) = more (fun j => listed.getD j false) i := DI hil
     have hcnt := count_set (l := listed) (i := i) (by rw [uU hil true false]; exact hif)
     have hw : wpOp P ops Q i (wpList P ops Q (ops.toList.drop (i + 1))) a w := by
      unfold wpOp
      simp only [ho]
      exact hl
     refine wpOp_mono (fun a' w' h => ih _ a' w' (by simpa using hs) (by omega) (Or.inr ⟨i + 1, by omega, by rw [Array.length_toList] at hilt; omega, fun j hj => ?_, fun j hj => ?_, h⟩) ?_) hw
     ·have := congrFun hset j
      rw [this]
      by_cases hji : j = i
      ·subst hji; exact vR
      ·exact qN (xk j (by omega))
     ·have := congrFun hset j
      rw [this]
      have : (j == i) = false := by simp; omega
      simp only [more, this, Bool.false_or]
      exact hafter j (by omega)
     ·rintro j hj ⟨x, hx, Vn⟩
      have := congrFun hset x
      rw [this] at Vn
      have h2 := xk x (by omega)
      rw [qN h2] at Vn; cases Vn
theorem region {n N : Nat} {ms : List (List Bool)} (all : List (Oper × Kind × List Bool)) {a : Act} {w : World} {id : Nat} {Q : Exit → Act → World → Prop} (I : World → Prop) (S : List Value → World → Prop) (G : World → World → Prop)
 (hm : P.follows .mixedOrders = true) (ok : Ok ops n N ms all) (hN : a.tmps.size = N) (xh : Qe I S G all) (hn : 0 < n) (hI : I w.drew) (hS : S [] w.drew)
 (hp : pass P ops I S G (Last P ops I S Q n) all a [] []) : (Code.region id ops true).wp P Q a w := by
 refine wp_region_any hm ?_
 show wpAny P .any ops Q ops.size (Array.replicate ops.size false) a w.drew
 have Fh : ∀ j, (Array.replicate ops.size false).getD j false = false := by
  intro j
  rcases Nat.lt_or_ge j ops.size with h | h
  ·simp [h]
  ·simp [Array.getElem?_eq_none (xs := Array.replicate ops.size false) (i := j) (by simpa using h)]
 refine Ns ok hN xh hp ops.size _ a w.drew (by simp) (by simp) (Or.inl ⟨⟨0, hn, Fh 0⟩, ?_, hI⟩) fun j _ _ => Fh j
 have hL : (fun j => (Array.replicate ops.size false).getD j false) = fun _ => false := funext Fh
 rw [hL]
 refine ⟨rfl, rfl, fun t _ => rfl, fun i j _ h => (nomatch h), fun j o k m h => (nomatch h), ?_⟩
 rw [qc all 0 fun i x _ _ => rfl]
 exact hS
def mk (ops : Array Oper) (n : Nat) (ks : List Kind) (ms : List (List Bool)) : List (Oper × Kind × List Bool) := (ops.toList.take n).zip (ks.zip ms)
def Fj : List (Oper × Kind × List Bool) → Prop
 | x :: r => (x.1.dst = none → silent x.2.1) ∧ Fj r
 | [] => True
theorem AR : ∀ {l : List (Oper × Kind × List Bool)}, Fj l → ∀ x ∈ l, x.1.dst = none → silent x.2.1
 | [], _, _, hx => nomatch hx
 | y :: l, h, x, hx => by
   rcases List.mem_cons.1 hx with rfl | hx
   ·exact h.1
   ·exact AR h.2 x hx
theorem rJ (n N : Nat) (ms : List (List Bool)) (tags : List Nat) (ks : List Kind) {a : Act} {w : World} {id : Nat} {Q : Exit → Act → World → Prop} (I : World → Prop) (S : List Value → World → Prop) (G : World → World → Prop)
 (hm : P.follows .mixedOrders = true) (hok : (okB ops n N ms tags && (ms.length == n) && (tags.length == n) && decide (0 < n)) = true) (yj : ks.map bF = tags) (hN : a.tmps.size = N)
 (hs : ∀ vs w w', Ext w w' → S vs w → S vs w') (hie : ∀ w w', Ext w w' → I w → I w') (hig : ∀ w w', G w w' → I w → I w') (hst : stays G (mk ops n ks ms)) (hnn : Fj (mk ops n ks ms)) (hI : I w.drew) (hS : S [] w.drew)
 (hp : pass P ops I S G (Last P ops I S Q n) (mk ops n ks ms) a [] []) : (Code.region id ops true).wp P Q a w := by
 simp only [Bool.and_eq_true, beq_iff_eq, decide_eq_true_eq] at hok
 obtain ⟨⟨⟨hok, vT⟩, htl⟩, hn⟩ := hok
 have hle : n ≤ ops.size := by
  unfold okB at hok
  rw [Bool.and_eq_true] at hok
  simpa using hok.1
 have hkl : ks.length = n := by rw [← htl, ← yj, List.length_map]
 have h1 : (mk ops n ks ms).map (·.1) = ops.toList.take n := by
  unfold mk
  rw [List.map_fst_zip]
  rw [List.length_zip, List.length_take, hkl, vT]; omega
 have hl0 : (ops.toList.take n).length = n := by rw [List.length_take, Array.length_toList]; omega
 have h2 : (mk ops n ks ms).map (·.2) = ks.zip ms := by
  unfold mk
  rw [List.map_snd_zip]
  rw [List.length_zip, hl0, hkl, vT]; omega
 have h3 : (mk ops n ks ms).map (·.2.2) = ms := by
  have : (mk ops n ks ms).map (·.2.2) = ((mk ops n ks ms).map (·.2)).map (·.2) := by rw [List.map_map]; rfl
  rw [this, h2, List.map_snd_zip]
  omega
 have h4 : (mk ops n ks ms).map (fun x => bF x.2.1) = tags := by
  have : (mk ops n ks ms).map (fun x => bF x.2.1) = (((mk ops n ks ms).map (·.2)).map (·.1)).map bF := by rw [List.map_map, List.map_map]; rfl
  rw [this, h2, List.map_fst_zip, yj]
  omega
 exact region _ I S G hm (Qa _ (by rw [h4]; exact hok) h1 h3 (AR hnn)) hN ⟨hs, hie, hig, hst⟩ hn hI hS hp
theorem rM (k N : Nat) (ms : List (List Bool)) (tags : List Nat) (ks : List Kind) {a : Act} {w : World} {id : Nat} {Q : Exit → Act → World → Prop} (I : World → Prop) (S : List Value → World → Prop) (G : World → World → Prop)
 (hm : P.follows .mixedOrders = true) (hok : ((okB ops k N ms tags && (ms.length == k) && (tags.length == k) && decide (0 < k)) && (ops.toList.take k).all (fun o => o.dst.isSome)) = true) (yj : ks.map bF = tags) (hN : a.tmps.size = N)
 (hs : ∀ vs w w', Ext w w' → S vs w → S vs w') (hie : ∀ w w', Ext w w' → I w → I w') (hig : ∀ w w', G w w' → I w → I w') (hst : stays G (mk ops k ks ms)) (hI : I w.drew) (hS : S [] w.drew)
 (hp : pass P ops I S G (Last P ops I S Q k) (mk ops k ks ms) a [] []) : (Code.region id ops true).wp P Q a w := by
 have h := Bool.and_eq_true_iff.1 hok
 refine rJ (P := P) (ops := ops) k N ms tags ks I S G hm h.1 yj hN hs hie hig hst ?_ hI hS hp
 have key : ∀ l : List (Oper × Kind × List Bool), (∀ x ∈ l, x.1.dst.isSome = true) → Fj l := by
  intro l
  induction l with
  | nil => intro _; trivial
  | cons x l ih => exact fun hl => ⟨fun e => (by have := hl x List.mem_cons_self; rw [e] at this; cases this), ih fun z hz => hl z (List.mem_cons_of_mem _ hz)⟩
 exact key _ fun x hx => List.all_eq_true.1 h.2 x.1 (List.of_mem_zip (a := x.1) (b := x.2) hx).1
inductive RC where
 | p (n : Nat)
 | m (n : Nat)
def row (i n : Nat) : List Bool := (List.range i).map n.testBit
def tg : RC → Nat | .p _ => 0 | .m _ => 1
def rows : Nat → List RC → List (List Bool)
 | i, .p n :: cs => row i n :: rows (i + 1) cs
 | i, .m n :: cs => row i n :: rows (i + 1) cs
 | _, [] => []
def need : List RC → Nat
 | .p _ :: cs => need cs
 | .m _ :: cs => need cs + 1
 | [] => 0
def gU : List Oper → Nat → List RC → List Value → List (Oper × Kind × List Bool)
 | o :: os, i, .p n :: cs, vs => (o, .pure, row i n) :: gU os (i + 1) cs vs
 | o :: os, i, .m n :: cs, v :: vs => (o, .minor Unit () (fun _ => v) (fun _ _ => True), row i n) :: gU os (i + 1) cs vs
 | _, _, _, _ => []
theorem AU (G : World → World → Prop) : ∀ (cs : List RC) (os : List Oper) (i : Nat) (vs : List Value), cs.length ≤ os.length → need cs = vs.length →
 (gU os i cs vs).map (·.1) = os.take cs.length ∧ (gU os i cs vs).map (fun x => bF x.2.1) = cs.map tg ∧ (gU os i cs vs).map (·.2.2) = rows i cs ∧ stays G (gU os i cs vs)
 | [], os, i, vs, _, _ => by cases os <;> exact ⟨rfl, rfl, rfl, trivial⟩
 | .p n :: cs, [], i, vs, h, _ => by simp at h
 | .m n :: cs, [], i, vs, h, _ => by simp at h
 | .p n :: cs, o :: os, i, vs, h, hv => by
   obtain ⟨h1, h2, h3, h4⟩ := AU G cs os (i + 1) vs (by simpa using h) hv
   exact ⟨congrArg (List.cons o) h1, congrArg (List.cons 0) h2, congrArg (List.cons (row i n)) h3, trivial, h4⟩
 | .m n :: cs, o :: os, i, [], h, hv => by simp [need] at hv
 | .m n :: cs, o :: os, i, v :: vs, h, hv => by
   obtain ⟨h1, h2, h3, h4⟩ := AU G cs os (i + 1) vs (by simpa using h) (by simpa [need] using hv)
   exact ⟨congrArg (List.cons o) h1, congrArg (List.cons 1) h2, congrArg (List.cons (row i n)) h3, ⟨fun _ _ _ _ _ => trivial, fun _ _ _ _ _ => trivial⟩, h4⟩
def Wu (ops : Array Oper) (n N : Nat) (cs : List RC) : Bool :=
 okB ops n N (rows 0 cs) (cs.map tg) && decide (n ≤ ops.size) && decide (0 < n) && (cs.length == n) && (ops.toList.take n).all (fun o => o.dst.isSome)
theorem ro (w0 : World) (n N : Nat) (cs : List RC) (vs : List Value) {a : Act} {w : World} {id : Nat} {Q : Exit → Act → World → Prop}
 (hm : P.follows .mixedOrders = true) (hok : Wu ops n N cs = true) (hk : need cs = vs.length) (hN : a.tmps.size = N) (hI : Below w0.heap.size w0 w.drew)
 (hp : pass P ops (fun W => Below w0.heap.size w0 W) (fun _ _ => True) (fun a b => Below a.heap.size a b) (Last P ops (fun W => Below w0.heap.size w0 W) (fun _ _ => True) Q n) (gU ops.toList 0 cs vs) a [] []) : (Code.region id ops true).wp P Q a w := by
 unfold Wu at hok
 simp only [Bool.and_eq_true, beq_iff_eq, decide_eq_true_eq] at hok
 obtain ⟨⟨⟨⟨hok, hle⟩, h0⟩, rfl⟩, hd⟩ := hok
 obtain ⟨h1, h2, h3, h4⟩ := AU (fun a b => Below a.heap.size a b) cs ops.toList 0 vs (by simpa using hle) hk
 exact region (P := P) (ops := ops) (gU ops.toList 0 cs vs) (fun W => Below w0.heap.size w0 W) (fun _ _ => True) (fun a b => Below a.heap.size a b) hm
  (Qa (ops := ops) (by rw [h2]; exact hok) h1 h3 fun x hx e => (by
   have hx1 : x.1 ∈ ops.toList.take cs.length := by rw [← h1]; exact List.mem_map_of_mem hx
   have := List.all_eq_true.1 hd x.1 hx1
   rw [e] at this; cases this)) hN
  ⟨fun _ _ _ _ _ => trivial, fun _ _ he hb => hb.trans (Below.mono he hb.size), fun _ _ he hb => hb.trans (Below.mono he hb.size), h4⟩ h0 hI trivial hp
section
variable {o : Oper} {m : List Bool} {r : List (Oper × Kind × List Bool)} {a : Act} {F : List (World → Prop)} {vs : List Value}
theorem Vo (v : Value) (h : Yields P ops o v a) (hn : pass P ops I S G fin r (a.put o.dst v) (F ++ [ku]) vs) : pass P ops I S G fin ((o, .pure, m) :: r) a F vs := ⟨v, h, hn⟩
theorem ak (v : Value) (hw : Region.wanted o (yielded ops a.tmps) = true) (h : ∀ w, (execOp a.eval o).run P w = .ok (.value v) w) (hn : pass P ops I S G fin r (a.put o.dst v) (F ++ [ku]) vs) : pass P ops I S G fin ((o, .pure, m) :: r) a F vs := ⟨v, Or.inl ⟨hw, h⟩, hn⟩
theorem uV (hw : Region.wanted o (yielded ops a.tmps) = false) (hn : pass P ops I S G fin r (a.put o.dst undef) (F ++ [ku]) vs) : pass P ops I S G fin ((o, .pure, m) :: r) a F vs := ⟨undef, Or.inr ⟨hw, rfl⟩, hn⟩
theorem au {α : Type} {d : α} {val : α → Value} {Post : α → World → Prop} (hw : Region.wanted o (yielded ops a.tmps) = true) (h : ∀ w, I w → facts w m F → One P ops o a w fun v w' => (∃ x : α, v = val x ∧ Post x w') ∧ Ext w w')
 (hn : ∀ x : α, pass P ops I S G fin r (a.put o.dst (val x)) (F ++ [Post x]) vs) : pass P ops I S G fin ((o, .minor α d val Post, m) :: r) a F vs := ⟨fun _ => ⟨h, hn⟩, fun h' => by rw [hw] at h'; cases h'⟩
theorem l8 {α : Type} {d : α} {val : α → Value} {Post : α → World → Prop} (hw : Region.wanted o (yielded ops a.tmps) = false)
 (hn : pass P ops I S G fin r (a.put o.dst undef) (F ++ [ku]) vs) : pass P ops I S G fin ((o, .minor α d val Post, m) :: r) a F vs := ⟨fun h' => (by rw [hw] at h'; cases h'), fun _ => hn⟩
theorem Fp {α : Type} {d : α} {val : α → Value} {Post : α → World → Prop} (hw : Region.wanted o (yielded ops a.tmps) = true) (h : ∀ w, I w → S vs w → facts w m F → One P ops o a w fun v w' => (∃ x : α, v = val x ∧ Post x w') ∧ Ext w w')
 (hn : ∀ x : α, pass P ops I S G fin r (a.put o.dst (val x)) (F ++ [Post x]) vs) : pass P ops I S G fin ((o, .pinned α d val Post, m) :: r) a F vs := ⟨fun _ => ⟨h, hn⟩, fun h' => by rw [hw] at h'; cases h'⟩
theorem PH {α : Type} {d : α} {val : α → Value} {Post : α → World → Prop} (hw : Region.wanted o (yielded ops a.tmps) = false)
 (hn : pass P ops I S G fin r (a.put o.dst undef) (F ++ [ku]) vs) : pass P ops I S G fin ((o, .pinned α d val Post, m) :: r) a F vs := ⟨fun h' => (by rw [hw] at h'; cases h'), fun _ => hn⟩
theorem G8 {α : Type} {d : α} {val : α → Value} (hw : Region.wanted o (yielded ops a.tmps) = true) (h : ∀ w, I w → S vs w → facts w m F → One P ops o a w fun v w' => ((∃ x : α, v = val x) ∧ S (vs ++ [v]) w') ∧ G w w')
 (hn : ∀ x : α, pass P ops I S G fin r (a.put o.dst (val x)) (F ++ [ku]) (vs ++ [val x])) : pass P ops I S G fin ((o, .major α d val, m) :: r) a F vs := ⟨fun _ => ⟨h, hn⟩, fun h' => by rw [hw] at h'; cases h'⟩
theorem Qg {α : Type} {d : α} {val : α → Value} (hw : Region.wanted o (yielded ops a.tmps) = false) (h : ∀ w, I w → S vs w → S (vs ++ [undef]) w)
 (hn : pass P ops I S G fin r (a.put o.dst undef) (F ++ [ku]) (vs ++ [undef])) : pass P ops I S G fin ((o, .major α d val, m) :: r) a F vs := ⟨fun h' => (by rw [hw] at h'; cases h'), fun _ => ⟨h, hn⟩⟩
theorem aA {n : Nat} {Q : Exit → Act → World → Prop} (h : ∀ w, I w → S vs w → uT w F → wpList P ops Q (ops.toList.drop n) a w) : pass P ops I S G (Last P ops I S Q n) [] a F vs := h
end
end Reg2
end Go.Proofs.YtelnhablglomjaaGreat

namespace Go.Proofs.YtelnhablglomjaaGreat
open Go.RowKit
abbrev af : Bool := true
abbrev ae : Bool := false
namespace Reg2
abbrev Kind.mU (v : Value) : Kind := .minor Unit () (fun _ => v) (fun _ _ => True)
theorem rd {P : Program} {ops : Array Oper} (w0 : World) (k N : Nat) (ms : List (List Bool)) (tags : List Nat) (ks : List Kind) {a : Act} {w : World} {id : Nat} {Q : Exit → Act → World → Prop}
 (hm : P.follows .mixedOrders = true) (hok : ((okB ops k N ms tags && (ms.length == k) && (tags.length == k) && decide (0 < k)) && (ops.toList.take k).all (fun o => o.dst.isSome)) = true)
 (yj : ks.map bF = tags) (hN : a.tmps.size = N) (hst : stays (fun a b => Below a.heap.size a b) (mk ops k ks ms)) (hI : Below w0.heap.size w0 w.drew)
 (hp : pass P ops (fun W => Below w0.heap.size w0 W) (fun _ _ => True) (fun a b => Below a.heap.size a b) (Last P ops (fun W => Below w0.heap.size w0 W) (fun _ _ => True) Q k) (mk ops k ks ms) a [] []) : (Code.region id ops true).wp P Q a w :=
 rM k N ms tags ks (fun W => Below w0.heap.size w0 W) (fun _ _ => True) (fun a b => Below a.heap.size a b) hm hok yj hN (fun _ _ _ _ _ => trivial) (fun _ _ he hb => hb.trans (Below.mono he hb.size)) (fun _ _ he hb => hb.trans (Below.mono he hb.size)) hst hI trivial hp
theorem tt {G : World → World → Prop} : rH G (Kind.mU .nilFunc) := ⟨fun _ _ _ _ _ => trivial, fun _ _ _ _ _ => trivial⟩
section
variable {P : Program} {ops : Array Oper} {I : World → Prop} {S : List Value → World → Prop} {G : World → World → Prop} {fin : Act → List (World → Prop) → List Value → Prop} {o : Oper} {m : List Bool} {r : List (Oper × Kind × List Bool)} {a : Act} {F : List (World → Prop)} {vs : List Value}
theorem pm {α : Type} {d : α} {val : α → Value} {Post : α → World → Prop} (h : ∀ w, I w → facts w m F → wpList P ops (Done o (fun v w' => (∃ x : α, v = val x ∧ Post x w') ∧ Ext w w') a) [o] a w) (hn : ∀ x : α, pass P ops I S G fin r (a.put o.dst (val x)) (F ++ [Post x]) vs) (hw : Region.wanted o (yielded ops a.tmps) = true) : pass P ops I S G fin ((o, .minor α d val Post, m) :: r) a F vs := au hw h hn
theorem pp {α : Type} {d : α} {val : α → Value} {Post : α → World → Prop} (h : ∀ w, I w → S vs w → facts w m F → wpList P ops (Done o (fun v w' => (∃ x : α, v = val x ∧ Post x w') ∧ Ext w w') a) [o] a w) (hn : ∀ x : α, pass P ops I S G fin r (a.put o.dst (val x)) (F ++ [Post x]) vs) (hw : Region.wanted o (yielded ops a.tmps) = true) : pass P ops I S G fin ((o, .pinned α d val Post, m) :: r) a F vs := Fp hw h hn
theorem pj {α : Type} {d : α} {val : α → Value} (h : ∀ w, I w → S vs w → facts w m F → wpList P ops (Done o (fun v w' => ((∃ x : α, v = val x) ∧ S (vs ++ [v]) w') ∧ G w w') a) [o] a w) (hn : ∀ x : α, pass P ops I S G fin r (a.put o.dst (val x)) (F ++ [ku]) (vs ++ [val x])) (hw : Region.wanted o (yielded ops a.tmps) = true) : pass P ops I S G fin ((o, .major α d val, m) :: r) a F vs := G8 hw h hn

end
end Reg2
end Go.Proofs.YtelnhablglomjaaGreat


namespace Go.Proofs.YtelnhablglomjaaGreat
open Go.RowKit Go.Lib
structure bu (S : Nat → Prop) (w w' : World) : Prop where
 os : w'.os = w.os
 tape : w'.tape = w.tape
 output : w'.output = w.output
 size : w.heap.size ≤ w'.heap.size
 block : ∀ k, k < w.heap.size → ¬ S k → w'.heap[k]? = w.heap[k]?
def jP (w : World) (S S' : Nat → Prop) : Prop := ∀ k, S' k → S k ∨ w.heap.size ≤ k
section
variable {S S' : Nat → Prop} {w w1 w2 : World}
theorem bu.refl (S : Nat → Prop) (w : World) : bu S w w := ⟨rfl, rfl, rfl, Nat.le_refl _, fun _ _ _ => rfl⟩
theorem bu.of_below (h : Below w.heap.size w w1) : bu S w w1 := ⟨h.os, h.tape, h.output, h.size, fun k hk _ => h.block k hk⟩
theorem bu.Aq {g : Nat} (h : Put.Off g g w w1) (hg : S g) : bu S w w1 := ⟨h.os, h.tape, h.output, h.size, fun k hk hn => h.block k hk (fun e => hn (e ▸ hg)) (fun e => hn (e ▸ hg))⟩
theorem bu.trans (h : bu S w w1) (h' : bu S' w1 w2) (hg : jP w S S') : bu S w w2 :=
 ⟨h'.os.trans h.os, h'.tape.trans h.tape, h'.output.trans h.output, Nat.le_trans h.size h'.size, fun k hk hn => by
  rw [h'.block k (Nat.lt_of_lt_of_le hk h.size) (fun hs => (hg k hs).elim hn (fun hle => absurd hk (Nat.not_lt.2 hle)))]
  exact h.block k hk hn⟩
theorem bu.below {B : Nat} (h : bu S w w1) (hS : ∀ k, S k → B ≤ k) (hB : B ≤ w.heap.size) : Below B w w1 :=
 ⟨h.os, h.tape, h.output, h.size, fun k hk => h.block k (by omega) (fun hs => absurd (hS k hs) (by omega))⟩
theorem jP.refl (w : World) (S : Nat → Prop) : jP w S S := fun _ h => .inl h
theorem jP.trans {Wv : Nat → Prop} (h : jP w S S') (h' : jP w1 S' Wv) (hs : w.heap.size ≤ w1.heap.size) : jP w S Wv := fun k hk => (h' k hk).elim (h k) (fun hle => .inr (by omega))
end
section
variable {w w' : World} {p g n cap m : Nat} {dv lv : Value} {M : Md}
theorem qz {e : TypeId} {sz n B k : Nat} {v : Value} {xs : List Value} (h : w.ownsRow B e sz v n xs) (hk : v.ownBlock = some k) : ∃ cur, w.heap[k]? = some (.cells cur e (0, 0)) := by
 obtain ⟨_, ⟨rfl, _⟩ | ⟨g, cap, cur, rfl, _, hh, _⟩⟩ := h
 ·cases hk
 ·have : k = g := by simpa [Value.ownBlock] using hk.symm
  subst this
  exact ⟨cur, hh⟩
theorem DK {e : TypeId} {sz n B : Nat} {v : Value} {xs : List Value} (h : w.ownsRow B e sz v n xs) (hk : ∀ k, v.ownBlock = some k → w'.heap[k]? = w.heap[k]?) : w'.ownsRow B e sz v n xs := bA h hk
end
end Go.Proofs.YtelnhablglomjaaGreat

namespace Go.Proofs.YtelnhablglomjaaGreat
open Go.RowKit Go.Lib
structure Hd where
 wk : Nat
 who : Int
 x : Bool
 y : Bool
 z : Bool
 st : Int
 lk : Int
def bE (w : World) (h : Nat) (H : Hd) : Prop := w.heap[h]? = some (.cells #[.pointer (some ⟨H.wk, 0, none⟩), .bool true, .int .i64 H.who, .bool H.x, .bool H.y, .bool H.z, .int .i64 H.st, .int .i64 H.lk] 56 (0, 0))
def Hd.want (H : Hd) (k : Int) : Hd := { H with st := if dH H.x H.y H.z k = 3 then 1 else 0, lk := dH H.x H.y H.z k }
def jo (x y z : Bool) (k : Int) : Int := if 2 < k ∧ z = true then 2 else if 1 < k ∧ y = true then 1 else if 0 < k ∧ x = true then 0 else -1
def Hd.yield (H : Hd) (k : Int) : Hd := { H with st := if jo H.x H.y H.z k = -1 then 4 else 3, lk := jo H.x H.y H.z k }
section
variable {w w' : World} {h : Nat} {H : Hd}
theorem bE.lt (q : bE w h H) : h < w.heap.size := aD q
theorem bE.below {B : Nat} (q : bE w h H) (hb : Below B w w') (hs : h < B) : bE w' h H := by
 unfold bE at *; rw [hb.block h hs]; exact q
theorem bE.c0 (q : bE w h H) : w.cell? ⟨h, 0, none⟩ = some (.pointer (some ⟨H.wk, 0, none⟩)) := by simp [World.cell?, show w.heap[h]? = _ from q]
theorem bE.c1 (q : bE w h H) : w.cell? ⟨h, 1, none⟩ = some (.bool true) := by simp [World.cell?, show w.heap[h]? = _ from q]
theorem bE.c2 (q : bE w h H) : w.cell? ⟨h, 2, none⟩ = some (.int .i64 H.who) := by simp [World.cell?, show w.heap[h]? = _ from q]
theorem bE.c3 (q : bE w h H) : w.cell? ⟨h, 3, none⟩ = some (.bool H.x) := by simp [World.cell?, show w.heap[h]? = _ from q]
theorem bE.c4 (q : bE w h H) : w.cell? ⟨h, 4, none⟩ = some (.bool H.y) := by simp [World.cell?, show w.heap[h]? = _ from q]
theorem bE.c5 (q : bE w h H) : w.cell? ⟨h, 5, none⟩ = some (.bool H.z) := by simp [World.cell?, show w.heap[h]? = _ from q]
theorem bE.c6 (q : bE w h H) : w.cell? ⟨h, 6, none⟩ = some (.int .i64 H.st) := by simp [World.cell?, show w.heap[h]? = _ from q]
theorem bE.c7 (q : bE w h H) : w.cell? ⟨h, 7, none⟩ = some (.int .i64 H.lk) := by simp [World.cell?, show w.heap[h]? = _ from q]
theorem bE.free (q : bE w h H) (j : Nat) : w.frozen? ⟨h, j, none⟩ = false := by simp [World.frozen?, show w.heap[h]? = _ from q]
theorem bE.setSt (q : bE w h H) (n : Int) : bE (w.setCell ⟨h, 6, none⟩ (.int .i64 n)) h { H with st := n } := by
 have := heap_put (i := 6) q (.int .i64 n)
 exact this
theorem bE.J7 (q : bE w h H) (n : Int) : bE (w.setCell ⟨h, 7, none⟩ (.int .i64 n)) h { H with lk := n } := by
 have := heap_put (i := 7) q (.int .i64 n)
 exact this
theorem kv {S : Nat → Prop} (ho : bu S w w') (hs : S h) (j : Nat) (v : Value) : bu S w (w'.setCell ⟨h, j, none⟩ v) :=
 ⟨ho.os, ho.tape, ho.output, by simpa using ho.size, fun k hk hn => by rw [Below.heap_setCell _ _ _ _ (fun e => hn (by rw [e]; exact hs))]; exact ho.block k hk hn⟩
end
theorem oH {w : World} {h : Nat} {H : Hd} (q : bE w h H) : Calls Tryz.prog 27 #[.pointer (some ⟨h, 0, none⟩)] w fun e w' => e = .returned (.int .i64 H.st) ∧ w = w' := by
 have c1 := q.c1
 have c6 := q.c6
 clear q
 go_enter Tryz.func27, Tryz.ntmps27
 go_wp2_with fail
 go_ret
 exact ⟨rfl, rfl⟩
def Fq (H : Hd) (l : Lk) : Bool := decide (H.st = 0) && !decide (l.own H.lk = 0)
theorem Nt {w : World} {h s : Nat} {H : Hd} {l : Lk} (q : bE w h H) (hl : bT 32 w s l) : Calls Tryz.prog 15 #[.pointer (some ⟨h, 0, none⟩), .pointer (some ⟨s, 0, none⟩)] w fun e w' => e = .returned (.bool (Fq H l)) ∧ w = w' := by
 have hs := oH q
 have ho := Dy H.lk hl
 have c7 := q.c7
 unfold Fq
 generalize l.own H.lk = o at *
 generalize H.st = n at *
 clear q hl
 by_cases h0 : n = 0
 ·have d0 : (n == 0) = true := by simp [h0]
  go_enter Tryz.func15, Tryz.ntmps15
  go_wp2_with (first | (go_at_call 27; go_must (refine hs.mono ?_); rintro e w' ⟨rfl, rfl⟩) | (go_at_call 45; go_must (refine ho.mono ?_); rintro e w' ⟨rfl, rfl⟩))
  go_ret
  exact ⟨by by_cases ho : o = 0 <;> simp [h0, ho], rfl⟩
 ·have d0 : (n == 0) = false := by simp [h0]
  go_enter Tryz.func15, Tryz.ntmps15
  go_wp2_with (go_at_call 27; go_must (refine hs.mono ?_); rintro e w' ⟨rfl, rfl⟩)
  go_ret
  exact ⟨by simp [h0], rfl⟩
def xm (w : World) (h : Nat) (H' : Hd) (e : Ending) (w' : World) : Prop := e = .returned (.tuple #[]) ∧ bE w' h H' ∧ bu (fun k => k = h) w w'
theorem G9 {w : World} {h : Nat} {H : Hd} (q : bE w h H) (k : Int) (hk : 0 ≤ k ∧ k ≤ 100) : Calls Tryz.prog 67 #[.pointer (some ⟨h, 0, none⟩), .int .i64 k] w (xm w h (H.want k)) := by
 have hn := wW H.x H.y H.z k (by omega) w
 have c3 := q.c3
 have c4 := q.c4
 have c5 := q.c5
 obtain ⟨r, hr⟩ : ∃ r, r = dH H.x H.y H.z k := ⟨_, rfl⟩
 have hfin : Hid (∀ W, bE W h { H with st := if r = 3 then 1 else 0, lk := r } → bu (fun k => k = h) w W → xm w h (H.want k) (.returned (.tuple #[])) W) := fun W h1 h2 => ⟨rfl, by rw [hr] at h1; exact h1, h2⟩
 rw [← hr] at hn
 unfold bL at hn
 replace hr := Lib.hid hr
 replace q := Lib.hid q
 go_enter Tryz.func67, Tryz.ntmps67
 go_wp2_with fail
 go_at_call 55
 refine hn.mono ?_
 clear hn c3 c4 c5
 rintro e w1 ⟨rfl, hb1⟩
 have q1 := q.out.below hb1 q.out.lt
 have o1 : bu (fun k => k = h) w w1 := bu.of_below hb1
 have c6 := q1.c6
 have f6 := q1.free 6
 have q2 := q1.setSt 0
 have o2 := kv (h := h) o1 rfl 6 (.int .i64 0)
 have c7 := q2.c7
 have f7 := q2.free 7
 have q3 := q2.J7 r
 have o3 := kv (h := h) o2 rfl 7 (.int .i64 r)
 have k7 := q3.c7
 have k6 := q3.c6
 have g6 := q3.free 6
 have q4 := q3.setSt 1
 have o4 := kv (h := h) o3 rfl 6 (.int .i64 1)
 by_cases h3 : r = 3
 ·subst h3
  rw [if_pos rfl] at hfin
  have hf := Lib.hid (hfin.out _ q4 o4)
  clear q1 o1 q2 o2 q3 o3 q4 o4 hfin
  go_wp2_with fail
  go_end0
  exact hf.out
 ·have d3 : (r == 3) = false := by simp [h3]
  rw [if_neg h3] at hfin
  have hf := Lib.hid (hfin.out _ q3 o3)
  clear q1 o1 q2 o2 q3 o3 q4 o4 hfin
  go_wp2_with fail
  go_end0
  exact hf.out
end Go.Proofs.YtelnhablglomjaaGreat

namespace Go.Proofs.YtelnhablglomjaaGreat
open Go.RowKit Go.Lib
def Hd.take (H : Hd) (l : Lk) : Hd := if l.mI H.lk H.who = 0 then H.want (H.lk + 1) else H
theorem Qh {w : World} {h s : Nat} {H : Hd} {l : Lk} (q : bE w h H) (hl : bT 32 w s l) (hn : 0 ≤ l.n ∧ l.n ≤ 1000000) (hk : 0 ≤ H.lk ∧ H.lk ≤ 3) (hne : h ≠ s) :
 Calls Tryz.prog 46 #[.pointer (some ⟨h, 0, none⟩), .pointer (some ⟨s, 0, none⟩)] w fun e w' => e = .returned (.tuple #[]) ∧ bE w' h (H.take l) ∧ bT 32 w' s (l.nJ H.lk H.who) ∧ bu (fun k => k = h ∨ k = s) w w' := by
 have q0 := Lib.hid q
 have l0 := Lib.hid hl
 have wi : IntKind.i64.wrap (H.lk + 1) = H.lk + 1 := IntWalk.i64_in _ (by omega)
 have hy : Hid (l.mI H.lk H.who = 0 → H.take l = H.want (H.lk + 1)) := fun h => by unfold Hd.take; rw [if_pos h]
 have hno : Hid (l.mI H.lk H.who ≠ 0 → H.take l = H) := fun h => by unfold Hd.take; rw [if_neg h]
 clear q hl
 go_enter Tryz.func46, Tryz.ntmps46
 go_wp2_with fail
 refine Reg2.ro w 9 22 [.p 0, .p 0, .p 2, .p 6, .m 14, .p 0, .p 32, .p 96, .m 224] [.int .i64 H.lk, .int .i64 H.who] (by kernel_rfl) (by kernel_rfl) rfl rfl ⟨rfl, rfl, rfl, Nat.le_refl _, fun _ _ => rfl⟩ ?_
 dsimp only [Reg2.gU]
 repeat ((first
  | (refine' Reg2.ak _ (by rfl) (fun wz => ?_) ?_; rotate_left; (go_simp; first | rfl | rw [if_neg (by omega)]))
  | (refine Reg2.au (by rfl) (fun wz hI hF => ?_) (fun _ => ?_)
     ·unfold Reg2.One
      have d0 := (q0.out.below hI q0.out.lt).c7
      have d1 := (q0.out.below hI q0.out.lt).c2
      go_wp2_with fail
      first | exact ⟨_, rfl, rfl, Reg2.Ext.refl _⟩ | exact ⟨_, rfl, ⟨(), rfl, trivial⟩, Reg2.Ext.refl _⟩)); simp only [Act.put, xA, xB, xC, xD, xE, id])
 refine Reg2.aA ?_
 intro w1 HI1 _ dY
 clear dY
 dsimp only [List.drop]
 have q1 := Lib.hid (q0.out.below HI1 q0.out.lt)
 have ht := Tu H.lk H.who (l0.out.below HI1 l0.out.lt) hn
 go_wp2_with fail
 go_at_call 29
 refine ht.mono ?_
 clear ht
 rintro e w2 ⟨rfl, hl2, ho2⟩
 have q2 : bE w2 h H := (ho2.block h q1.out.lt hne hne).trans q1.out
 have qO : bu (fun k => k = h ∨ k = s) w w2 := (bu.of_below HI1).trans (bu.Aq (S := fun k => k = h ∨ k = s) ho2 (.inr rfl)) (jP.refl _ _)
 have c7 := q2.c7
 obtain ⟨r, hr⟩ : ∃ r, r = l.mI H.lk H.who := ⟨_, rfl⟩
 rw [← hr]
 replace hr := Lib.hid hr
 by_cases h0 : r = 0
 ·subst h0
  have hw := G9 q2 (H.lk + 1) (by omega)
  replace hy := Lib.hid (hy.out hr.out.symm)
  replace hl2 := Lib.hid hl2
  replace qO := Lib.hid qO
  replace q2 := Lib.hid q2
  go_wp2_with fail
  go_at_call 67
  refine hw.mono ?_
  clear hw c7
  rintro e w3 ⟨rfl, q3, CJ⟩
  have hl3 : Hid (bT 32 w3 s (l.nJ H.lk H.who)) := (CJ.block s hl2.out.lt (Ne.symm hne)).trans hl2.out
  have Vp : Hid (bu (fun k => k = h ∨ k = s) w w3) := qO.out.trans CJ fun k hk => .inl (.inl hk)
  replace q3 := Lib.hid q3
  clear CJ
  go_wp2_with fail
  go_end0
  exact ⟨rfl, by rw [hy.out]; exact q3.out, hl3.out, Vp.out⟩
 ·have d3 : (r == 0) = false := by simp [h0]
  replace hno := Lib.hid (hno.out (by rw [← hr.out]; exact h0))
  replace q2 := Lib.hid q2
  replace hl2 := Lib.hid hl2
  replace qO := Lib.hid qO
  clear c7
  go_wp2_with fail
  go_end0
  exact ⟨rfl, by rw [hno.out]; exact q2.out, hl2.out, qO.out⟩
theorem J8 {x y z : Bool} {k : Int} (h0 : 0 < k) (h3 : k ≤ 3) (hb : (if k - 1 = 0 then x else if k - 1 = 1 then y else z) = false) : jo x y z k = jo x y z (k - 1) := by
 have : k = 1 ∨ k = 2 ∨ k = 3 := by omega
 rcases this with rfl | rfl | rfl <;> revert hb <;> cases x <;> cases y <;> cases z <;> decide
theorem J9 {x y z : Bool} {k : Int} (h0 : 0 < k) (h3 : k ≤ 3) (hb : (if k - 1 = 0 then x else if k - 1 = 1 then y else z) = true) : jo x y z k = k - 1 := by
 have : k = 1 ∨ k = 2 ∨ k = 3 := by omega
 rcases this with rfl | rfl | rfl <;> revert hb <;> cases x <;> cases y <;> cases z <;> decide
theorem bE.lane {w : World} {h : Nat} {H : Hd} (q : bE w h H) {j : Int} (h0 : 0 ≤ j) (h2 : j ≤ 2) : w.cell? ⟨h, 3 + j.toNat, none⟩ = some (.bool (if j = 0 then H.x else if j = 1 then H.y else H.z)) := by
 have : j = 0 ∨ j = 1 ∨ j = 2 := by omega
 rcases this with rfl | rfl | rfl
 ·exact q.c3
 ·exact q.c4
 ·exact q.c5
theorem DL {w : World} {h : Nat} {H : Hd} (q : bE w h H) (k : Int) (hk : 0 ≤ k ∧ k ≤ 3) : Calls Tryz.prog 73 #[.pointer (some ⟨h, 0, none⟩), .int .i64 k] w (xm w h (H.yield k)) := by
 obtain ⟨n, rfl⟩ := Int.eq_ofNat_of_zero_le hk.1
 have w1 : IntKind.i64.wrap ((n : Int) - 1) = (n : Int) - 1 := IntWalk.i64_in _ (by omega)
 have c7 := q.c7
 have f7 := q.free 7
 have hst : Hid (bE (w.setCell ⟨h, 7, none⟩ (.int .i64 ((n : Int) - 1))) h { H with lk := (n : Int) - 1 } ∧ bu (fun k => k = h) w (w.setCell ⟨h, 7, none⟩ (.int .i64 ((n : Int) - 1)))) := ⟨q.J7 ((n : Int) - 1), kv (h := h) (bu.refl (fun k => k = h) w) rfl 7 _⟩
 clear q
 go_enter Tryz.func73, Tryz.ntmps73
 go_wp2_with fail
 go_loopg [] n (fun m wr => ∃ j : Int, -1 ≤ j ∧ j ≤ 2 ∧ j + 1 = m ∧ Hid (bE wr h { H with lk := j } ∧ bu (fun k => k = h) w wr ∧ jo H.x H.y H.z n = jo H.x H.y H.z (j + 1)))
 case atStart =>
  exact ⟨(n : Int) - 1, by omega, by omega, by omega, hst.out.1, hst.out.2, by congr 1; omega⟩
 case round =>
  obtain ⟨j, j1, j2, j3, hq⟩ := hrel
  have q := hq.out.1
  have of := Lib.hid hq.out.2.1
  have hp := Lib.hid hq.out.2.2
  have c7 := q.c7
  clear hst hq
  by_cases h0 : 0 ≤ j
  ·obtain ⟨m, rfl⟩ := Int.eq_ofNat_of_zero_le h0
   have Vq := q.lane h0 j2
   obtain ⟨b, hb⟩ : ∃ b, b = if (m : Int) = 0 then H.x else if (m : Int) = 1 then H.y else H.z := ⟨_, rfl⟩
   rw [Int.toNat_natCast] at Vq
   have cl : wr.cell? ⟨h, 3 + m, none⟩ = some (.bool b) := by rw [hb]; exact Vq
   clear Vq
   replace hb := Lib.hid hb
   have b3 : (m : Int) < 3 := by omega
   have q0 := Lib.hid q
   go_wp2_with fail
   refine Reg2.ro wr 7 36 [.p 0, .p 0, .p 2, .p 6, .m 14, .p 1, .p 33] [.int .i64 m] (by kernel_rfl) (by kernel_rfl) rfl rfl ⟨rfl, rfl, rfl, Nat.le_refl _, fun _ _ => rfl⟩ ?_
   dsimp only [Reg2.gU]
   repeat ((first
    | (refine' Reg2.ak _ (by rfl) (fun wz => ?_) ?_; rotate_left; (go_simp; first | rfl | rw [if_neg (by omega)]))
    | (refine Reg2.au (by rfl) (fun wz hI hF => ?_) (fun _ => ?_)
       ·unfold Reg2.One
        have d0 := (q0.out.below hI q0.out.lt).c7
        go_wp2_with fail
        first | exact ⟨_, rfl, rfl, Reg2.Ext.refl _⟩ | exact ⟨_, rfl, ⟨(), rfl, trivial⟩, Reg2.Ext.refl _⟩)); simp only [Act.put, xA, xB, xC, xD, xE, id])
   refine Reg2.aA ?_
   intro w2 HI _ dY
   clear dY
   dsimp only [List.drop]
   have q2 := q0.out.below HI q0.out.lt
   have qO : bu (fun k => k = h) w w2 := of.out.trans (bu.of_below HI) (jP.refl _ _)
   have Zp : w2.cell? ⟨h, 3 + m, none⟩ = some (.bool b) := (HI.cell (p := ⟨h, 3 + m, none⟩) q0.out.lt).trans cl
   clear cl c7 q q0
   cases b with
   | true =>
     have hpv := J9 (x := H.x) (y := H.y) (z := H.z) (k := (m : Int) + 1) (by omega) (by omega) (by rw [show (m : Int) + 1 - 1 = m by omega]; exact hb.out.symm)
     have f6 := q2.free 6
     have c6 := q2.c6
     have q3 := q2.setSt 3
     have CJ := kv (h := h) qO rfl 6 (.int .i64 3)
     have hf : Hid (xm w h (H.yield n) (.returned (.tuple #[])) (w2.setCell ⟨h, 6, none⟩ (.int .i64 3))) := by
      refine ⟨rfl, ?_, CJ⟩
      unfold Hd.yield
      rw [hp.out, hpv, if_neg (by omega), show (m : Int) + 1 - 1 = m by omega]
      exact q3
     clear q2 qO q3 CJ hpv
     go_wp2_with fail
     refine bodyPost_ret (results_none rfl _ _ _) rfl ?_
     exact hf.out
   | false =>
     have hpv := J8 (x := H.x) (y := H.y) (z := H.z) (k := (m : Int) + 1) (by omega) (by omega) (by rw [show (m : Int) + 1 - 1 = m by omega]; exact hb.out.symm)
     have wm : IntKind.i64.wrap ((m : Int) - 1) = (m : Int) - 1 := IntWalk.i64_in _ (by omega)
     have c7 := q2.c7
     have f7 := q2.free 7
     have hf : Hid (bE (w2.setCell ⟨h, 7, none⟩ (.int .i64 ((m : Int) - 1))) h { H with lk := (m : Int) - 1 } ∧ bu (fun k => k = h) w (w2.setCell ⟨h, 7, none⟩ (.int .i64 ((m : Int) - 1))) ∧ jo H.x H.y H.z n = jo H.x H.y H.z ((m : Int) - 1 + 1)) :=
      ⟨q2.J7 _, kv (h := h) qO rfl 7 _, by rw [hp.out, hpv]; congr 1; omega⟩
     clear q2 qO hpv
     go_wp2_with fail
     go_roundg (gk - 1)
     case measure => omega
     case rel => exact ⟨(m : Int) - 1, by omega, by omega, by omega, hf.out⟩
  ·obtain rfl : j = -1 := by omega
   have f6 := q.free 6
   have c6 := q.c6
   have hf : Hid (xm w h (H.yield n) (.returned (.tuple #[])) (wr.setCell ⟨h, 6, none⟩ (.int .i64 4))) := by
    refine ⟨rfl, ?_, kv (h := h) of.out rfl 6 _⟩
    unfold Hd.yield
    rw [hp.out, show jo H.x H.y H.z (-1 + 1) = -1 by unfold jo; simp, if_pos rfl]
    exact q.setSt 4
   clear q
   go_wp2_with fail
   go_end0
   exact hf.out
end Go.Proofs.YtelnhablglomjaaGreat

namespace Go.Proofs.YtelnhablglomjaaGreat
open Go.RowKit Go.Lib
def Hd.give (H : Hd) : Hd := H.yield H.lk
def Hd.part (H : Hd) (dn : Bool) : Hd := if dn = true then H.yield 3 else { H with st := 2 }
section
variable {w : World} {h s : Nat} {H : Hd} {l : Lk} {cv : Value}
theorem Qi (q : bE w h H) (hl : bT 32 w s l) (hk : 0 ≤ H.lk ∧ H.lk ≤ 3) (hne : h ≠ s) :
 Calls Tryz.prog 48 #[.pointer (some ⟨h, 0, none⟩), .pointer (some ⟨s, 0, none⟩)] w fun e w' => e = .returned (.tuple #[]) ∧ bE w' h H.give ∧ bT 32 w' s (l.jl H.lk H.who) ∧ bu (fun k => k = h ∨ k = s) w w' := by
 have q0 := Lib.hid q
 have l0 := Lib.hid hl
 clear q hl
 go_enter Tryz.func48, Tryz.ntmps48
 go_wp2_with fail
 refine Reg2.ro w 9 20 [.p 0, .p 0, .p 2, .p 6, .m 14, .p 0, .p 32, .p 96, .m 224] [.int .i64 H.lk, .int .i64 H.who] (by kernel_rfl) (by kernel_rfl) rfl rfl ⟨rfl, rfl, rfl, Nat.le_refl _, fun _ _ => rfl⟩ ?_
 dsimp only [Reg2.gU]
 repeat ((first
  | (refine' Reg2.ak _ (by rfl) (fun wz => ?_) ?_; rotate_left; (go_simp; first | rfl | rw [if_neg (by omega)]))
  | (refine Reg2.au (by rfl) (fun wz hI hF => ?_) (fun _ => ?_)
     ·unfold Reg2.One
      have d0 := (q0.out.below hI q0.out.lt).c7
      have d1 := (q0.out.below hI q0.out.lt).c2
      go_wp2_with fail
      first | exact ⟨_, rfl, rfl, Reg2.Ext.refl _⟩ | exact ⟨_, rfl, ⟨(), rfl, trivial⟩, Reg2.Ext.refl _⟩)); simp only [Act.put, xA, xB, xC, xD, xE, id])
 refine Reg2.aA ?_
 intro w1 HI1 _ dY
 clear dY
 dsimp only [List.drop]
 have q1 := Lib.hid (q0.out.below HI1 q0.out.lt)
 have ht := GR H.lk H.who (l0.out.below HI1 l0.out.lt)
 go_wp2_with fail
 go_at_call 30
 refine ht.mono ?_
 clear ht
 rintro e w2 ⟨rfl, hl2, ho2⟩
 have q2 : bE w2 h H := (ho2.block h q1.out.lt hne hne).trans q1.out
 have qO : Hid (bu (fun k => k = h ∨ k = s) w w2) := (bu.of_below HI1).trans (bu.Aq (S := fun k => k = h ∨ k = s) ho2 (.inr rfl)) (jP.refl _ _)
 have c7 := q2.c7
 have hy := DL q2 H.lk hk
 replace hl2 := Lib.hid hl2
 replace q2 := Lib.hid q2
 generalize l.jL H.lk H.who = r at *
 clear ho2
 go_wp2_with fail
 go_at_call 73
 refine hy.mono ?_
 clear hy c7
 rintro e w3 ⟨rfl, q3, CJ⟩
 have hl3 : Hid (bT 32 w3 s (l.jl H.lk H.who)) := (CJ.block s hl2.out.lt (Ne.symm hne)).trans hl2.out
 have Vp : Hid (bu (fun k => k = h ∨ k = s) w w3) := qO.out.trans CJ fun k hk => .inl (.inl hk)
 replace q3 := Lib.hid q3
 clear CJ
 go_wp2_with fail
 go_end0
 exact ⟨rfl, q3.out, hl3.out, Vp.out⟩
theorem Qj (q : bE w h H) {Q : World → Prop} (dn : Bool) (hs : Calls Tryz.prog 12 #[.pointer (some ⟨H.wk, 0, none⟩), cv] w fun e w' => e = .returned (.bool dn) ∧ Q w' ∧ bE w' h H) :
 Calls Tryz.prog 47 #[.pointer (some ⟨h, 0, none⟩), cv] w fun e w' => e = .returned (.tuple #[]) ∧ ∃ w1, Q w1 ∧ bE w' h (H.part dn) ∧ bu (fun k => k = h) w1 w' := by
 have c0 := q.c0
 clear q
 go_enter Tryz.func47, Tryz.ntmps47
 go_wp2_with fail
 go_at_call 12
 refine hs.mono ?_
 clear hs c0
 rintro e w1 ⟨rfl, hQ, q1⟩
 replace hQ := Lib.hid hQ
 cases dn with
 | true =>
   have hy := DL q1 3 (by decide)
   go_wp2_with fail
   go_at_call 73
   refine hy.mono ?_
   clear hy
   rintro e w2 ⟨rfl, q2, qO⟩
   replace q2 := Lib.hid q2
   replace qO := Lib.hid qO
   go_wp2_with fail
   go_end0
   exact ⟨rfl, w1, hQ.out, q2.out, qO.out⟩
 | false =>
   have c6 := q1.c6
   have f6 := q1.free 6
   have hf : Hid (bE (w1.setCell ⟨h, 6, none⟩ (.int .i64 2)) h { H with st := 2 } ∧ bu (fun k => k = h) w1 (w1.setCell ⟨h, 6, none⟩ (.int .i64 2))) := ⟨q1.setSt 2, kv (h := h) (bu.refl (fun k => k = h) w1) rfl 6 _⟩
   clear q1
   go_wp2_with fail
   go_end0
   exact ⟨rfl, w1, hQ.out, hf.out⟩
theorem zi (q : bE w h H) (h0 : H.st = 0) (hl : bT 32 w s l) (hn : 0 ≤ l.n ∧ l.n ≤ 1000000) (hk : 0 ≤ H.lk ∧ H.lk ≤ 3) (hne : h ≠ s) :
 Calls Tryz.prog 16 #[.pointer (some ⟨h, 0, none⟩), cv, .pointer (some ⟨s, 0, none⟩)] w fun e w' => e = .returned (.bool false) ∧ bE w' h (H.take l) ∧ bT 32 w' s (l.nJ H.lk H.who) ∧ bu (fun k => k = h ∨ k = s) w w' := by
 have hs := oH q
 rw [h0] at hs
 have ht := Qh q hl hn hk hne
 clear q hl h0
 go_enter Tryz.func16, Tryz.ntmps16
 go_wp2_with (first | (go_at_call 27; go_must (refine hs.mono ?_); rintro e w' ⟨rfl, rfl⟩) | (go_at_call 46; go_must (refine ht.mono ?_); rintro e w' ⟨rfl, hz⟩; replace hz := Lib.hid hz))
 go_ret
 exact ⟨rfl, hz.out⟩
theorem tN (q : bE w h H) (h1 : H.st = 1 ∨ H.st = 2) {Q : World → Prop} (dn : Bool) (hs : Calls Tryz.prog 12 #[.pointer (some ⟨H.wk, 0, none⟩), cv] w fun e w' => e = .returned (.bool dn) ∧ Q w' ∧ bE w' h H) :
 Calls Tryz.prog 16 #[.pointer (some ⟨h, 0, none⟩), cv, .pointer (some ⟨s, 0, none⟩)] w fun e w' => e = .returned (.bool (H.st == 1)) ∧ ∃ w1, Q w1 ∧ bE w' h (H.part dn) ∧ bu (fun k => k = h) w1 w' := by
 have hg := oH q
 have ht := Qj q dn hs
 clear q hs
 rcases h1 with h1 | h1
 ·rw [h1] at hg ⊢
  clear h1
  go_enter Tryz.func16, Tryz.ntmps16
  go_wp2_with (first | (go_at_call 27; go_must (refine hg.mono ?_); rintro e w' ⟨rfl, rfl⟩) | (go_at_call 47; go_must (refine ht.mono ?_); rintro e w' ⟨rfl, hz⟩; replace hz := Lib.hid hz))
  go_ret
  exact ⟨rfl, hz.out⟩
 ·rw [h1] at hg ⊢
  clear h1
  go_enter Tryz.func16, Tryz.ntmps16
  go_wp2_with (first | (go_at_call 27; go_must (refine hg.mono ?_); rintro e w' ⟨rfl, rfl⟩) | (go_at_call 47; go_must (refine ht.mono ?_); rintro e w' ⟨rfl, hz⟩; replace hz := Lib.hid hz))
  go_ret
  exact ⟨rfl, hz.out⟩
theorem zk (q : bE w h H) (h3 : H.st = 3) (hl : bT 32 w s l) (hk : 0 ≤ H.lk ∧ H.lk ≤ 3) (hne : h ≠ s) :
 Calls Tryz.prog 16 #[.pointer (some ⟨h, 0, none⟩), cv, .pointer (some ⟨s, 0, none⟩)] w fun e w' => e = .returned (.bool false) ∧ bE w' h H.give ∧ bT 32 w' s (l.jl H.lk H.who) ∧ bu (fun k => k = h ∨ k = s) w w' := by
 have hs := oH q
 rw [h3] at hs
 have ht := Qi q hl hk hne
 clear q hl h3
 go_enter Tryz.func16, Tryz.ntmps16
 go_wp2_with (first | (go_at_call 27; go_must (refine hs.mono ?_); rintro e w' ⟨rfl, rfl⟩) | (go_at_call 48; go_must (refine ht.mono ?_); rintro e w' ⟨rfl, hz⟩; replace hz := Lib.hid hz))
 go_ret
 exact ⟨rfl, hz.out⟩
theorem zl (q : bE w h H) (h4 : H.st = 4) (u : Value) :
 Calls Tryz.prog 16 #[.pointer (some ⟨h, 0, none⟩), cv, u] w fun e w' => e = .returned (.bool false) ∧ bE w' h { H with st := 5 } ∧ bu (fun k => k = h) w w' := by
 have hs := oH q
 rw [h4] at hs
 have c6 := q.c6
 have f6 := q.free 6
 have hf : Hid (bE (w.setCell ⟨h, 6, none⟩ (.int .i64 5)) h { H with st := 5 } ∧ bu (fun k => k = h) w (w.setCell ⟨h, 6, none⟩ (.int .i64 5))) := ⟨q.setSt 5, kv (h := h) (bu.refl (fun k => k = h) w) rfl 6 _⟩
 clear q h4
 go_enter Tryz.func16, Tryz.ntmps16
 go_wp2_with (go_at_call 27; go_must (refine hs.mono ?_); rintro e w' ⟨rfl, rfl⟩)
 go_ret
 exact ⟨rfl, hf.out⟩
def vI (wk : Nat) (who : Int) (x y z : Bool) : Hd := (⟨wk, who, x, y, z, 0, 0⟩ : Hd).want 0
theorem Ha (wk : Nat) (who : Int) (x y z : Bool) (w : World) : Calls Tryz.prog 39 #[.pointer (some ⟨wk, 0, none⟩), .int .i64 who, bL x y z] w fun e w' => ∃ b, e = .returned (.pointer (some ⟨b, 0, none⟩)) ∧ bE w' b (vI wk who x y z) ∧ w.heap.size ≤ b ∧ Below w.heap.size w w' := by
 unfold bL
 obtain ⟨w1, hw1⟩ : ∃ w1, w1 = (w.alloc (.cells #[.bool x, .bool y, .bool z] 42)).alloc (.cells #[.pointer (some ⟨wk, 0, none⟩), .bool true, .int .i64 who, .bool x, .bool y, .bool z, .int .i64 0, .int .i64 0] 56) := ⟨_, rfl⟩
 have hb1 : Below w.heap.size w w1 := by rw [hw1]; exact ((Below.refl _ _).alloc (Nat.le_refl _) _).alloc (by simp) _
 have q1 : bE w1 (w.heap.size + 1) ⟨wk, who, x, y, z, 0, 0⟩ := by rw [hw1]; exact heap_alloc2_new w _ _
 have hw := G9 q1 0 (by decide)
 replace hb1 := Lib.hid hb1
 clear q1
 go_enter Tryz.func39, Tryz.ntmps39
 go_wp2_with fail
 rw [← hw1]
 replace hw1 := Lib.hid hw1
 go_at_call 67
 refine hw.mono ?_
 clear hw
 rintro e w2 ⟨rfl, q2, qO⟩
 have hb2 : Hid (Below w.heap.size w w2) := hb1.out.trans (qO.below (fun k hk => by subst hk; omega) hb1.out.size)
 replace q2 := Lib.hid q2
 clear qO
 go_wp2_with fail
 go_ret
 exact ⟨_, rfl, q2.out, Nat.le_succ _, hb2.out⟩
end
end Go.Proofs.YtelnhablglomjaaGreat

namespace Go.Proofs.YtelnhablglomjaaGreat
open Go.RowKit Go.Lib
theorem oI (M : Md) (wid : Int) (k : Nat) : (lowGo M wid k).1 < 2 ^ k ∧ 0 ≤ (lowGo M wid k).2 ∧ (lowGo M wid k).2 ≤ k := by
 induction k with
 | zero => simp [lowGo]
 | succ k ih =>
   have h2 : 2 ^ (k + 1) = 2 * 2 ^ k := by rw [Nat.pow_succ, Nat.mul_comm]
   unfold lowGo
   split
   ·refine ⟨?_, ?_, ?_⟩
    ·show (lowGo M wid k).1 + 2 ^ k < _; omega
    ·show 0 ≤ (lowGo M wid k).2 + 1; omega
    ·show (lowGo M wid k).2 + 1 ≤ _; omega
   ·refine ⟨by omega, ih.2.1, by omega⟩
section
end
end Go.Proofs.YtelnhablglomjaaGreat

namespace Go.Proofs.YtelnhablglomjaaGreat
open Go.RowKit Go.Lib
section
variable {w w' : World} {p : Nat} {dv lv : Value} {M : Md}
theorem oV {b : Nat} {x y : Jb} (h : w.heap[b]? = some (.cells (ai y).toArray 92 (0, 0))) : Sem.run Tryz.prog (storeCells ⟨b, 0, none⟩ (ai x) 0) w = .ok () (w.setRow b (ai x).toArray) := by
 have hst := run_storeCells_at Tryz.prog b 0 92 (ai x) 0 (ai y).toArray w h (by simp [ax]) (dJ x)
 simp only [Nat.add_zero] at hst
 rw [hst]
 rfl
end
end Go.Proofs.YtelnhablglomjaaGreat

namespace Go.Proofs.YtelnhablglomjaaGreat
open Go.RowKit Go.Lib
section
variable {w w' : World} {p : Nat} {dv lv : Value} {M : Md}
theorem Qk (M : Md) (id : Int) : (getM M id).2 = false ∨ ∃ i : Nat, id = (i : Int) + 1 ∧ i < M.L.length ∧ getM M id = (M.L.getD i default, true) := by
 by_cases hc : id < 1 ∨ (M.L.length : Int) < id
 ·left; unfold getM; rw [if_pos hc]
 ·right
  refine ⟨(id - 1).toNat, by omega, by omega, ?_⟩
  unfold getM
  rw [if_neg hc]
end
end Go.Proofs.YtelnhablglomjaaGreat

namespace Go.Proofs.YtelnhablglomjaaGreat
open Go.RowKit Go.Lib
section
variable {w w' : World} {p : Nat} {dv lv : Value} {M : Md}
theorem MB.set (hb : MB M) (i : Nat) (x : Jb) (h1 : 0 ≤ x.wid ∧ x.wid ≤ 64) (h2 : 0 ≤ x.lim ∧ x.lim ≤ 1048576) (h3 : -1 ≤ x.aN ∧ x.aN ≤ 1099511627776) (h4 : -1 ≤ x.fin ∧ x.fin ≤ 1099512676352) (h5 : 0 ≤ x.bQ ∧ x.bQ ≤ 18446744073709551615) : MB { M with L := M.L.set i x } := by
 have H : ∀ {P : Jb → Prop}, (∀ j ∈ M.L, P j) → P x → ∀ j ∈ M.L.set i x, P j := fun h hx j hj => by
  rcases List.mem_or_eq_of_mem_set hj with h1 | rfl
  ·exact h j h1
  ·exact hx
 exact ⟨hb.nn, by show (M.L.set i x).length ≤ 1024; rw [List.length_set]; exact hb.ll, hb.now, H hb.wid h1, H hb.lim h2, H hb.aN h3, H hb.fin h4, H hb.bQ h5⟩
end
end Go.Proofs.YtelnhablglomjaaGreat

namespace Go.Proofs.YtelnhablglomjaaGreat
open Go.RowKit Go.Lib
section
variable {w w' : World} {p : Nat} {dv lv : Value} {M : Md}
theorem MB.drop (hb : MB M) (j : Jb) : MB (fC M j) := by
 have H : ∀ {P : Jb → Prop}, (∀ j ∈ M.L, P j) → (∀ x, P x → P (x.aG (-1))) → ∀ x ∈ M.L.map (gQ j), P x := fun h hx x hj => by
  obtain ⟨y, hy, rfl⟩ := List.mem_map.1 hj
  unfold gQ
  split
  ·exact hx _ (h y hy)
  ·exact h y hy
 exact ⟨hb.nn, by show (M.L.map (gQ j)).length ≤ 1024; rw [List.length_map]; exact hb.ll, hb.now, H hb.wid fun _ h => h, H hb.lim fun _ h => h, H hb.aN fun _ _ => (by show (-1 : Int) ≤ -1 ∧ (-1 : Int) ≤ _; omega), H hb.fin fun _ h => h, H hb.bQ fun _ h => h⟩
theorem MB.drain (hb : MB M) (m : Nat) (x : Bool) : MB { M with dr := M.dr.set m x } :=
 ⟨by show (M.dr.set m x).length ≤ 64; rw [List.length_set]; exact hb.nn, hb.ll, hb.now, hb.wid, hb.lim, hb.aN, hb.fin, hb.bQ⟩
end
end Go.Proofs.YtelnhablglomjaaGreat

namespace Go.Proofs.YtelnhablglomjaaGreat
open Go.RowKit Go.Lib
def eQ (f : Jb → Jb) (L : List Jb) (i : Nat) : List Jb := (L.take i).map f ++ L.drop i
section
variable {f : Jb → Jb}
theorem oW (L : List Jb) (i : Nat) : (eQ f L i).length = L.length := by simp [eQ]; omega
theorem qP {L : List Jb} {i : Nat} (hi : i < L.length) : (eQ f L i).getD i default = L.getD i default := by
 unfold eQ
 have : ((L.take i).map f).length = i := by simp; omega
 rw [List.getD, List.getElem?_append_right (by omega), this, Nat.sub_self, List.getElem?_drop, Nat.add_zero]
 rfl
theorem jq {L : List Jb} {i : Nat} (hi : i < L.length) : (eQ f L i).set i (f (L.getD i default)) = eQ f L (i + 1) := by
 unfold eQ
 have hl : ((L.take i).map f).length = i := by simp; omega
 rw [List.set_append_right _ _ (by omega), hl, Nat.sub_self, List.drop_eq_getElem_cons hi, xB, List.take_succ_eq_append_getElem hi, List.map_append, List.append_assoc]
 simp [List.getD, hi]
theorem nK {L : List Jb} {i : Nat} (hi : i < L.length) (h : f (L.getD i default) = L.getD i default) : eQ f L i = eQ f L (i + 1) := by
 rw [← jq hi, h]
 have := qP (f := f) hi
 rw [List.getD, List.getElem?_eq_getElem (by rw [oW]; exact hi), Option.getD_some] at this
 rw [← this, List.set_getElem_self]
theorem rO (L : List Jb) : eQ f L L.length = L.map f := by simp [eQ]
end
section
variable {w w' : World} {p : Nat} {dv lv : Value} {M : Md}
theorem MB.over (hb : MB M) (t : Int) : MB { M with L := M.L.map (aU t) } := by
 have H : ∀ {P : Jb → Prop}, (∀ j ∈ M.L, P j) → (∀ x, P x → P (x.setSt 6)) → ∀ x ∈ M.L.map (aU t), P x := fun h hx x hj => by
  obtain ⟨y, hy, rfl⟩ := List.mem_map.1 hj
  unfold aU
  split
  ·exact hx _ (h y hy)
  ·exact h y hy
 exact ⟨hb.nn, by show (M.L.map (aU t)).length ≤ 1024; rw [List.length_map]; exact hb.ll, hb.now, H hb.wid fun _ h => h, H hb.lim fun _ h => h, H hb.aN fun _ h => h, H hb.fin fun _ h => h, H hb.bQ fun _ h => h⟩
theorem MB.begin (hb : MB M) (i : Nat) (hi : i < M.L.length) : MB (aW M i) := by
 have hm : M.L.getD i default ∈ M.L := by simp [List.getD, hi]
 refine hb.set i _ (show 0 ≤ (M.L.getD i default).wid ∧ (M.L.getD i default).wid ≤ 64 from hb.wid _ hm) (show 0 ≤ (M.L.getD i default).lim ∧ (M.L.getD i default).lim ≤ 1048576 from hb.lim _ hm) (by show (-1 : Int) ≤ -1 ∧ (-1 : Int) ≤ _; omega) ?_ ?_
 ·have h1 := hb.lim _ hm
  have h2 := hb.now
  show -1 ≤ M.now + (M.L.getD i default).lim ∧ M.now + (M.L.getD i default).lim ≤ 1099512676352
  omega
 ·have h1 := (oI M (M.L.getD i default).wid M.dr.length).1
  have h2 : 2 ^ M.dr.length ≤ 2 ^ 64 := Nat.pow_le_pow_right (by decide) hb.nn
  show 0 ≤ ((iP M (M.L.getD i default).wid : Nat) : Int) ∧ ((iP M (M.L.getD i default).wid : Nat) : Int) ≤ 18446744073709551615
  unfold iP
  omega
theorem He (M : Md) (i : Nat) : (aW M i).L.length = M.L.length := by simp [aW]
theorem AV (L : List Jb) (now : Int) (i : Nat) : -1 ≤ iG L now i ∧ iG L now i < i := by
 induction i with
 | zero => simp [iG]
 | succ i ih =>
   unfold iG
   split <;> omega
end
end Go.Proofs.YtelnhablglomjaaGreat

namespace Go.Proofs.YtelnhablglomjaaGreat
open Go.RowKit Go.Lib
section
variable {w w' : World} {p : Nat} {dv lv : Value} {M : Md}
theorem vJ (n : Nat) (hb : MB M) : MB (startGo n M) ∧ (startGo n M).L.length = M.L.length ∧ (startGo n M).now = M.now ∧ (startGo n M).dr = M.dr ∧ (startGo n M).cl = M.cl := by
 induction n generalizing M with
 | zero => exact ⟨hb, rfl, rfl, rfl, rfl⟩
 | succ n ih =>
   unfold startGo
   split
   ·rename_i h
    have hr := AV M.L M.now M.L.length
    have hf : (firstM M).toNat < M.L.length := by unfold firstM at h ⊢; omega
    obtain ⟨h1, h2, h3, h4, h5⟩ := ih (hb.begin _ hf)
    exact ⟨h1, by rw [h2, He], h3, h4, h5⟩
   ·exact ih hb
theorem oz (hb : MB M) : MB (dN M) ∧ (dN M).L.length = M.L.length ∧ (dN M).now = M.now ∧ (dN M).dr = M.dr ∧ (dN M).cl = M.cl := by
 obtain ⟨h1, h2, h3, h4, h5⟩ := vJ M.L.length (hb.over M.now)
 exact ⟨h1, by show (startGo _ _).L.length = _; rw [h2]; simp, h3, h4, h5⟩
theorem MB.at (hb : MB M) (t : Int) (h0 : 0 ≤ t) (h1 : t ≤ 1099511627776) : MB { M with now := t } := ⟨hb.nn, hb.ll, ⟨h0, h1⟩, hb.wid, hb.lim, hb.aN, hb.fin, hb.bQ⟩
theorem Fs (to : Int) (n : Nat) (hb : MB M) (h1 : to ≤ 1099511627776) : MB (dG to n M) ∧ (dG to n M).L.length = M.L.length ∧ (dG to n M).dr = M.dr ∧ (dG to n M).cl = M.cl := by
 induction n generalizing M with
 | zero => exact ⟨hb, rfl, rfl, rfl⟩
 | succ n ih =>
   unfold dG
   split
   ·exact ⟨hb, rfl, rfl, rfl⟩
   ·rename_i h
    obtain ⟨k1, k2, k3, k4, k5⟩ := oz (hb.at (aS M) (by omega) (by omega))
    obtain ⟨j1, j2, j3, j4⟩ := ih k1
    exact ⟨j1, by rw [j2, k2], by rw [j3, k4], by rw [j4, k5]⟩
end
end Go.Proofs.YtelnhablglomjaaGreat

namespace Go.Proofs.YtelnhablglomjaaGreat
section
variable {M : Md}
theorem lC {id : Int} (h : (getM M id).2 = true) : (getM M id).1 ∈ M.L ∧ (id - 1).toNat < M.L.length ∧ (getM M id).1 = M.L.getD (id - 1).toNat default ∧ id = (((id - 1).toNat : Nat) : Int) + 1 := by
 rcases Qk M id with h1 | ⟨i, rfl, hi, h1⟩
 ·rw [h1] at h; cases h
 ·have e : ((i : Int) + 1 - 1).toNat = i := by omega
  rw [h1, e]
  exact ⟨by simp [List.getD, hi], hi, rfl, by omega⟩
theorem MB.app (hb : MB M) (x : Jb) (hl : M.L.length < 1024) (h1 : 0 ≤ x.wid ∧ x.wid ≤ 64) (h2 : 0 ≤ x.lim ∧ x.lim ≤ 1048576) (h3 : -1 ≤ x.aN ∧ x.aN ≤ 1099511627776) (h4 : -1 ≤ x.fin ∧ x.fin ≤ 1099512676352) (h5 : 0 ≤ x.bQ ∧ x.bQ ≤ 18446744073709551615) : MB { M with L := M.L ++ [x] } := by
 have H : ∀ {P : Jb → Prop}, (∀ j ∈ M.L, P j) → P x → ∀ j ∈ M.L ++ [x], P j := fun h hx j hj => by
  rcases List.mem_append.1 hj with h1 | h1
  ·exact h j h1
  ·rw [List.mem_singleton] at h1; subst h1; exact hx
 exact ⟨hb.nn, by show (M.L ++ [x]).length ≤ 1024; rw [List.length_append]; simp; omega, hb.now, H hb.wid h1, H hb.lim h2, H hb.aN h3, H hb.fin h4, H hb.bQ h5⟩
theorem MB.Mm (hb : MB M) (r : Rw) : MB (mJ M r).2 := by
 unfold mJ
 simp only
 split
 ·exact hb
 split
 ·exact hb
 ·rename_i h1 h2
  obtain ⟨hm, hi, he, _⟩ := lC (by simpa using h1)
  have bw := hb.wid _ hm
  have bl := hb.lim _ hm
  have bp := hb.aN _ hm
  have bf := hb.fin _ hm
  have bn := hb.bQ _ hm
  refine hb.set _ _ (by unfold iQ; split <;> exact bw) (by unfold iQ; split <;> exact bl) (by show (-1 : Int) ≤ -1 ∧ (-1 : Int) ≤ _; omega) ?_ (by
   unfold iQ
   split
   ·exact bn
   ·exact bn)
  unfold iQ
  split
  ·have := hb.now
   show -1 ≤ M.now ∧ M.now ≤ _
   omega
  ·exact bf
theorem MB.Fu (hb : MB M) (r : Rw) : MB (fV M r).2 := by
 unfold fV
 simp only
 split
 ·exact hb
 split
 ·exact hb
 ·rename_i h1 h2
  obtain ⟨hm, hi, he, _⟩ := lC (by simpa using h1)
  have bw := hb.wid _ hm
  have bl := hb.lim _ hm
  have bp := hb.aN _ hm
  have bf := hb.fin _ hm
  have bn := hb.bQ _ hm
  have ha : MB { M with L := M.L.set (r.id - 1).toNat (fD r.kind (getM M r.id).1) } := by
   refine hb.set _ _ ?_ ?_ ?_ ?_ ?_
   ·unfold fD; split; exact bw; split; exact bw; exact bw
   ·unfold fD; split; exact bl; split; exact bl; exact bl
   ·unfold fD
    split
    ·show (-1 : Int) ≤ -1 ∧ (-1 : Int) ≤ _; omega
    ·split; exact bp; exact bp
   ·unfold fD; split; exact bf; split; exact bf; exact bf
   ·unfold fD; split; exact bn; split; exact bn; exact bn
  split
  ·exact ha.drop _
  ·exact ha
theorem MB.Fv (hb : MB M) (n : Nat) (b : Bool) : MB (fJ M n b) := by
 unfold fJ
 split
 ·exact (hb.drop lW).drain n true
 ·exact hb.drain n false
theorem MB.kP (hb : MB M) (id t : Int) : MB (df M id t).2 := by
 have hn := hb.now
 unfold df
 split
 ·rename_i hf
  unfold fO at hf
  simp only at hf
  split at hf
  ·cases hf
  rename_i hq
  have hg : (getM M id).2 = true := by cases h : (getM M id).2 <;> simp_all
  obtain ⟨hm, hi, he, _⟩ := lC hg
  split
  ·exact hb.begin _ hi
  ·rw [he] at hm
   have bw := hb.wid _ hm
   have bl := hb.lim _ hm
   have bp := hb.aN _ hm
   have bf := hb.fin _ hm
   have bn := hb.bQ _ hm
   exact hb.set _ _ (bw) (bl) (by show -1 ≤ t ∧ t ≤ 1099511627776; omega) (bf) (bn)
 ·exact hb
end
end Go.Proofs.YtelnhablglomjaaGreat

namespace Go.Proofs.YtelnhablglomjaaGreat
theorem Hf {j : Jb} {a t : Int} (hat : a ≤ t) (h : ∀ u ∈ AJ j, ¬ (a < u ∧ u ≤ t)) (but : Int) : kW t but j = kW a but j := by
 unfold kW
 by_cases hp : aj j = true
 ·have h1 := h j.aN (by unfold AJ; rw [if_pos hp]; simp)
  have h2 := h (j.aN + j.lim) (by unfold AJ; rw [if_pos hp]; simp)
  have e1 : decide (j.aN ≤ t) = decide (j.aN ≤ a) := decide_eq_decide.2 (by omega)
  have e2 : decide (t < j.aN + j.lim) = decide (a < j.aN + j.lim) := decide_eq_decide.2 (by omega)
  rw [e1, e2]
 ·simp [hp]
theorem Hg {L : List Jb} {a t : Int} (hat : a ≤ t) (h : ∀ u ∈ qy L, ¬ (a < u ∧ u ≤ t)) (but : Int) : bV L t but = bV L a but := by
 unfold bV
 congr 2
 refine List.filter_congr fun j hj => ?_
 exact Hf hat (fun u hu => h u (List.mem_flatMap.2 ⟨j, hj, hu⟩)) but
theorem Fw {L : List Jb} {k : Nat} (h : 0 ≤ holderL L k) : ∃ j ∈ L, L.getD (holderL L k).toNat default = j ∧ j.st = 3 := by
 unfold holderL at h ⊢
 cases he : L.findIdx? (aH k) with
 | none => rw [he] at h; exact absurd h (by decide)
 | some q =>
   obtain ⟨h1, h2, _⟩ := List.findIdx?_eq_some_iff_getElem.1 he
   refine ⟨L[q], List.getElem_mem _, by simp [List.getD, h1], ?_⟩
   unfold aH at h2
   simp at h2
   exact h2.1
theorem Hl {M : Md} {a t : Int} (hat : a ≤ t) (h : ∀ u ∈ qy M.L, ¬ (a < u ∧ u ≤ t)) (k : Nat) : bU M t k = bU M a k := by
 unfold bU
 by_cases h0 : holderL M.L k < 0
 ·simp [h0]
 ·obtain ⟨j, hj, he, hs⟩ := Fw (L := M.L) (k := k) (by omega)
  rw [he]
  have := h j.fin (List.mem_flatMap.2 ⟨j, hj, by unfold AJ; rw [if_pos hs]; simp⟩)
  rw [show decide (j.fin ≤ t) = decide (j.fin ≤ a) from decide_eq_decide.2 (by omega)]
theorem AX {M : Md} {a t : Int} (hat : a ≤ t) (h : ∀ u ∈ qy M.L, ¬ (a < u ∧ u ≤ t)) (but : Int) : ay M t but = ay M a but := by
 unfold ay aL
 rw [Hg hat h but, show bU M t = bU M a from funext (Hl hat h)]
structure Ww (T : List Int) (now : Int) (f : Int → Int) : Prop where
 hd : T.head? = some now
 inc : T.Pairwise (· < ·)
 top : ∀ t ∈ T, t < 1152921504606846976
 same : ∀ a t, now ≤ a → a ≤ t → (∀ u ∈ T, ¬ (a < u ∧ u ≤ t)) → f t = f a
theorem Fx {M : Md} (h0 : 0 ≤ M.now) (htop : ∀ t ∈ nC M, t < 1152921504606846976) (but : Int) : Ww (nC M) M.now (fun t => ay M t but) :=
 ⟨rfl, AL h0, htop, fun a t ha hat h => AX hat (fun u hu Yq => h u ((tK h0 u).2 (.inr ⟨by omega, hu⟩)) Yq) but⟩
theorem oZ (A : List (Int × Int)) (x : Int × Int) (i : Nat) : tA (A ++ [x]) i = if i < A.length then tA A i else if i = A.length then x.1 else 0 := by
 unfold tA
 by_cases h : i < A.length
 ·rw [if_pos h, List.getD, List.getElem?_append_left h]; rfl
 ·rw [if_neg h]
  by_cases h2 : i = A.length
  ·subst h2; simp
  ·rw [if_neg h2, List.getD, List.getElem?_eq_none (by simp; omega)]; rfl
theorem AY (A : List (Int × Int)) (x : Int × Int) (i : Nat) : tV (A ++ [x]) i = if i < A.length then tV A i else if i = A.length then x.2 else 0 := by
 unfold tV
 by_cases h : i < A.length
 ·rw [if_pos h, List.getD, List.getElem?_append_left h]; rfl
 ·rw [if_neg h]
  by_cases h2 : i = A.length
  ·subst h2; simp
  ·rw [if_neg h2, List.getD, List.getElem?_eq_none (by simp; omega)]; rfl
structure Pre (A : List (Int × Int)) (now a : Int) (f : Int → Int) : Prop where
 pos : 0 < A.length
 hd : tA A 0 = now
 inc : ∀ i, i + 1 < A.length → tA A i < tA A (i + 1)
 last : ∀ i, i < A.length → tA A i ≤ a
 top : ∀ i, i < A.length → tA A i < 1152921504606846976
 rep : ∀ i t, i < A.length → tA A i ≤ t → (i + 1 < A.length → t < tA A (i + 1)) → t ≤ a → f t = tV A i
 alt : ∀ i, i + 1 < A.length → tV A i ≠ tV A (i + 1)
def vU (f : Int → Int) (acc : List (Int × Int)) (t : Int) : List (Int × Int) :=
 match acc.getLast? with
 | some s => if s.2 = f t then acc else acc ++ [(t, f t)]
 | none => acc ++ [(t, f t)]
theorem Pre.start {now : Int} (f : Int → Int) (ht : now < 1152921504606846976) : Pre (vU f [] now) now now f := by
 have e : vU f [] now = [(now, f now)] := rfl
 rw [e]
 refine ⟨by simp, rfl, fun i h => by simp at h, fun i h => ?_, fun i h => ?_, fun i t h h1 _ h3 => ?_, fun i h => by simp at h⟩
 ·have : i = 0 := by simpa using h
  subst this; exact Int.le_refl _
 ·have : i = 0 := by simpa using h
  subst this; exact ht
 ·have : i = 0 := by simpa using h
  subst this
  have h1 : now ≤ t := h1
  have : t = now := by omega
  subst this; rfl
theorem Hm {A : List (Int × Int)} (h : 0 < A.length) : ∃ s, A.getLast? = some s ∧ s.2 = tV A (A.length - 1) := by
 refine ⟨A.getD (A.length - 1) (0, 0), ?_, rfl⟩
 rw [List.getLast?_eq_getElem?, List.getD, List.getElem?_eq_getElem (by omega)]
 rfl
theorem Pre.next {A : List (Int × Int)} {now a b : Int} {f : Int → Int} (h : Pre A now a f) (hab : a < b) (hb : b < 1152921504606846976) (hf : ∀ t, a ≤ t → t < b → f t = f a) : Pre (vU f A b) now b f := by
 obtain ⟨s, hs, hs2⟩ := Hm h.pos
 have hlast := h.last (A.length - 1) (by have := h.pos; omega)
 have hfa : f a = tV A (A.length - 1) := h.rep _ a (by have := h.pos; omega) hlast (by have := h.pos; omega) (Int.le_refl _)
 have hnew : ∀ t, tA A (A.length - 1) ≤ t → t < b → f t = tV A (A.length - 1) := fun t h1 h2 => by
  rcases Int.lt_or_le a t with h3 | h3
  ·rw [hf t (by omega) h2, hfa]
  ·exact h.rep _ t (by have := h.pos; omega) h1 (by have := h.pos; omega) h3
 have hold : ∀ i t, i + 1 < A.length → tA A i ≤ t → t < tA A (i + 1) → f t = tV A i := fun i t hi h1 h2 => by
  have := h.last (i + 1) hi
  exact h.rep i t (by omega) h1 (fun _ => h2) (by omega)
 unfold vU
 rw [hs]
 simp only
 by_cases he : s.2 = f b
 ·rw [if_pos he]
  refine ⟨h.pos, h.hd, h.inc, fun i hi => by have := h.last i hi; omega, h.top, fun i t hi h1 h2 h3 => ?_, h.alt⟩
  by_cases hi2 : i + 1 < A.length
  ·exact hold i t hi2 h1 (h2 hi2)
  ·have : i = A.length - 1 := by omega
   subst this
   rcases Int.lt_or_le t b with h4 | h4
   ·exact hnew t h1 h4
   ·have : t = b := by omega
    subst this
    rw [← hs2, he]
 ·rw [if_neg he]
  have hl : (A ++ [(b, f b)]).length = A.length + 1 := by simp
  refine ⟨by rw [hl]; omega, ?_, fun i hi => ?_, fun i hi => ?_, fun i hi => ?_, fun i t hi h1 h2 h3 => ?_, fun i hi => ?_⟩
  ·rw [oZ, if_pos h.pos]; exact h.hd
  ·rw [hl] at hi
   rw [oZ, oZ, if_pos (by omega)]
   by_cases h4 : i + 1 < A.length
   ·rw [if_pos h4]; exact h.inc i h4
   ·rw [if_neg h4, if_pos (by omega)]
    have := h.last i (by omega)
    show _ < b
    omega
  ·rw [hl] at hi
   rw [oZ]
   split
   ·have := h.last i (by assumption); omega
   ·rw [if_pos (by omega)]; exact Int.le_refl _
  ·rw [hl] at hi
   rw [oZ]
   split
   ·exact h.top i (by assumption)
   ·rw [if_pos (by omega)]; exact hb
  ·rw [hl] at hi h2
   rw [oZ] at h1
   rw [AY]
   by_cases h4 : i < A.length
   ·rw [if_pos h4] at h1 ⊢
    have h5 := h2 (by omega)
    rw [oZ] at h5
    by_cases h6 : i + 1 < A.length
    ·rw [if_pos h6] at h5; exact hold i t h6 h1 h5
    ·rw [if_neg h6, if_pos (by omega)] at h5
     have : i = A.length - 1 := by omega
     subst this
     exact hnew t h1 h5
   ·rw [if_neg h4, if_pos (by omega)] at h1 ⊢
    have h1 : b ≤ t := h1
    have : t = b := by omega
    rw [this]
  ·rw [hl] at hi
   rw [AY, AY, if_pos (by omega)]
   by_cases h4 : i + 1 < A.length
   ·rw [if_pos h4]; exact h.alt i h4
   ·rw [if_neg h4, if_pos (by omega)]
    have : i = A.length - 1 := by omega
    subst this
    rw [← hs2]
    exact he
theorem Pre.all {A : List (Int × Int)} {now a : Int} {f : Int → Int} {T : List Int} (h : Pre A now a f) (hT : (a :: T).Pairwise (· < ·)) (ht : ∀ t ∈ T, t < 1152921504606846976) (hs : ∀ u t, a ≤ u → u ≤ t → (∀ v ∈ a :: T, ¬ (u < v ∧ v ≤ t)) → f t = f u) : Can (T.foldl (vU f) A) now f := by
 induction T generalizing A a with
 | nil =>
   rw [List.foldl_nil]
   have hlast := h.last (A.length - 1) (by have := h.pos; omega)
   have hfa : f a = tV A (A.length - 1) := h.rep _ a (by have := h.pos; omega) hlast (by have := h.pos; omega) (Int.le_refl _)
   refine ⟨⟨h.pos, h.hd, h.inc, h.top, fun i t hi h1 h2 => ?_⟩, fun i hi _ => h.alt i hi⟩
   rcases Int.lt_or_le a t with h3 | h3
   ·rw [hs a t (Int.le_refl _) (by omega) (fun v hv => by rw [List.mem_singleton] at hv; omega), hfa]
    by_cases h4 : i + 1 < A.length
    ·have := h2 h4
     have := h.last _ h4
     omega
    ·have : i = A.length - 1 := by omega
     rw [this]
   ·exact h.rep i t hi h1 h2 h3
 | cons b T ih =>
   rw [List.foldl_cons]
   rw [List.pairwise_cons] at hT
   have hab := hT.1 b List.mem_cons_self
   refine ih (h.next hab (ht b List.mem_cons_self) fun t h1 h2 => hs a t (Int.le_refl _) h1 fun v hv hc => ?_) hT.2 (fun t hm => ht t (List.mem_cons_of_mem _ hm)) fun u t h1 h2 h3 => hs u t (by omega) h2 fun v hv hc => ?_
   ·rcases List.mem_cons.1 hv with rfl | hv
    ·omega
    ·rcases List.mem_cons.1 hv with rfl | hv
     ·omega
     ·have := (List.pairwise_cons.1 hT.2).1 v hv
      omega
   ·rcases List.mem_cons.1 hv with rfl | hv
    ·omega
    ·exact h3 v hv hc
theorem Ho {M : Md} (h0 : 0 ≤ M.now) (htop : ∀ t ∈ nC M, t < 1152921504606846976) : Can (lV M) M.now (fun t => ay M t 0) := by
 have hr := Fx h0 htop 0
 have e : lV M = (timesGo M.L (2 * M.L.length) M.now).foldl (vU fun t => ay M t 0) (vU (fun t => ay M t 0) [] M.now) := rfl
 rw [e]
 exact (Pre.start _ (htop _ List.mem_cons_self)).all hr.inc (fun t ht => htop t (List.mem_cons_of_mem _ ht)) (fun u t h1 h2 h3 => hr.same u t h1 h2 h3)
end Go.Proofs.YtelnhablglomjaaGreat

namespace Go.Proofs.YtelnhablglomjaaGreat
open Go.RowKit Go.Lib
section
variable {w w' : World} {p : Nat} {dv lv : Value} {M : Md}
theorem ky (f : Nat → Bool) (k : Nat) : (List.range (k + 1)).countP f = (List.range k).countP f + (if f k = true then 1 else 0) := by
 rw [List.range_succ, List.countP_append, List.countP_cons, List.countP_nil]
 simp
end
end Go.Proofs.YtelnhablglomjaaGreat

namespace Go.Proofs.YtelnhablglomjaaGreat
def dO (t but : Int) (j : Jb) : Int := if kW t but j = true then j.wid else 0
theorem iZ (L : List Jb) (t but : Int) : bV L t but = (L.map (dO t but)).sum := by
 induction L with
 | nil => rfl
 | cons a L ih =>
   unfold bV at ih ⊢
   rw [List.map_cons, List.sum_cons, ← ih]
   unfold dO
   by_cases h : kW t but a = true
   ·rw [List.filter_cons_of_pos h, if_pos h, List.map_cons, List.sum_cons]
   ·rw [List.filter_cons_of_neg h, if_neg h, Int.zero_add]
theorem AZ (f : Jb → Int) (L : List Jb) (i : Nat) (y : Jb) (hi : i < L.length) : ((L.set i y).map f).sum = (L.map f).sum - f (L.getD i default) + f y := by
 induction L generalizing i with
 | nil => simp at hi
 | cons a L ih =>
   cases i with
   | zero => simp [List.getD]; omega
   | succ i =>
     have := ih i (by simpa using hi)
     simp only [xC, List.map_cons, List.sum_cons, List.getD_cons_succ]
     rw [this]
     omega
theorem nL {L : List Jb} {i : Nat} (hi : i < L.length) (y : Jb) (t but : Int) : bV (L.set i y) t but = bV L t but - dO t but (L.getD i default) + dO t but y := by
 rw [iZ, iZ]
 exact AZ _ L i y hi
theorem dP {t but : Int} {j : Jb} (h : aj j = false) : dO t but j = 0 := by
 unfold dO kW
 simp [h]
theorem mR {t but : Int} {j : Jb} (h : aj j = true) (hb : j.id ≠ but) : dO t but j = if j.aN ≤ t ∧ t < j.aN + j.lim then j.wid else 0 := by
 unfold dO kW
 by_cases h1 : j.aN ≤ t <;> by_cases h2 : t < j.aN + j.lim <;> simp [h, hb, h1, h2]
theorem Ka {t : Int} {j : Jb} : dO t j.id j = 0 := by
 unfold dO kW
 simp
theorem kz {L : List Jb} {k : Nat} : holderL L k < 0 ↔ ∀ j ∈ L, aH k j = false := by
 unfold holderL
 cases h : L.findIdx? (aH k) with
 | none =>
   rw [List.findIdx?_eq_none_iff] at h
   exact ⟨fun _ => h, fun _ => by decide⟩
 | some i =>
   rw [List.findIdx?_eq_some_iff_getElem] at h
   obtain ⟨hi, h1, _⟩ := h
   refine ⟨fun h => by simp only at h; omega, fun h2 => ?_⟩
   have := h2 _ (List.getElem_mem hi)
   rw [h1] at this
   cases this
theorem Kb {L : List Jb} {k i : Nat} (h : holderL L k = i) : i < L.length ∧ aH k (L.getD i default) = true := by
 unfold holderL at h
 cases h1 : L.findIdx? (aH k) with
 | none => rw [h1] at h; simp only at h; omega
 | some q =>
   rw [h1] at h
   simp only at h
   have : q = i := by omega
   subst this
   rw [List.findIdx?_eq_some_iff_getElem] at h1
   obtain ⟨hi, h2, _⟩ := h1
   exact ⟨hi, by simp [List.getD, hi, h2]⟩
theorem fH (L : List Jb) (k : Nat) : holderL L k < 0 ∨ ∃ i : Nat, holderL L k = i ∧ i < L.length ∧ aH k (L.getD i default) = true := by
 rcases Int.lt_or_le (holderL L k) 0 with h | h
 ·exact .inl h
 ·obtain ⟨i, hi⟩ := Int.eq_ofNat_of_zero_le h
  exact .inr ⟨i, hi, Kb hi⟩
def xn (L : List Jb) : Prop := ∀ i k n : Nat, i < L.length → k < L.length → aH n (L.getD i default) = true → aH n (L.getD k default) = true → i = k
theorem vK {L : List Jb} (hd : xn L) {n i : Nat} (hi : i < L.length) (h : aH n (L.getD i default) = true) : holderL L n = i := by
 rcases fH L n with h1 | ⟨q, h1, hq, h2⟩
 ·have := kz.1 h1 (L.getD i default) (by simp [List.getD, hi])
  rw [h] at this
  cases this
 ·rw [h1, hd i q n hi hq h h2]
theorem gz {L : List Jb} {i q : Nat} {y : Jb} : (L.set i y).getD q default = if i = q ∧ i < L.length then y else L.getD q default := by
 simp only [List.getD, List.getElem?_set]
 by_cases h : i = q
 ·subst h
  by_cases h2 : i < L.length
  ·simp [h2]
  ·simp [h2]
 ·simp [h]
theorem jF {L : List Jb} {i : Nat} {y : Jb} {n : Nat} (hi : i < L.length) (h : aH n y = aH n (L.getD i default)) : holderL (L.set i y) n = holderL L n := by
 unfold holderL
 have : (L.set i y).findIdx? (aH n) = L.findIdx? (aH n) := by
  have e : ∀ M : List Jb, M.findIdx? (aH n) = (M.map (aH n)).findIdx? id := fun M => by rw [List.findIdx?_map]; rfl
  rw [e, e, List.map_set, h]
  congr 1
  have : (L.map (aH n))[i]? = some (aH n (L.getD i default)) := by simp [List.getD, hi]
  refine List.ext_getElem? fun q => ?_
  rw [List.getElem?_set]
  split
  ·rename_i h1; subst h1
   split
   ·rw [this]
   ·simp_all
  ·rfl
 rw [this]
theorem holds_of {n : Nat} {x y : Jb} (h1 : (y.st = 3) ↔ (x.st = 3)) (h2 : y.bQ = x.bQ) : aH n y = aH n x := by
 unfold aH
 rw [h2]
 by_cases h : x.st = 3
 ·simp [h, h1.2 h]
 ·simp [h, mt h1.1 h]
section
variable {M : Md}
theorem rP {i : Nat} {y : Jb} (hi : i < M.L.length) (h1 : (y.st = 3) ↔ ((M.L.getD i default).st = 3)) (h2 : y.bQ = (M.L.getD i default).bQ) (h3 : y.fin = (M.L.getD i default).fin) (t but : Int) :
 ay { M with L := M.L.set i y } t but = ay M t but + dO t but (M.L.getD i default) - dO t but y := by
 have hn : ∀ k, bU { M with L := M.L.set i y } t k = bU M t k := fun k => by
  unfold bU
  have e := jF (n := k) hi (holds_of h1 h2)
  show (!(M.dr.getD k false) && (decide (holderL (M.L.set i y) k < 0) || decide (((M.L.set i y).getD (holderL (M.L.set i y) k).toNat default).fin ≤ t))) = _
  rw [e, gz]
  split
  ·rename_i h; rw [h3, ← h.1]
  ·rfl
 have hf : aL { M with L := M.L.set i y } t M.dr.length = aL M t M.dr.length := by
  unfold aL
  congr 2
  exact funext fun k => hn k
 show aL { M with L := M.L.set i y } t M.dr.length - bV (M.L.set i y) t but = aL M t M.dr.length - bV M.L t but + dO t but (M.L.getD i default) - dO t but y
 rw [hf, nL hi]
 omega
theorem jd {i : Nat} {u : Int} (hi : i < M.L.length) (t but : Int) :
 ay { M with L := M.L.set i ((M.L.getD i default).aG u) } t but = ay M t but + dO t but (M.L.getD i default) - dO t but ((M.L.getD i default).aG u) :=
 rP (y := (M.L.getD i default).aG u) hi Iff.rfl rfl rfl t but
theorem mV {i : Nat} (hi : i < M.L.length) (hid : ∀ q, q < M.L.length → (M.L.getD q default).id = (q : Int) + 1) (t : Int) : ay M t ((i : Int) + 1) = ay M t 0 + dO t 0 (M.L.getD i default) := by
 have h : bV M.L t ((i : Int) + 1) = bV M.L t 0 - dO t 0 (M.L.getD i default) := by
  have hd := jd (M := M) (u := -1) hi t 0
  have hd2 := jd (M := M) (u := -1) hi t ((i : Int) + 1)
  have e0 : ∀ b, dO t b ((M.L.getD i default).aG (-1)) = 0 := fun b => dP (by unfold aj; simp [Jb.aG, Jb.aN])
  have e1 : dO t ((i : Int) + 1) (M.L.getD i default) = 0 := by rw [← hid i hi]; exact Ka
  have e2 : bV (M.L.set i ((M.L.getD i default).aG (-1))) t ((i : Int) + 1) = bV (M.L.set i ((M.L.getD i default).aG (-1))) t 0 := by
   rw [iZ, iZ]
   congr 1
   refine List.map_congr_left fun j hj => ?_
   obtain ⟨q, hq, rfl⟩ := List.getElem_of_mem hj
   have hq' : q < M.L.length := by simpa using hq
   have hg : (M.L.set i ((M.L.getD i default).aG (-1)))[q] = (M.L.set i ((M.L.getD i default).aG (-1))).getD q default := by simp [List.getD, hq']
   rw [hg, gz]
   split
   ·rw [e0, e0]
   ·rename_i hne
    have hqi : q ≠ i := fun e => hne ⟨e.symm, hi⟩
    have := hid q hq'
    unfold dO kW
    rw [this]
    have a1 : decide ((q : Int) + 1 ≠ (i : Int) + 1) = true := decide_eq_true (by omega)
    have a2 : decide ((q : Int) + 1 ≠ 0) = true := decide_eq_true (by omega)
    rw [a1, a2]
  rw [nL hi, nL hi, e0, e0, e1] at e2
  omega
 unfold ay
 omega
theorem zm (f g : Nat → Bool) (n N : Nat) (hn : n < N) (h : ∀ k, k ≠ n → f k = g k) : (((List.range N).countP f : Nat) : Int) = ((List.range N).countP g : Nat) - (if g n = true then 1 else 0) + (if f n = true then 1 else 0) := by
 induction N with
 | zero => omega
 | succ N ih =>
   rw [ky, ky]
   by_cases e : n = N
   ·subst e
    have : (List.range n).countP f = (List.range n).countP g := List.countP_congr fun k hk => by rw [h k (by have := List.mem_range.1 hk; omega)]
    rw [this]
    split <;> split <;> omega
   ·have h1 := ih (by omega)
    rw [h N (fun e2 => e e2.symm)]
    split <;> omega
theorem xq {n : Nat} (hn : n < M.dr.length) (b : Bool) (t but : Int) :
 ay { M with dr := M.dr.set n b } t but = ay M t but - (if bU M t n = true then 1 else 0) + (if (!b && (decide (holderL M.L n < 0) || decide ((M.L.getD (holderL M.L n).toNat default).fin ≤ t))) = true then 1 else 0) := by
 have hs : ∀ k, (M.dr.set n b).getD k false = if n = k then b else M.dr.getD k false := fun k => by
  simp only [List.getD, List.getElem?_set]
  by_cases h : n = k
  ·subst h; simp [hn]
  ·simp [h]
 have h := zm (bU { M with dr := M.dr.set n b } t) (bU M t) n M.dr.length hn (fun k hk => by
  unfold bU
  show (!((M.dr.set n b).getD k false) && _) = _
  rw [hs, if_neg (fun e => hk e.symm)])
 have e : bU { M with dr := M.dr.set n b } t n = (!b && (decide (holderL M.L n < 0) || decide ((M.L.getD (holderL M.L n).toNat default).fin ≤ t))) := by
  unfold bU
  show (!((M.dr.set n b).getD n false) && _) = _
  rw [hs, if_pos rfl]
 rw [e] at h
 show aL { M with dr := M.dr.set n b } t (M.dr.set n b).length - bV M.L t but = aL M t M.dr.length - bV M.L t but - _ + _
 rw [List.length_set]
 unfold aL
 rw [h]
 omega
end
end Go.Proofs.YtelnhablglomjaaGreat

namespace Go.Proofs.YtelnhablglomjaaGreat
theorem lD (s n : Nat) : cZ s n = s.testBit n := by
 unfold cZ
 rw [Nat.testBit_eq_decide_div_mod_eq]
theorem uW {s k : Nat} (h : s < 2 ^ k) (n : Nat) : cZ (s + 2 ^ k) n = (cZ s n || decide (n = k)) := by
 rw [lD, lD, Nat.add_comm]
 rcases Nat.lt_trichotomy n k with h1 | h1 | h1
 ·rw [Nat.testBit_two_pow_add_gt h1]
  simp [Nat.ne_of_lt h1]
 ·subst h1
  rw [Nat.testBit_two_pow_add_eq, Nat.testBit_lt_two_pow h]
  simp
 ·have h2 : 2 ^ (k + 1) ≤ 2 ^ n := Nat.pow_le_pow_right (by decide) h1
  rw [Nat.pow_succ] at h2
  rw [Nat.testBit_lt_two_pow (show 2 ^ k + s < 2 ^ n by omega), Nat.testBit_lt_two_pow (show s < 2 ^ n by omega)]
  simp [Nat.ne_of_gt h1]
theorem DN {s k n : Nat} (h : s < 2 ^ k) (hn : k ≤ n) : cZ s n = false := by
 rw [lD]
 exact Nat.testBit_lt_two_pow (Nat.lt_of_lt_of_le h (Nat.pow_le_pow_right (by decide) hn))
section
variable {M : Md}
theorem pq (M : Md) (wid : Int) (k n : Nat) (h : cZ (lowGo M wid k).1 n = true) : n < k ∧ aR M n = 1 := by
 induction k with
 | zero => simp [lowGo, cZ] at h
 | succ k ih =>
   unfold lowGo at h
   split at h
   ·rename_i hc
    rw [uW (oI M wid k).1] at h
    rcases Bool.or_eq_true _ _ ▸ h with h | h
    ·have := ih h; exact ⟨by omega, this.2⟩
    ·have h := of_decide_eq_true h; subst h; exact ⟨by omega, hc.2⟩
   ·have := ih h; exact ⟨by omega, this.2⟩
theorem xu (M : Md) (wid : Int) (k N : Nat) (hN : k ≤ N) : (((List.range N).countP (cZ (lowGo M wid k).1) : Nat) : Int) = (lowGo M wid k).2 := by
 induction k with
 | zero =>
   have : (List.range N).countP (cZ (lowGo M wid 0).1) = 0 := List.countP_eq_zero.2 fun n _ => by simp [lowGo, cZ]
   rw [this]; rfl
 | succ k ih =>
   have ih := ih (by omega)
   unfold lowGo
   split
   ·show (((List.range N).countP (cZ ((lowGo M wid k).1 + 2 ^ k)) : Nat) : Int) = (lowGo M wid k).2 + 1
    have hl := (oI M wid k).1
    have := zm (cZ ((lowGo M wid k).1 + 2 ^ k)) (cZ (lowGo M wid k).1) k N (by omega) (fun n hn => by rw [uW hl]; simp [hn])
    rw [this, uW hl, DN hl (Nat.le_refl _), ih]
    simp
   ·exact ih
theorem Hq (M : Md) (wid : Int) (k : Nat) (hw : 0 ≤ wid) (h : wid ≤ ((List.range k).countP fun n : Nat => decide (aR M n = 1) : Nat)) : (lowGo M wid k).2 = wid := by
 have key : ∀ k : Nat, (lowGo M wid k).2 = min wid (((List.range k).countP fun n : Nat => decide (aR M n = 1) : Nat) : Int) := fun k => by
  induction k with
  | zero => simp [lowGo]; omega
  | succ k ih =>
    rw [ky]
    unfold lowGo
    by_cases h1 : aR M k = 1
    ·simp only [h1, decide_true, if_true, and_true]
     split
     ·show (lowGo M wid k).2 + 1 = _
      omega
     ·omega
    ·simp only [h1, decide_false, and_false, if_false]
     rw [ih]
     simp
 rw [key]
 omega
theorem jV {n : Nat} (hn : n < M.dr.length) : aR M n = 1 ↔ holderL M.L n < 0 ∧ M.dr.getD n false = false := by
 unfold aR
 rw [if_neg (by omega)]
 simp only [Int.toNat_natCast]
 by_cases h : 0 ≤ holderL M.L n
 ·rw [if_pos h]
  constructor
  ·intro h1
   split at h1 <;> omega
  ·intro h1
   omega
 ·rw [if_neg h]
  by_cases hb : M.dr.getD n false = true
  ·rw [if_pos hb]
   constructor
   ·intro h1
    omega
   ·intro h1
    rw [hb] at h1
    exact absurd h1.2 (by decide)
  ·rw [if_neg hb]
   exact ⟨fun _ => ⟨by omega, by
    cases e : M.dr.getD n false with
    | false => rfl
    | true => exact absurd e hb⟩, fun _ => rfl⟩
theorem xw (f g s : Nat → Bool) (b : Bool) (N : Nat) (h1 : ∀ n, n < N → s n = true → g n = true ∧ f n = b) (h2 : ∀ n, n < N → s n = false → f n = g n) :
 (((List.range N).countP f : Nat) : Int) = ((List.range N).countP g : Nat) - (if b = true then 0 else ((List.range N).countP s : Nat)) := by
 induction N with
 | zero => simp
 | succ N ih =>
   have ih := ih (fun n hn => h1 n (by omega)) (fun n hn => h2 n (by omega))
   rw [ky, ky, ky]
   cases hs : s N with
   | true =>
     obtain ⟨e1, e2⟩ := h1 N (by omega) hs
     rw [e1, e2]
     cases b <;> simp at ih ⊢ <;> omega
   | false =>
     rw [h2 N (by omega) hs]
     cases b <;> simp at ih ⊢ <;> omega
theorem rQ {i : Nat} (hi : i < M.L.length) (hst : (M.L.getD i default).st ≠ 3) (t but : Int) :
 ay (aW M i) t but = ay M t but + dO t but (M.L.getD i default) - (if t < M.now + (M.L.getD i default).lim then (lowGo M (M.L.getD i default).wid M.dr.length).2 else 0) := by
 generalize hx : M.L.getD i default = x at *
 have hy : (fT M x).st = 3 := rfl
 have hs : ∀ n, cZ (iP M x.wid) n = true → n < M.dr.length ∧ holderL M.L n < 0 ∧ M.dr.getD n false = false := fun n h => by
  obtain ⟨h1, h2⟩ := pq M x.wid M.dr.length n h
  exact ⟨h1, (jV h1).1 h2⟩
 have A7 : ∀ n, aH n (fT M x) = cZ (iP M x.wid) n := fun n => by
  unfold aH
  rw [hy]
  show (decide ((3 : Int) = 3) && cZ ((iP M x.wid : Nat) : Int).toNat n) = _
  simp
 have hxh : ∀ n, aH n x = false := fun n => by unfold aH; simp [hst]
 have hold : ∀ n, holderL (M.L.set i (fT M x)) n = if cZ (iP M x.wid) n = true then (i : Int) else holderL M.L n := fun n => by
  split
  ·rename_i h
   have hneg := kz.1 (hs n h).2.1
   rcases fH (M.L.set i (fT M x)) n with h1 | ⟨q, h1, hq, h2⟩
   ·have := kz.1 h1 (fT M x) (List.mem_set hi _)
    rw [A7, h] at this
    cases this
   ·rw [gz] at h2
    split at h2
    ·rename_i e; rw [h1, e.1]
    ·have hq' : q < M.L.length := by simpa using hq
     have := hneg (M.L.getD q default) (by simp [List.getD, hq'])
     rw [h2] at this
     cases this
  ·rename_i h
   refine jF hi ?_
   rw [hx, A7, hxh]
   simpa using h
 have Vr : ∀ n, n < M.dr.length → cZ (iP M x.wid) n = true → bU M t n = true ∧ bU (aW M i) t n = decide (M.now + x.lim ≤ t) := fun n hn h => by
  obtain ⟨h1, h2, h3⟩ := hs n h
  refine ⟨by unfold bU; rw [h3]; simp [h2], ?_⟩
  unfold bU aW
  simp only [hx]
  rw [hold, if_pos h, h3, Int.toNat_natCast, gz, if_pos ⟨rfl, hi⟩]
  have : ¬ (i : Int) < 0 := by omega
  simp only [this, decide_false, Bool.false_or, Bool.not_false, Bool.true_and]
  rfl
 have hsame : ∀ n, n < M.dr.length → cZ (iP M x.wid) n = false → bU (aW M i) t n = bU M t n := fun n hn h => by
  have h' : ¬ cZ (iP M x.wid) n = true := by simp [h]
  unfold bU aW
  simp only [hx]
  rw [hold, if_neg h', gz]
  split
  ·rename_i e
   rcases fH M.L n with g1 | ⟨q, g1, hq, g2⟩
   ·simp [g1]
   ·rw [g1, Int.toNat_natCast] at e
    rw [← e.1, hx, hxh] at g2
    cases g2
  ·rfl
 have hcount := xw (bU (aW M i) t) (bU M t) (cZ (iP M x.wid)) (decide (M.now + x.lim ≤ t)) M.dr.length Vr hsame
 have hlc := xu M x.wid M.dr.length M.dr.length (Nat.le_refl _)
 have hfn : aL (aW M i) t M.dr.length = aL M t M.dr.length - (if t < M.now + x.lim then (lowGo M x.wid M.dr.length).2 else 0) := by
  unfold aL
  rw [hcount, ← hlc]
  unfold iP
  by_cases h : M.now + x.lim ≤ t
  ·rw [if_pos (decide_eq_true h), if_neg (by omega)]; simp
  ·rw [if_neg (by simp [h]), if_pos (by omega)]
 have htk : bV (M.L.set i (fT M x)) t but = bV M.L t but - dO t but x := by
  rw [nL hi, hx, dP (j := fT M x) (by unfold aj; rw [hy]; rfl)]
  omega
 show aL (aW M i) t M.dr.length - bV (M.L.set i (fT M (M.L.getD i default))) t but = aL M t M.dr.length - bV M.L t but + dO t but x - _
 rw [hx, htk, hfn]
 omega
theorem rR {i : Nat} {y : Jb} (hd : xn M.L) (hi : i < M.L.length) (hst : (M.L.getD i default).st = 3) (hy : y.st ≠ 3) (hyp : aj y = false) (t but : Int) :
 ay { M with L := M.L.set i y } t but = ay M t but + (if t < (M.L.getD i default).fin then ((List.range M.dr.length).countP (fun n => cZ (M.L.getD i default).bQ.toNat n && !(M.dr.getD n false)) : Nat) else 0) := by
 generalize hx : M.L.getD i default = x at *
 have hxh : ∀ n, aH n x = cZ x.bQ.toNat n := fun n => by unfold aH; simp [hst]
 have Ql : ∀ n, aH n y = false := fun n => by unfold aH; simp [hy]
 have hold : ∀ n, holderL (M.L.set i y) n = if cZ x.bQ.toNat n = true then -1 else holderL M.L n := fun n => by
  split
  ·rename_i h
   rcases fH (M.L.set i y) n with h1 | ⟨q, h1, hq, h2⟩
   ·unfold holderL at h1 ⊢
    cases h3 : (M.L.set i y).findIdx? (aH n) with
    | none => rfl
    | some q => rw [h3] at h1; simp only at h1; omega
   ·rw [gz] at h2
    have hq' : q < M.L.length := by simpa using hq
    split at h2
    ·rw [Ql] at h2; cases h2
    ·rename_i e
     exact absurd (hd i q n hi hq' (by rw [hx, hxh]; exact h) h2) (fun e2 => e ⟨e2, hi⟩)
  ·rename_i h
   exact jF hi (by rw [hx, Ql, hxh]; simpa using h)
 have hS : ∀ n, n < M.dr.length → (cZ x.bQ.toNat n && !(M.dr.getD n false)) = true → bU { M with L := M.L.set i y } t n = true ∧ bU M t n = decide (x.fin ≤ t) := fun n hn h => by
  simp only [Bool.and_eq_true, Bool.not_eq_true'] at h
  constructor
  ·unfold bU
   simp only
   rw [hold, if_pos h.1, h.2]
   rfl
  ·unfold bU
   rw [vK hd hi (by rw [hx, hxh]; exact h.1), Int.toNat_natCast, hx, h.2]
   have : ¬ (i : Int) < 0 := by omega
   simp [this]
 have hT : ∀ n, n < M.dr.length → (cZ x.bQ.toNat n && !(M.dr.getD n false)) = false → bU M t n = bU { M with L := M.L.set i y } t n := fun n hn h => by
  unfold bU
  simp only
  rw [hold]
  by_cases h1 : cZ x.bQ.toNat n = true
  ·rw [h1, Bool.true_and] at h
   have h2 : M.dr.getD n false = true := by simpa using h
   rw [h2]
   rfl
  ·rw [if_neg h1, gz]
   split
   ·rename_i e
    rcases fH M.L n with g1 | ⟨q, g1, hq, g2⟩
    ·simp [g1]
    ·rw [g1, Int.toNat_natCast] at e
     rw [← e.1, hx, hxh] at g2
     exact absurd g2 h1
   ·rfl
 have hcount := xw (bU M t) (bU { M with L := M.L.set i y } t) (fun n => cZ x.bQ.toNat n && !(M.dr.getD n false)) (decide (x.fin ≤ t)) M.dr.length hS hT
 have htk : bV (M.L.set i y) t but = bV M.L t but := by
  have hxp : aj x = false := by unfold aj; simp [hst]
  rw [nL hi, hx, dP hyp, dP hxp]
  omega
 show aL { M with L := M.L.set i y } t M.dr.length - bV (M.L.set i y) t but = aL M t M.dr.length - bV M.L t but + _
 rw [htk]
 unfold aL
 by_cases h : x.fin ≤ t
 ·rw [if_pos (decide_eq_true h)] at hcount
  rw [if_neg (by omega)]
  omega
 ·rw [if_neg (by simp [h])] at hcount
  rw [if_pos (by omega)]
  omega
end
end Go.Proofs.YtelnhablglomjaaGreat

namespace Go.Proofs.YtelnhablglomjaaGreat
structure aF (M : Md) : Prop where
 mb : MB M
 ids : ∀ i, i < M.L.length → (M.L.getD i default).id = (i : Int) + 1
 one : ∀ j ∈ M.L, 1 ≤ j.wid ∧ j.wid ≤ M.dr.length ∧ 1 ≤ j.lim ∧ 1 ≤ j.st ∧ j.st ≤ 6
 rest : ∀ j ∈ M.L, j.st ≠ 1 → j.aN = -1
 runs : ∀ j ∈ M.L, j.st = 3 → M.now ≤ j.fin ∧ (((List.range M.dr.length).countP (cZ j.bQ.toNat) : Nat) : Int) = j.wid ∧ j.bQ.toNat < 2 ^ M.dr.length
 plan : ∀ j ∈ M.L, j.aN = -1 ∨ M.now ≤ j.aN
 l9 : xn M.L
 free : ∀ t, M.now ≤ t → 0 ≤ ay M t 0
structure Calm (M : Md) : Prop where
 runs : ∀ j ∈ M.L, j.st = 3 → M.now < j.fin
 plan : ∀ j ∈ M.L, j.aN = -1 ∨ M.now < j.aN
theorem iN {t but : Int} {j : Jb} (h : 0 ≤ j.wid) : 0 ≤ dO t but j := by
 unfold dO
 split <;> omega
theorem xn.set {L : List Jb} {i : Nat} {y : Jb} (hd : xn L) (hi : i < L.length) (h : ∀ n, aH n y = true → aH n (L.getD i default) = true ∨ holderL L n < 0) : xn (L.set i y) := by
 intro a b n ha hb h1 h2
 have ha' : a < L.length := by simpa using ha
 have hb' : b < L.length := by simpa using hb
 rw [gz] at h1 h2
 have other : ∀ q, q < L.length → aH n y = true → aH n (L.getD q default) = true → i = q := fun q hq hy hq2 => by
  rcases h n hy with h3 | h3
  ·exact hd i q n hi hq h3 hq2
  ·have := kz.1 h3 (L.getD q default) (by simp [List.getD, hq])
   rw [hq2] at this
   cases this
 split at h1
 ·rename_i e1
  split at h2
  ·rename_i e2; omega
  ·exact e1.1.symm.trans (other b hb' h1 h2)
 ·split at h2
  ·rename_i e2; exact (other a ha' h2 h1).symm.trans e2.1
  ·exact hd a b n ha' hb' h1 h2
theorem aY {L : List Jb} {i : Nat} (hi : i < L.length) : L.getD i default ∈ L := by simp [List.getD, hi]
section
variable {M : Md}
theorem aF.set (h : aF M) {i : Nat} {y : Jb} (hmb : MB { M with L := M.L.set i y }) (hid : y.id = (M.L.getD i default).id)
 (h1 : 1 ≤ y.wid ∧ y.wid ≤ M.dr.length ∧ 1 ≤ y.lim ∧ 1 ≤ y.st ∧ y.st ≤ 6) (h2 : y.st ≠ 1 → y.aN = -1)
 (h3 : y.st = 3 → M.now ≤ y.fin ∧ (((List.range M.dr.length).countP (cZ y.bQ.toNat) : Nat) : Int) = y.wid ∧ y.bQ.toNat < 2 ^ M.dr.length)
 (h4 : y.aN = -1 ∨ M.now ≤ y.aN) (hd : xn (M.L.set i y)) (hf : ∀ t, M.now ≤ t → 0 ≤ ay { M with L := M.L.set i y } t 0) : aF { M with L := M.L.set i y } := by
 have H : ∀ {P : Jb → Prop}, (∀ j ∈ M.L, P j) → P y → ∀ j ∈ M.L.set i y, P j := fun h hx j hj => by
  rcases List.mem_or_eq_of_mem_set hj with h1 | rfl
  ·exact h j h1
  ·exact hx
 refine ⟨hmb, fun q hq => ?_, H h.one h1, H h.rest h2, H h.runs h3, H h.plan h4, hd, hf⟩
 have hq' : q < M.L.length := by simpa using hq
 show ((M.L.set i y).getD q default).id = _
 rw [gz]
 split
 ·rename_i e; rw [hid, e.1]; exact h.ids q hq'
 ·exact h.ids q hq'
theorem Calm.set (h : Calm M) {i : Nat} {y : Jb} (h1 : y.st = 3 → M.now < y.fin) (h2 : y.aN = -1 ∨ M.now < y.aN) : Calm { M with L := M.L.set i y } := by
 have H : ∀ {P : Jb → Prop}, (∀ j ∈ M.L, P j) → P y → ∀ j ∈ M.L.set i y, P j := fun h hx j hj => by
  rcases List.mem_or_eq_of_mem_set hj with h1 | rfl
  ·exact h j h1
  ·exact hx
 exact ⟨H h.runs h1, H h.plan h2⟩
theorem A8 {x y : Jb} (h1 : (y.st = 3) ↔ (x.st = 3)) (h2 : y.bQ = x.bQ) (L : List Jb) : ∀ n, aH n y = true → aH n x = true ∨ holderL L n < 0 := fun n h => .inl (by rw [← holds_of h1 h2]; exact h)
theorem aF.xy (h : aF M) {i : Nat} (hi : i < M.L.length) : aF { M with L := M.L.set i ((M.L.getD i default).aG (-1)) } := by
 have hm := aY hi
 have bw := h.mb.wid _ hm
 have bl := h.mb.lim _ hm
 have bf := h.mb.fin _ hm
 have bn := h.mb.bQ _ hm
 have bo := h.one _ hm
 have br := h.runs _ hm
 refine h.set (h.mb.set _ _ bw bl (by show (-1 : Int) ≤ -1 ∧ (-1 : Int) ≤ _; omega) bf bn) rfl bo (fun _ => rfl) br (.inl rfl) (h.l9.set hi (A8 Iff.rfl rfl _)) fun t ht => ?_
 rw [jd hi]
 have h1 := h.free t ht
 have h2 := iN (t := t) (but := 0) bw.1
 rw [dP (j := (M.L.getD i default).aG (-1)) (by unfold aj; simp [Jb.aG, Jb.aN])]
 omega
theorem aF.TB (h : aF M) (j : Jb) (i : Nat) (hi : i ≤ M.L.length) : aF { M with L := eQ (gQ j) M.L i } := by
 induction i with
 | zero => exact h
 | succ i ih =>
   have ih := ih (by omega)
   have hl : i < (eQ (gQ j) M.L i).length := by rw [oW]; omega
   have ha := qP (f := gQ j) (L := M.L) (i := i) (by omega)
   rw [← jq (f := gQ j) (L := M.L) (i := i) (by omega)]
   by_cases hp : (aj (M.L.getD i default) && (decide (j.id = 0) || aV j (M.L.getD i default))) = true
   ·have e : gQ j (M.L.getD i default) = (M.L.getD i default).aG (-1) := by unfold gQ; rw [if_pos hp]
    have := ih.xy hl
    simp only [ha] at this
    rw [e]
    exact this
   ·have e : gQ j (M.L.getD i default) = M.L.getD i default := by unfold gQ; rw [if_neg hp]
    rw [jq (by omega), ← nK (by omega) e]
    exact ih
theorem aF.drop (h : aF M) (j : Jb) : aF (fC M j) := by
 have := h.TB j M.L.length (Nat.le_refl _)
 rw [rO] at this
 exact this
theorem Calm.drop (h : Calm M) (j : Jb) : Calm (fC M j) := by
 refine ⟨fun x hx => ?_, fun x hx => ?_⟩
 ·obtain ⟨y, hy, rfl⟩ := List.mem_map.1 hx
  unfold gQ
  split
  ·exact h.runs y hy
  ·exact h.runs y hy
 ·obtain ⟨y, hy, rfl⟩ := List.mem_map.1 hx
  unfold gQ
  split
  ·exact .inl rfl
  ·exact h.plan y hy
theorem xz (L : List Jb) (x : Jb) (n : Nat) (hx : aH n x = false) : holderL (L ++ [x]) n = holderL L n := by
 unfold holderL
 rw [List.findIdx?_append]
 have : [x].findIdx? (aH n) = none := by rw [List.findIdx?_eq_none_iff]; intro y hy; rw [List.mem_singleton] at hy; subst hy; exact hx
 rw [this]
 cases L.findIdx? (aH n) <;> rfl
theorem uX {L : List Jb} {x : Jb} {q : Nat} (hq : q < L.length) : (L ++ [x]).getD q default = L.getD q default := by
 simp only [List.getD]
 rw [List.getElem?_append_left hq]
theorem A9 (x : Jb) (h1 : x.st ≠ 3) (h2 : aj x = false) (t but : Int) : ay { M with L := M.L ++ [x] } t but = ay M t but := by
 have hx : ∀ n, aH n x = false := fun n => by unfold aH; simp [h1]
 have hn : ∀ k, bU { M with L := M.L ++ [x] } t k = bU M t k := fun k => by
  unfold bU
  simp only
  rw [xz _ _ _ (hx k)]
  rcases fH M.L k with g | ⟨q, g, hq, _⟩
  ·simp [g]
  ·rw [g, Int.toNat_natCast, uX hq]
 have e : aL { M with L := M.L ++ [x] } t M.dr.length = aL M t M.dr.length := by
  unfold aL
  congr 2
  exact funext fun k => hn k
 show aL { M with L := M.L ++ [x] } t M.dr.length - bV (M.L ++ [x]) t but = aL M t M.dr.length - bV M.L t but
 rw [e, iZ, iZ, List.map_append, List.sum_append]
 simp [dP h2]
theorem aF.app (h : aF M) (x : Jb) (hmb : MB { M with L := M.L ++ [x] }) (hid : x.id = (M.L.length : Int) + 1) (h1 : 1 ≤ x.wid ∧ x.wid ≤ M.dr.length ∧ 1 ≤ x.lim ∧ 1 ≤ x.st ∧ x.st ≤ 6) (h2 : x.aN = -1) (h3 : x.st ≠ 3) : aF { M with L := M.L ++ [x] } := by
 have H : ∀ {P : Jb → Prop}, (∀ j ∈ M.L, P j) → P x → ∀ j ∈ M.L ++ [x], P j := fun h hx j hj => by
  rcases List.mem_append.1 hj with h1 | h1
  ·exact h j h1
  ·rw [List.mem_singleton] at h1; subst h1; exact hx
 have hx : ∀ n, aH n x = false := fun n => by unfold aH; simp [h3]
 have hlast : (M.L ++ [x]).getD M.L.length default = x := by simp [List.getD]
 refine ⟨hmb, fun q hq => ?_, H h.one h1, H h.rest fun _ => h2, H h.runs fun e => absurd e h3, H h.plan (.inl h2), fun a b n ha hb k1 k2 => ?_, fun t ht => ?_⟩
 ·show ((M.L ++ [x]).getD q default).id = _
  rcases Nat.lt_or_ge q M.L.length with g | g
  ·rw [uX g]; exact h.ids q g
  ·have : q = M.L.length := by have : q < (M.L ++ [x]).length := hq; simp at this; omega
   subst this
   rw [hlast, hid]
 ·have at' : ∀ q, q < (M.L ++ [x]).length → aH n ((M.L ++ [x]).getD q default) = true → q < M.L.length := fun q hq k => by
   rcases Nat.lt_or_ge q M.L.length with g | g
   ·exact g
   ·have : q = M.L.length := by simp at hq; omega
    subst this
    rw [hlast, hx] at k
    cases k
  have a1 := at' a ha k1
  have b1 := at' b hb k2
  rw [uX a1] at k1
  rw [uX b1] at k2
  exact h.l9 a b n a1 b1 k1 k2
 ·rw [A9 x h3 (by unfold aj; simp [h2])]
  exact h.free t ht
theorem Calm.app (h : Calm M) (x : Jb) (h2 : x.aN = -1) (h3 : x.st ≠ 3) : Calm { M with L := M.L ++ [x] } := by
 have H : ∀ {P : Jb → Prop}, (∀ j ∈ M.L, P j) → P x → ∀ j ∈ M.L ++ [x], P j := fun h hx j hj => by
  rcases List.mem_append.1 hj with h1 | h1
  ·exact h j h1
  ·rw [List.mem_singleton] at h1; subst h1; exact hx
 exact ⟨H h.runs fun e => absurd e h3, H h.plan (.inl h2)⟩
end
end Go.Proofs.YtelnhablglomjaaGreat

namespace Go.Proofs.YtelnhablglomjaaGreat
section
variable {M : Md}
theorem aF.TC (h : aF M) (hc : Calm M) (r : Rw) : aF (jS M r).2 ∧ Calm (jS M r).2 := by
 have hn := h.mb.nn
 unfold jS
 split
 ·exact ⟨h, hc⟩
 ·rename_i hE
  have e : iF M r = 0 := by omega
  unfold iF at e
  split at e
  ·omega
  split at e
  ·omega
  split at e
  ·omega
  split at e
  ·omega
  rename_i h2 h3 h4 h5
  have hst : (dB M r).st = if r.held then 2 else 1 := rfl
  have DR : 1 ≤ (dB M r).st ∧ (dB M r).st ≤ 2 := by rw [hst]; split <;> omega
  have hmb : MB { M with L := M.L ++ [dB M r] } := h.mb.app _ (by omega) (by show 0 ≤ r.wid ∧ r.wid ≤ 64; omega) (by show 0 ≤ r.lim ∧ r.lim ≤ 1048576; omega) (by show (-1 : Int) ≤ -1 ∧ (-1 : Int) ≤ _; omega) (by show (-1 : Int) ≤ -1 ∧ (-1 : Int) ≤ _; omega) (by show (0 : Int) ≤ 0 ∧ (0 : Int) ≤ _; omega)
  have ha := h.app (dB M r) hmb rfl ⟨show 1 ≤ r.wid by omega, show r.wid ≤ _ by omega, show 1 ≤ r.lim by omega, DR.1, by omega⟩ rfl (by omega)
  have Wx := hc.app (dB M r) rfl (by omega)
  split
  ·exact ⟨ha, Wx⟩
  ·exact ⟨ha.drop _, Wx.drop _⟩
theorem nE (h : aF M) {i : Nat} {y : Jb} (hi : i < M.L.length) (h1 : (y.st = 3) ↔ ((M.L.getD i default).st = 3)) (h2 : y.bQ = (M.L.getD i default).bQ) (h3 : y.fin = (M.L.getD i default).fin) (hp : aj y = false) (t : Int) (ht : M.now ≤ t) : 0 ≤ ay { M with L := M.L.set i y } t 0 := by
 have a1 := h.free t ht
 have a2 := iN (t := t) (but := 0) (h.mb.wid _ (aY hi)).1
 rw [rP hi h1 h2 h3, dP hp]
 omega
theorem aF.Mm (h : aF M) (hc : Calm M) (r : Rw) : aF (mJ M r).2 ∧ Calm (mJ M r).2 := by
 have nX := h.mb.Mm r
 have kG := h.mb.now
 unfold mJ at nX ⊢
 simp only at nX ⊢
 split
 ·exact ⟨h, hc⟩
 rename_i h1
 rw [if_neg h1] at nX
 split
 ·exact ⟨h, hc⟩
 rename_i h2
 rw [if_neg h2] at nX
 obtain ⟨hm, hi, he, _⟩ := lC (by simpa using h1)
 simp only at nX ⊢
 generalize hx : (getM M r.id).1 = x at *
 have bo := h.one _ hm
 have hy3 : (iQ M r.kind x).st ≠ 3 := by
  have : (iQ M r.kind x).st = if r.kind = 5 then 4 else 5 := rfl
  rw [this]; split <;> omega
 have hy1 : 1 ≤ (iQ M r.kind x).st ∧ (iQ M r.kind x).st ≤ 6 := by
  have : (iQ M r.kind x).st = if r.kind = 5 then 4 else 5 := rfl
  rw [this]; split <;> omega
 have hyp : (iQ M r.kind x).aN = -1 := rfl
 have UE : aj (iQ M r.kind x) = false := by unfold aj; rw [hyp]; simp
 have Qm : (iQ M r.kind x).wid = x.wid := by unfold iQ; split <;> rfl
 have hlim : (iQ M r.kind x).lim = x.lim := by unfold iQ; split <;> rfl
 have hid : (iQ M r.kind x).id = x.id := by unfold iQ; split <;> rfl
 have Mo : (iQ M r.kind x).bQ = x.bQ := by unfold iQ; split <;> rfl
 have hno : ∀ n, aH n (iQ M r.kind x) = false := fun n => by unfold aH; simp [hy3]
 refine ⟨h.set nX (by rw [hid, he]) (by rw [Qm, hlim]; exact ⟨bo.1, bo.2.1, bo.2.2.1, hy1⟩) (fun _ => hyp) (fun e => absurd e hy3) (.inl hyp) (h.l9.set hi fun n e => by rw [hno] at e; cases e) fun t ht => ?_, hc.set (fun e => absurd e hy3) (.inl hyp)⟩
 by_cases hs : x.st = 3
 ·have := rR (y := iQ M r.kind x) h.l9 hi (by rw [← he]; exact hs) hy3 UE t 0
  rw [this]
  have a1 := h.free t ht
  split <;> omega
 ·refine nE h hi (by rw [← he]; exact ⟨fun e => absurd e hy3, fun e => absurd e hs⟩) (by rw [Mo, he]) ?_ UE t ht
  rw [← he]
  unfold iQ
  rw [if_neg hs]
  rfl
theorem aF.Fu (h : aF M) (hc : Calm M) (r : Rw) : aF (fV M r).2 ∧ Calm (fV M r).2 := by
 have nX := h.mb.Fu r
 unfold fV at nX ⊢
 simp only at nX ⊢
 split
 ·exact ⟨h, hc⟩
 rename_i h1
 rw [if_neg h1] at nX
 split
 ·exact ⟨h, hc⟩
 rename_i h2
 rw [if_neg h2] at nX
 obtain ⟨hm, hi, he, _⟩ := lC (by simpa using h1)
 generalize hx : (getM M r.id).1 = x at *
 have bo := h.one _ hm
 have bw := h.mb.wid _ hm
 have bl := h.mb.lim _ hm
 have bf := h.mb.fin _ hm
 have bn := h.mb.bQ _ hm
 by_cases k4 : r.kind = 4
 ·rw [if_pos k4]
  have hs : x.st = 2 := by
   by_cases e : x.st = 2
   ·exact e
   ·exact absurd (.inr ⟨k4, e⟩) h2
  have hj : fD r.kind x = x.setSt 1 := by unfold fD; rw [if_neg (by omega), if_pos k4]
  rw [hj]
  have hp : x.aN = -1 := h.rest _ hm (by omega)
  have hpl : aj (x.setSt 1) = false := by unfold aj; simp [show (x.setSt 1).aN = -1 from hp]
  have a := h.set (i := (r.id - 1).toNat) (y := x.setSt 1) (h.mb.set _ _ bw bl (by show -1 ≤ x.aN ∧ x.aN ≤ _; omega) bf bn) (by rw [he]; rfl) ⟨bo.1, bo.2.1, bo.2.2.1, (show (1 : Int) ≤ 1 by omega), (show (1 : Int) ≤ 6 by omega)⟩ (fun _ => hp) (fun e => absurd (show (1 : Int) = 3 from e) (by decide)) (.inl hp) (h.l9.set hi fun n e => by unfold aH at e; simp [Jb.setSt, Jb.st] at e) fun t ht => nE h hi (by rw [← he]; exact ⟨fun e => absurd (show (1 : Int) = 3 from e) (by decide), fun e => by omega⟩) (by rw [← he]; rfl) (by rw [← he]; rfl) hpl t ht
  have b := hc.set (i := (r.id - 1).toNat) (y := x.setSt 1) (fun e => absurd (show (1 : Int) = 3 from e) (by decide)) (.inl hp)
  exact ⟨a.drop _, b.drop _⟩
 ·rw [if_neg k4]
  by_cases k3 : r.kind = 3
  ·have hs : x.st = 1 := by
    by_cases e : x.st = 1
    ·exact e
    ·exact absurd (.inl ⟨k3, e⟩) h2
   have hj : fD r.kind x = (x.setSt 2).aG (-1) := by unfold fD; rw [if_pos k3]
   rw [hj]
   have hpl : aj ((x.setSt 2).aG (-1)) = false := by unfold aj; simp [show ((x.setSt 2).aG (-1)).aN = -1 from rfl]
   refine ⟨h.set (h.mb.set _ _ bw bl (by show (-1 : Int) ≤ -1 ∧ (-1 : Int) ≤ _; omega) bf bn) (by rw [he]; rfl) ⟨bo.1, bo.2.1, bo.2.2.1, (show (1 : Int) ≤ 2 by omega), (show (2 : Int) ≤ 6 by omega)⟩ (fun _ => rfl) (fun e => absurd (show (2 : Int) = 3 from e) (by decide)) (.inl rfl) (h.l9.set hi fun n e => by unfold aH at e; simp [Jb.setSt, Jb.aG, Jb.st] at e) fun t ht => nE h hi (by rw [← he]; exact ⟨fun e => absurd (show (2 : Int) = 3 from e) (by decide), fun e => by omega⟩) (by rw [← he]; rfl) (by rw [← he]; rfl) hpl t ht, hc.set (fun e => absurd (show (2 : Int) = 3 from e) (by decide)) (.inl rfl)⟩
  ·have hj : fD r.kind x = x := by unfold fD; rw [if_neg k3, if_neg k4]
   rw [hj]
   have : M.L.set (r.id - 1).toNat x = M.L := by
    rw [he]
    simp only [List.getD, List.getElem?_eq_getElem hi, Option.getD_some, List.set_getElem_self]
   rw [this]
   exact ⟨h, hc⟩
theorem aF.Fv (h : aF M) (hc : Calm M) {n : Nat} (hn : n < M.dr.length) (b : Bool) (hb : M.dr.getD n false = !b) : aF (fJ M n b) ∧ Calm (fJ M n b) := by
 have hmb := h.mb.Fv n b
 unfold fJ at hmb ⊢
 split
 ·rename_i hbt
  rw [if_pos hbt] at hmb
  have hd := h.drop lW
  have hcd := hc.drop lW
  have hnone : ∀ j ∈ (fC M lW).L, aj j = false := fun j hj => by
   obtain ⟨x, _, rfl⟩ := List.mem_map.1 hj
   unfold gQ
   split
   ·unfold aj; simp [Jb.aG, Jb.aN]
   ·rename_i e
    simp only [show decide (lW.id = 0) = true from rfl, Bool.true_or, Bool.and_true] at e
    simpa using e
  refine ⟨⟨hmb, hd.ids, fun j hj => ?_, hd.rest, fun j hj hs => ?_, hd.plan, hd.l9, fun t ht => ?_⟩, ⟨hcd.runs, hcd.plan⟩⟩
  ·have := hd.one j hj
   show 1 ≤ j.wid ∧ j.wid ≤ (M.dr.set n true).length ∧ _
   rw [List.length_set]
   exact this
  ·have := hd.runs j hj hs
   show M.now ≤ j.fin ∧ (((List.range (M.dr.set n true).length).countP (cZ j.bQ.toNat) : Nat) : Int) = j.wid ∧ j.bQ.toNat < 2 ^ (M.dr.set n true).length
   rw [List.length_set]
   exact this
  ·have hz : bV (fC M lW).L t 0 = 0 := by
    rw [iZ]
    have : ∀ L : List Jb, (∀ j ∈ L, aj j = false) → (L.map (dO t 0)).sum = 0 := fun L => by
     induction L with
     | nil => intro _; rfl
     | cons a L ih =>
       intro hl
       rw [List.map_cons, List.sum_cons, ih fun j hj => hl j (List.mem_cons_of_mem _ hj), dP (hl a List.mem_cons_self)]
       rfl
    exact this _ hnone
   have h0 := (ko { fC M lW with dr := M.dr.set n true } t (M.dr.set n true).length).1
   show 0 ≤ aL { fC M lW with dr := M.dr.set n true } t (M.dr.set n true).length - bV (fC M lW).L t 0
   omega
 ·rename_i hbt
  rw [if_neg hbt] at hmb
  have hbf : b = false := by simpa using hbt
  subst hbf
  refine ⟨⟨hmb, h.ids, fun j hj => ?_, h.rest, fun j hj hs => ?_, h.plan, h.l9, fun t ht => ?_⟩, ⟨hc.runs, hc.plan⟩⟩
  ·have := h.one j hj
   show 1 ≤ j.wid ∧ j.wid ≤ (M.dr.set n false).length ∧ _
   rw [List.length_set]
   exact this
  ·have := h.runs j hj hs
   show M.now ≤ j.fin ∧ (((List.range (M.dr.set n false).length).countP (cZ j.bQ.toNat) : Nat) : Int) = j.wid ∧ j.bQ.toNat < 2 ^ (M.dr.set n false).length
   rw [List.length_set]
   exact this
  ·have a1 := h.free t ht
   rw [xq hn]
   have : bU M t n = false := by unfold bU; rw [hb]; rfl
   rw [this]
   simp only [Bool.false_eq_true, if_false]
   split <;> omega
theorem aF.Kc (h : aF M) (hc : Calm M) (r : Rw) : aF (iA M r).2 ∧ Calm (iA M r).2 := by
 unfold iA
 split
 ·exact ⟨h, hc⟩
 split
 ·exact ⟨h, hc⟩
 ·rename_i h1 h2
  refine h.Fv hc (by omega) _ ?_
  cases e : M.dr.getD r.node.toNat false <;> cases e2 : decide (r.kind = 7) <;> rw [e, e2] at h2 <;> first | rfl | exact absurd rfl h2
theorem Wp (hc : Calm M) : aL M M.now M.dr.length = (((List.range M.dr.length).countP fun n : Nat => decide (aR M n = 1) : Nat) : Int) := by
 unfold aL
 congr 1
 refine List.countP_congr fun n hn => ?_
 have hn := List.mem_range.1 hn
 have hs := jV (M := M) hn
 unfold bU
 rcases fH M.L n with g | ⟨q, g, hq, g2⟩
 ·rw [decide_eq_true_iff, hs]
  simp [g]
 ·have hrun : (M.L.getD q default).st = 3 := by unfold aH at g2; simp at g2; exact g2.1
  have := hc.runs _ (aY hq) hrun
  rw [decide_eq_true_iff, hs, g, Int.toNat_natCast]
  have e1 : ¬ ((q : Int) < 0) := by omega
  have e2 : decide ((M.L.getD q default).fin ≤ M.now) = false := decide_eq_false (by omega)
  rw [e2, decide_eq_false e1, Bool.or_false, Bool.and_false]
  exact ⟨fun e => (nomatch e), fun e => absurd e.1 e1⟩
theorem vV {L : List Jb} (h : ∀ j ∈ L, 0 ≤ j.wid) (t but : Int) {x : Jb} (hx : x ∈ L) : dO t but x ≤ bV L t but := by
 rw [iZ]
 induction L with
 | nil => cases hx
 | cons a L ih =>
   have h0 : ∀ l : List Jb, (∀ j ∈ l, 0 ≤ j.wid) → 0 ≤ (l.map (dO t but)).sum := fun l => by
    induction l with
    | nil => intro _; simp
    | cons b l ih2 =>
      intro hl
      rw [List.map_cons, List.sum_cons]
      have := iN (t := t) (but := but) (hl b List.mem_cons_self)
      have := ih2 fun j hj => hl j (List.mem_cons_of_mem _ hj)
      omega
   rw [List.map_cons, List.sum_cons]
   rcases List.mem_cons.1 hx with rfl | hx
   ·have := h0 L fun j hj => h j (List.mem_cons_of_mem _ hj)
    omega
   ·have := ih (fun j hj => h j (List.mem_cons_of_mem _ hj)) hx
    have := iN (t := t) (but := but) (h a List.mem_cons_self)
    omega
theorem ym (h0 : 0 ≤ M.now) {at' long width but : Int} (hat : M.now ≤ at') (h : yf M at' long width but = true) (t : Int) (h1 : at' ≤ t) (h2 : t < at' + long) : width ≤ ay M t but := by
 unfold yf at h
 rw [Bool.and_eq_true, decide_eq_true_iff, List.all_eq_true] at h
 obtain ⟨ha, hall⟩ := h
 obtain ⟨k, rfl⟩ : ∃ k : Nat, t = at' + k := ⟨(t - at').toNat, by omega⟩
 clear h1
 induction k with
 | zero => simpa using ha
 | succ k ih =>
   have ih := ih (by omega)
   by_cases he : (at' + (k + 1 : Nat) : Int) ∈ qy M.L
   ·have hm := (tK h0 (at' + (k + 1 : Nat))).2 (.inr ⟨by omega, he⟩)
    have := hall _ hm
    have e1 : decide (at' < at' + ((k + 1 : Nat) : Int)) = true := decide_eq_true (by omega)
    have e2 : decide (at' + ((k + 1 : Nat) : Int) < at' + long) = true := decide_eq_true h2
    rw [e1, e2] at this
    simp only [Bool.true_and, Bool.not_eq_true', decide_eq_false_iff_not] at this
    omega
   ·rw [AX (a := at' + k) (by omega) (fun u hu hr => he (by
     have : u = at' + ((k + 1 : Nat) : Int) := by omega
     rw [← this]
     exact hu))]
    exact ih
theorem aF.begin (h : aF M) (hrun : ∀ j ∈ M.L, j.st = 3 → M.now < j.fin) {i : Nat} (hi : i < M.L.length) (hs : (M.L.getD i default).st = 1)
 (hidle : (M.L.getD i default).wid ≤ aL M M.now M.dr.length) (hf : ∀ t, M.now ≤ t → t < M.now + (M.L.getD i default).lim → (M.L.getD i default).wid ≤ ay M t 0 + dO t 0 (M.L.getD i default)) :
 aF (aW M i) ∧ (lowGo M (M.L.getD i default).wid M.dr.length).2 = (M.L.getD i default).wid := by
 have hm := aY hi
 have bo := h.one _ hm
 have hcount : aL M M.now M.dr.length = (((List.range M.dr.length).countP fun n : Nat => decide (aR M n = 1) : Nat) : Int) := by
  unfold aL
  congr 1
  refine List.countP_congr fun n hn => ?_
  have hn := List.mem_range.1 hn
  have hs := jV (M := M) hn
  unfold bU
  rcases fH M.L n with g | ⟨q, g, hq, g2⟩
  ·rw [decide_eq_true_iff, hs]
   simp [g]
  ·have hrun' : (M.L.getD q default).st = 3 := by unfold aH at g2; simp at g2; exact g2.1
   have := hrun _ (aY hq) hrun'
   rw [decide_eq_true_iff, hs, g, Int.toNat_natCast]
   have e1 : ¬ ((q : Int) < 0) := by omega
   have e2 : decide ((M.L.getD q default).fin ≤ M.now) = false := decide_eq_false (by omega)
   rw [e2, decide_eq_false e1, Bool.or_false, Bool.and_false]
   exact ⟨fun e => (nomatch e), fun e => absurd e.1 e1⟩
 have hfull : (lowGo M (M.L.getD i default).wid M.dr.length).2 = (M.L.getD i default).wid := Hq M _ _ (by omega) (by rw [← hcount]; exact hidle)
 refine ⟨?_, hfull⟩
 have hlc := xu M (M.L.getD i default).wid M.dr.length M.dr.length (Nat.le_refl _)
 have hll := (oI M (M.L.getD i default).wid M.dr.length).1
 have Ke : (fT M (M.L.getD i default)).bQ.toNat = (lowGo M (M.L.getD i default).wid M.dr.length).1 := by
  show ((iP M (M.L.getD i default).wid : Nat) : Int).toNat = _
  rw [Int.toNat_natCast]; rfl
 refine h.set (y := fT M (M.L.getD i default)) (h.mb.begin i hi) rfl ⟨bo.1, bo.2.1, bo.2.2.1, (show (1 : Int) ≤ 3 by omega), (show (3 : Int) ≤ 6 by omega)⟩ (fun _ => rfl) (fun _ => ⟨?_, ?_, ?_⟩) (.inl rfl) (h.l9.set hi fun n e => .inr ?_) fun t ht => ?_
 ·show M.now ≤ M.now + (M.L.getD i default).lim
  omega
 ·rw [Ke, hlc, hfull]; rfl
 ·rw [Ke]; exact hll
 ·have e2 : cZ (lowGo M (M.L.getD i default).wid M.dr.length).1 n = true := by
   unfold aH at e
   rw [Ke] at e
   simp at e
   exact e.2
  obtain ⟨g1, g2⟩ := pq M _ _ _ e2
  exact ((jV g1).1 g2).1
 ·have a1 := h.free t ht
  have a2 := iN (t := t) (but := 0) (h.mb.wid _ hm).1
  have := rQ hi (by omega) t 0
  unfold aW at this
  rw [this, hfull]
  split
  ·rename_i hlt
   have := hf t ht hlt
   omega
  ·omega
theorem aF.kP (h : aF M) (hc : Calm M) (id t : Int) : aF (df M id t).2 ∧ Calm (df M id t).2 := by
 have hn := h.mb.now
 have nX := h.mb.kP id t
 unfold df at nX ⊢
 split
 ·rename_i hf
  rw [if_pos hf] at nX
  unfold fO at hf
  simp only at hf
  split at hf
  ·cases hf
  rename_i hq
  have hg : (getM M id).2 = true := by cases e : (getM M id).2 <;> simp_all
  obtain ⟨hm, hi, he, hid⟩ := lC hg
  rw [he] at hm hq hf
  have hs : (M.L.getD (id - 1).toNat default).st = 1 := by
   by_cases e : (M.L.getD (id - 1).toNat default).st = 1
   ·exact e
   ·exact absurd (.inr (.inr (.inl e))) hq
  have ht : M.now ≤ t ∧ t ≤ 1099511627776 := by omega
  have bo := h.one _ hm
  have Hr := h.ids _ hi
  have hroom := fun u => ym hn.1 ht.1 hf u
  rw [Hr] at hroom
  have zn := fun u => mV hi h.ids u
  split
  ·rename_i e
   subst e
   have h0 := hroom M.now (Int.le_refl _) (by omega)
   have hfn : (M.L.getD (id - 1).toNat default).wid ≤ aL M M.now M.dr.length := by
    have ht0 := nD (L := M.L) (fun j hj => h.mb.wid j hj) M.now ((((id - 1).toNat : Nat) : Int) + 1)
    unfold ay at h0
    omega
   have hb := h.begin hc.runs hi hs hfn fun u h1 h2 => by
    have := hroom u h1 h2
    rw [zn] at this
    exact this
   refine ⟨hb.1, hc.set (fun _ => ?_) (.inl rfl)⟩
   show M.now < M.now + (M.L.getD (id - 1).toNat default).lim
   omega
  ·rename_i e
   rw [if_neg e] at nX
   refine ⟨h.set nX rfl bo (fun e => absurd hs e) (fun e => by
    have : (M.L.getD (id - 1).toNat default).st = 3 := e
    omega) (.inr ht.1) (h.l9.set hi (A8 Iff.rfl rfl _)) fun u hu => ?_, hc.set (fun e => by
    have : (M.L.getD (id - 1).toNat default).st = 3 := e
    omega) (.inr (show M.now < t by omega))⟩
   rw [jd hi]
   have a1 := h.free u hu
   have a2 := iN (t := u) (but := 0) (h.mb.wid _ hm).1
   have hpl : aj ((M.L.getD (id - 1).toNat default).aG t) = true := by
    unfold aj
    rw [Bool.and_eq_true]
    exact ⟨decide_eq_true hs, decide_eq_true (show 0 ≤ t by omega)⟩
   have hc2 := mR (t := u) (but := 0) hpl (show (M.L.getD (id - 1).toNat default).id ≠ 0 by rw [Hr]; omega)
   rw [hc2]
   show 0 ≤ _ + _ - (if t ≤ u ∧ u < t + (M.L.getD (id - 1).toNat default).lim then (M.L.getD (id - 1).toNat default).wid else 0)
   split
   ·rename_i e2
    have := hroom u e2.1 e2.2
    rw [zn] at this
    omega
   ·omega
 ·exact ⟨h, hc⟩
end
end Go.Proofs.YtelnhablglomjaaGreat

namespace Go.Proofs.YtelnhablglomjaaGreat
def xG (j : Jb) : List Int := (if j.st = 3 then [j.fin] else []) ++ (if aj j = true then [j.aN] else [])
theorem Fy {E : List Int} {last b : Int} (hl : 0 ≤ last) (h : kr E last b) (j : Jb) : kr (E ++ xG j) last (EW last b j) := by
 unfold EW xG
 by_cases h3 : j.st = 3 <;> by_cases hp : aj j = true
 ·simp only [h3, hp, if_true]
  have := gT (t := j.aN) hl (gT (t := j.fin) hl h)
  simpa using this
 ·simp only [h3, hp, if_true]
  have := gT (t := j.fin) hl h
  simpa [hp] using this
 ·simp only [h3, hp, if_true, if_false]
  have := gT (t := j.aN) hl h
  simpa using this
 ·simpa [h3, hp] using h
theorem CK {L : List Jb} {E : List Int} {last b : Int} (hl : 0 ≤ last) (h : kr E last b) : kr (E ++ L.flatMap xG) last (L.foldl (EW last) b) := by
 induction L generalizing E b with
 | nil => simpa using h
 | cons a L ih =>
   have := ih (Fy hl h a)
   rw [List.foldl_cons, List.flatMap_cons]
   simpa using this
section
variable {M : Md}
theorem rT (h0 : 0 ≤ M.now) : kr (M.L.flatMap xG) M.now (aS M) := by
 have := CK (L := M.L) h0 (show kr [] M.now (-1) from .inl ⟨by decide, by simp⟩)
 rw [xD] at this
 exact this
theorem Fz {j : Jb} (hj : j ∈ M.L) (h : j.st = 3) : j.fin ∈ M.L.flatMap xG := List.mem_flatMap.2 ⟨j, hj, by unfold xG; simp [h]⟩
theorem FB {j : Jb} (hj : j ∈ M.L) (h : aj j = true) : j.aN ∈ M.L.flatMap xG := List.mem_flatMap.2 ⟨j, hj, by unfold xG; simp [h]⟩
theorem bq {j : Jb} : aj j = true ↔ j.st = 1 ∧ 0 ≤ j.aN := by unfold aj; simp
theorem aF.later (h : aF M) (t : Int) (h0 : M.now ≤ t) (h1 : t ≤ 1099511627776) (hr : ∀ j ∈ M.L, j.st = 3 → t ≤ j.fin) (hp : ∀ j ∈ M.L, j.aN = -1 ∨ t ≤ j.aN) : aF { M with now := t } :=
 ⟨h.mb.at t (by have := h.mb.now; omega) h1, h.ids, h.one, h.rest, fun j hj hs => ⟨hr j hj hs, (h.runs j hj hs).2⟩, hp, h.l9, fun u hu => h.free u (show M.now ≤ u by have : t ≤ u := hu; omega)⟩
theorem aF.Ar (h : aF M) (i : Nat) (hi : i ≤ M.L.length) : aF { M with L := eQ (aU M.now) M.L i } := by
 induction i with
 | zero => exact h
 | succ i ih =>
   have ih := ih (by omega)
   have hl : i < (eQ (aU M.now) M.L i).length := by rw [oW]; omega
   have ha := qP (f := aU M.now) (L := M.L) (i := i) (by omega)
   have hm := aY (L := M.L) (i := i) (by omega)
   have bo := h.one _ hm
   have bw := h.mb.wid _ hm
   have bl := h.mb.lim _ hm
   have bp := h.mb.aN _ hm
   have bf := h.mb.fin _ hm
   have bn := h.mb.bQ _ hm
   have br := h.rest _ hm
   rw [← jq (f := aU M.now) (L := M.L) (i := i) (by omega)]
   by_cases hp : (M.L.getD i default).st = 3 ∧ (M.L.getD i default).fin = M.now
   ·have e : aU M.now (M.L.getD i default) = (M.L.getD i default).setSt 6 := by unfold aU; rw [if_pos hp]
    rw [e]
    have hno : ∀ n, aH n ((M.L.getD i default).setSt 6) = false := fun n => by unfold aH; simp [Jb.setSt, Jb.st]
    refine ih.set (ih.mb.set _ _ bw bl bp bf bn) (by show _ = ((eQ (aU M.now) M.L i).getD i default).id; rw [ha]; rfl) ⟨bo.1, bo.2.1, bo.2.2.1, (show (1 : Int) ≤ 6 by omega), (show (6 : Int) ≤ 6 by omega)⟩ (fun _ => br (by omega)) (fun e => absurd (show (6 : Int) = 3 from e) (by decide)) (.inl (br (by omega))) (ih.l9.set hl fun n e => by rw [hno] at e; cases e) fun t ht => ?_
    have hpl : aj ((M.L.getD i default).setSt 6) = false := by unfold aj; simp [Jb.setSt, Jb.st]
    have := rR (M := { M with L := eQ (aU M.now) M.L i }) (y := (M.L.getD i default).setSt 6) ih.l9 hl (by show ((eQ (aU M.now) M.L i).getD i default).st = 3; rw [ha]; exact hp.1) (show (6 : Int) ≠ 3 by decide) hpl t 0
    have a1 := ih.free t ht
    show 0 ≤ ay { M with L := (eQ (aU M.now) M.L i).set i ((M.L.getD i default).setSt 6) } t 0
    rw [this]
    split <;> omega
   ·have e : aU M.now (M.L.getD i default) = M.L.getD i default := by unfold aU; rw [if_neg hp]
    rw [jq (by omega), ← nK (by omega) e]
    exact ih
theorem aF.over (h : aF M) : aF { M with L := M.L.map (aU M.now) } ∧ ∀ j ∈ M.L.map (aU M.now), j.st = 3 → M.now < j.fin := by
 have := h.Ar M.L.length (Nat.le_refl _)
 rw [rO] at this
 refine ⟨this, fun j hj hs => ?_⟩
 obtain ⟨x, hx, rfl⟩ := List.mem_map.1 hj
 by_cases hp : x.st = 3 ∧ x.fin = M.now
 ·have e : aU M.now x = x.setSt 6 := by unfold aU; rw [if_pos hp]
  rw [e] at hs
  exact absurd (show (6 : Int) = 3 from hs) (by decide)
 ·have e : aU M.now x = x := by unfold aU; rw [if_neg hp]
  rw [e] at hs ⊢
  have := (h.runs x hx hs).1
  have : x.fin ≠ M.now := fun e => hp ⟨hs, e⟩
  omega
def dA (now : Int) (j : Jb) : Bool := aj j && decide (j.aN = now)
theorem nG (L : List Jb) (now : Int) (i : Nat) : (iG L now i < 0 ∧ ∀ q, q < i → dA now (L.getD q default) = false) ∨ ∃ f : Nat, iG L now i = f ∧ f < i ∧ dA now (L.getD f default) = true := by
 induction i with
 | zero => exact .inl ⟨by simp [iG], fun q hq => by omega⟩
 | succ i ih =>
   unfold iG
   split
   ·rename_i h
    exact .inr ⟨i, rfl, by omega, by unfold dA; rw [h.1, decide_eq_true h.2.1]; rfl⟩
   ·rename_i h
    rcases ih with ⟨h1, h2⟩ | ⟨f, h1, h2, h3⟩
    ·refine .inl ⟨h1, fun q hq => ?_⟩
     by_cases e : q = i
     ·subst e
      cases hd : dA now (L.getD q default) with
      | false => rfl
      | true =>
        unfold dA at hd
        rw [Bool.and_eq_true, decide_eq_true_iff] at hd
        exact absurd ⟨hd.1, hd.2, .inl h1⟩ h
     ·exact h2 q (by omega)
    ·exact .inr ⟨f, h1, by omega, h3⟩
def nR (j : Jb) : Int := if j.st = 3 then 1 else if aj j = true then 2 else 0
def mH (M : Md) : Int := (M.L.map nR).sum
def mK (M : Md) : Int := (M.L.map fun j => if dA M.now j = true then 1 else 0).sum
theorem pz (j : Jb) : 0 ≤ nR j ∧ nR j ≤ 2 := by unfold nR; split; omega; split <;> omega
theorem mW (f : Jb → Int) (a : Int) (L : List Jb) (h : ∀ j ∈ L, 0 ≤ f j ∧ f j ≤ a) : 0 ≤ (L.map f).sum ∧ (L.map f).sum ≤ a * L.length := by
 induction L with
 | nil => simp
 | cons b L ih =>
   have h1 := ih fun j hj => h j (List.mem_cons_of_mem _ hj)
   have h2 := h b List.mem_cons_self
   rw [List.map_cons, List.sum_cons, List.length_cons]
   have : a * ((L.length + 1 : Nat) : Int) = a * L.length + a := by rw [Int.natCast_add]; simp [Int.mul_add]
   rw [this]
   omega
theorem Ba (f : Jb → Int) (L : List Jb) (h : ∀ j ∈ L, 0 ≤ f j) {x : Jb} (hx : x ∈ L) : f x ≤ (L.map f).sum := by
 induction L with
 | nil => cases hx
 | cons a L ih =>
   have h0 : ∀ l : List Jb, (∀ j ∈ l, 0 ≤ f j) → 0 ≤ (l.map f).sum := fun l => by
    induction l with
    | nil => intro _; simp
    | cons b l ih2 =>
      intro hl
      rw [List.map_cons, List.sum_cons]
      have := hl b List.mem_cons_self
      have := ih2 fun j hj => hl j (List.mem_cons_of_mem _ hj)
      omega
   rw [List.map_cons, List.sum_cons]
   rcases List.mem_cons.1 hx with rfl | hx
   ·have := h0 L fun j hj => h j (List.mem_cons_of_mem _ hj)
    omega
   ·have := ih (fun j hj => h j (List.mem_cons_of_mem _ hj)) hx
    have := h a List.mem_cons_self
    omega
theorem aF.start (h : aF M) (hrun : ∀ j ∈ M.L, j.st = 3 → M.now < j.fin) {f : Nat} (hf : f < M.L.length) (hd : dA M.now (M.L.getD f default) = true) :
 aF (aW M f) ∧ (∀ j ∈ (aW M f).L, j.st = 3 → M.now < j.fin) ∧ mK (aW M f) = mK M - 1 ∧ mH (aW M f) = mH M - 1 := by
 have hm := aY hf
 have bo := h.one _ hm
 unfold dA at hd
 rw [Bool.and_eq_true, decide_eq_true_iff, bq] at hd
 have hpl : aj (M.L.getD f default) = true := bq.2 hd.1
 have hid := h.ids f hf
 have hc := fun t => mR (t := t) (but := 0) hpl (by rw [hid]; omega)
 have h0 := h.free M.now (Int.le_refl _)
 have hge := vV (L := M.L) (fun j hj => (h.mb.wid j hj).1) M.now 0 hm
 rw [hc, if_pos (by omega)] at hge
 have hb := h.begin hrun hf hd.1.1 (by unfold ay at h0; omega) fun t h1 h2 => by
  have := h.free t h1
  rw [hc, if_pos (by omega)]
  omega
 have Vs : dA M.now (fT M (M.L.getD f default)) = false := by unfold dA aj; rfl
 have Vt : dA M.now (M.L.getD f default) = true := by unfold dA; rw [hpl, decide_eq_true hd.2]; rfl
 refine ⟨hb.1, fun j hj hs => ?_, ?_, ?_⟩
 ·rcases List.mem_or_eq_of_mem_set hj with h1 | rfl
  ·exact hrun j h1 hs
  ·show M.now < M.now + (M.L.getD f default).lim
   omega
 ·show ((M.L.set f (fT M (M.L.getD f default))).map fun j => if dA M.now j = true then (1 : Int) else 0).sum = _
  rw [AZ _ _ _ _ hf, Vs, Vt]
  unfold mK
  simp
 ·show ((M.L.set f (fT M (M.L.getD f default))).map nR).sum = _
  rw [AZ _ _ _ _ hf]
  have e1 : nR (M.L.getD f default) = 2 := by unfold nR; rw [if_neg (by omega), if_pos hpl]
  have e2 : nR (fT M (M.L.getD f default)) = 1 := rfl
  rw [e1, e2]
  unfold mH
  omega
theorem aF.starts (n : Nat) (h : aF M) (hrun : ∀ j ∈ M.L, j.st = 3 → M.now < j.fin) (hn : mK M ≤ n) :
 aF (startGo n M) ∧ Calm (startGo n M) ∧ mH (startGo n M) ≤ mH M ∧ (0 < n → 0 < mK M → mH (startGo n M) < mH M) := by
 have calm : ∀ {N : Md}, aF N → (∀ j ∈ N.L, j.st = 3 → N.now < j.fin) → (∀ q, q < N.L.length → dA N.now (N.L.getD q default) = false) → Calm N := fun {N} hN hr hq => by
  refine ⟨hr, fun j hj => ?_⟩
  obtain ⟨q, hq1, rfl⟩ := List.getElem_of_mem hj
  have e := hq q hq1
  have eg : N.L.getD q default = N.L[q] := by simp [List.getD, hq1]
  rw [eg] at e
  rcases hN.plan _ hj with h1 | h1
  ·exact .inl h1
  ·by_cases h2 : N.L[q].st = 1
   ·right
    unfold dA at e
    have kG := hN.mb.now
    rw [bq.2 ⟨h2, by omega⟩, Bool.true_and, decide_eq_false_iff_not] at e
    omega
   ·exact .inl (hN.rest _ hj h2)
 induction n generalizing M with
 | zero =>
   refine ⟨h, calm h hrun fun q hq => ?_, Int.le_refl _, fun e => absurd e (by omega)⟩
   cases hd : dA M.now (M.L.getD q default) with
   | false => exact hd
   | true =>
     have := Ba (fun j => if dA M.now j = true then (1 : Int) else 0) M.L (fun j _ => by split <;> omega) (aY hq)
     rw [hd, if_pos rfl] at this
     unfold mK at hn
     omega
 | succ n ih =>
   unfold startGo
   rcases nG M.L M.now M.L.length with ⟨h1, h2⟩ | ⟨f, h1, h2, h3⟩
   ·have e : ¬ 0 ≤ firstM M := by unfold firstM; omega
    rw [if_neg e]
    have hz : mK M = 0 := by
     unfold mK
     have : M.L.map (fun j => if dA M.now j = true then (1 : Int) else 0) = M.L.map fun _ => 0 := List.map_congr_left fun j hj => by
      obtain ⟨q, hq1, rfl⟩ := List.getElem_of_mem hj
      have e := h2 q hq1
      have eg : M.L.getD q default = M.L[q] := by simp [List.getD, hq1]
      rw [eg] at e
      rw [e]
      rfl
     rw [this]
     have : ∀ L : List Jb, (L.map fun _ => (0 : Int)).sum = 0 := fun L => by induction L <;> simp_all
     exact this _
    obtain ⟨a, b, c, _⟩ := ih h hrun (by omega)
    exact ⟨a, b, c, fun _ hp => by omega⟩
   ·have e : firstM M = f := h1
    rw [e, if_pos (by omega), Int.toNat_natCast]
    obtain ⟨a1, a2, a3, a4⟩ := h.start hrun h2 h3
    obtain ⟨b1, b2, b3, _⟩ := ih a1 a2 (by omega)
    exact ⟨b1, b2, by omega, fun _ _ => by omega⟩
theorem Nu (t : Int) (j : Jb) : nR (aU t j) = if j.st = 3 ∧ j.fin = t then 0 else nR j := by
 unfold aU
 split
 ·unfold nR; rfl
 ·rfl
theorem aF.rU (h : aF M) : aF (dN M) ∧ Calm (dN M) ∧ mH (dN M) ≤ mH M ∧ ((∃ j ∈ M.L, (j.st = 3 ∧ j.fin = M.now) ∨ dA M.now j = true) → mH (dN M) < mH M) := by
 obtain ⟨h1, h2⟩ := h.over
 have hev : mH { M with L := M.L.map (aU M.now) } ≤ mH M ∧ ((∃ j ∈ M.L, j.st = 3 ∧ j.fin = M.now) → mH { M with L := M.L.map (aU M.now) } < mH M) := by
  show ((M.L.map (aU M.now)).map nR).sum ≤ (M.L.map nR).sum ∧ (_ → ((M.L.map (aU M.now)).map nR).sum < (M.L.map nR).sum)
  have : ∀ L : List Jb, ((L.map (aU M.now)).map nR).sum ≤ (L.map nR).sum ∧ ((∃ j ∈ L, j.st = 3 ∧ j.fin = M.now) → ((L.map (aU M.now)).map nR).sum < (L.map nR).sum) := fun L => by
   induction L with
   | nil => exact ⟨Int.le_refl _, fun ⟨j, hj, _⟩ => nomatch hj⟩
   | cons a L ih =>
     simp only [List.map_cons, List.sum_cons]
     have hr := pz a
     have he := Nu M.now a
     by_cases hq : a.st = 3 ∧ a.fin = M.now
     ·rw [if_pos hq] at he
      have h1 : nR a = 1 := by unfold nR; rw [if_pos hq.1]
      exact ⟨by omega, fun _ => by omega⟩
     ·rw [if_neg hq] at he
      refine ⟨by omega, fun ⟨j, hj, hjq⟩ => ?_⟩
      rcases List.mem_cons.1 hj with rfl | hj
      ·exact absurd hjq hq
      ·have := ih.2 ⟨j, hj, hjq⟩
       omega
  exact this M.L
 have Ht : mK { M with L := M.L.map (aU M.now) } = mK M := by
  show ((M.L.map (aU M.now)).map fun j => if dA M.now j = true then (1 : Int) else 0).sum = _
  rw [List.map_map]
  unfold mK
  congr 1
  refine List.map_congr_left fun j _ => ?_
  show (if dA M.now (aU M.now j) = true then (1 : Int) else 0) = _
  unfold aU
  split
  ·rename_i e
   have e1 : dA M.now (j.setSt 6) = false := by unfold dA aj; rfl
   have e2 : dA M.now j = false := by unfold dA aj; simp [e.1]
   rw [e1, e2]
  ·rfl
 have hdr := mW (fun j => if dA M.now j = true then (1 : Int) else 0) 1 M.L (fun j _ => by split <;> omega)
 have Yr : mK M ≤ M.L.length := by unfold mK; omega
 obtain ⟨a, b, c, d⟩ := aF.starts M.L.length h1 h2 (by rw [Ht]; exact Yr)
 refine ⟨a, b, Int.le_trans c hev.1, fun ⟨j, hj, hq⟩ => ?_⟩
 rcases hq with hq | hq
 ·exact Int.lt_of_le_of_lt c (hev.2 ⟨j, hj, hq⟩)
 ·have hp := Ba (fun j => if dA M.now j = true then (1 : Int) else 0) M.L (fun j _ => by split <;> omega) hj
  rw [hq, if_pos rfl] at hp
  have hl : 0 < M.L.length := List.length_pos_of_mem hj
  exact Int.lt_of_lt_of_le (d hl (by rw [Ht]; unfold mK; omega)) hev.1
theorem aF.step (h : aF M) (hc : Calm M) (h1 : 0 ≤ aS M) (h2 : aS M ≤ 1099511627776) : M.now < aS M ∧ aF { M with now := aS M } ∧ ∃ j ∈ M.L, (j.st = 3 ∧ j.fin = aS M) ∨ dA (aS M) j = true := by
 have hn := h.mb.now
 rcases rT (M := M) hn.1 with ⟨g, _⟩ | ⟨_, g2, g3, g4⟩
 ·omega
 refine ⟨g2, h.later _ (by omega) h2 (fun j hj hs => g4 _ (Fz hj hs) (hc.runs j hj hs)) (fun j hj => ?_), ?_⟩
 ·rcases hc.plan j hj with e | e
  ·exact .inl e
  ·by_cases h3 : j.st = 1
   ·exact .inr (g4 _ (FB hj (bq.2 ⟨h3, by omega⟩)) e)
   ·exact .inl (h.rest j hj h3)
 ·obtain ⟨j, hj, hm⟩ := List.mem_flatMap.1 g3
  unfold xG at hm
  rcases List.mem_append.1 hm with hm | hm
  ·split at hm
   ·rename_i e; exact ⟨j, hj, .inl ⟨e, (List.mem_singleton.1 hm).symm⟩⟩
   ·cases hm
  ·split at hm
   ·rename_i e; exact ⟨j, hj, .inr (by unfold dA; rw [e, decide_eq_true (List.mem_singleton.1 hm).symm]; rfl)⟩
   ·cases hm
theorem aF.dG (to : Int) (n : Nat) (hto : to ≤ 1099511627776) (h : aF M) (hc : Calm M) (hnt : M.now ≤ to) (hn : mH M < n) :
 aF (dG to n M) ∧ Calm (dG to n M) ∧ (dG to n M).now ≤ to ∧ (aS (dG to n M) < 0 ∨ to < aS (dG to n M)) := by
 induction n generalizing M with
 | zero =>
   have := (mW nR 2 M.L fun j _ => pz j).1
   unfold mH at hn
   omega
 | succ n ih =>
   unfold Proofs.YtelnhablglomjaaGreat.dG
   split
   ·rename_i e; exact ⟨h, hc, hnt, e⟩
   ·rename_i e
    obtain ⟨a1, a2, a3⟩ := h.step hc (by omega) (by omega)
    obtain ⟨b1, b2, b3, b4⟩ := a2.rU
    have hk := oz a2.mb
    refine ih b1 b2 (by rw [hk.2.2.1]; show aS M ≤ to; omega) ?_
    have := b4 a3
    have e2 : mH { M with now := aS M } = mH M := rfl
    omega
theorem aF.Vu (h : aF M) (hc : Calm M) (y : Int) : aF (mQ M y).2 ∧ Calm (mQ M y).2 := by
 have hn := h.mb.now
 unfold mQ
 split
 ·exact ⟨h, hc⟩
 ·have he := (mW nR 2 M.L fun j _ => pz j).2
  obtain ⟨a, b, c, d⟩ := aF.dG (M.now + y) (2 * M.L.length + 1) (by omega) h hc (by omega) (by unfold mH; omega)
  have hR := a.mb.now
  show aF (qa M (M.now + y)) ∧ Calm (qa M (M.now + y))
  unfold qa
  generalize Proofs.YtelnhablglomjaaGreat.dG (M.now + y) (2 * M.L.length + 1) M = R at *
  have key : ∀ j ∈ R.L, (j.st = 3 → M.now + y < j.fin) ∧ (j.aN = -1 ∨ M.now + y < j.aN) := fun j hj => by
   rcases rT (M := R) hR.1 with ⟨g, g2⟩ | ⟨_, g2, g3, g4⟩
   ·refine ⟨fun hs => ?_, ?_⟩
    ·have := g2 _ (Fz hj hs)
     have := b.runs j hj hs
     omega
    ·rcases b.plan j hj with e | e
     ·exact .inl e
     ·by_cases h3 : j.st = 1
      ·have := g2 _ (FB hj (bq.2 ⟨h3, by omega⟩))
       omega
      ·exact .inl (a.rest j hj h3)
   ·refine ⟨fun hs => ?_, ?_⟩
    ·have := g4 _ (Fz hj hs) (b.runs j hj hs)
     omega
    ·rcases b.plan j hj with e | e
     ·exact .inl e
     ·by_cases h3 : j.st = 1
      ·have := g4 _ (FB hj (bq.2 ⟨h3, by omega⟩)) e
       omega
      ·exact .inl (a.rest j hj h3)
  exact ⟨a.later _ c (by omega) (fun j hj hs => by have := (key j hj).1 hs; omega) (fun j hj => (key j hj).2.imp (fun e => e) (fun e => by omega)), ⟨fun j hj hs => (key j hj).1 hs, fun j hj => (key j hj).2⟩⟩
theorem aF.Hu (h : aF M) (hc : Calm M) (r : Rw) : aF (fE M r).2 ∧ Calm (fE M r).2 := by
 unfold fE
 repeat' split
 all_goals first | exact ⟨h, hc⟩ | exact h.TC hc r | exact h.Mm hc r | exact h.Fu hc r | exact h.Kc hc r | exact h.Vu hc _ | exact ⟨⟨⟨h.mb.nn, h.mb.ll, h.mb.now, h.mb.wid, h.mb.lim, h.mb.aN, h.mb.fin, h.mb.bQ⟩, h.ids, h.one, h.rest, h.runs, h.plan, h.l9, h.free⟩, ⟨hc.runs, hc.plan⟩⟩
end
end Go.Proofs.YtelnhablglomjaaGreat

namespace Go.Proofs.YtelnhablglomjaaGreat
open Go.RowKit Go.Lib
def dK (n : Nat) : Md := ⟨0, List.replicate n false, [], false⟩
end Go.Proofs.YtelnhablglomjaaGreat
