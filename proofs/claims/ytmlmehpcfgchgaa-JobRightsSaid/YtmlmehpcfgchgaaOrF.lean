/-
  Own walk: jobs without the first that is one (the law's own).
-/
import Derived.Test.YtmlmehpcfgchgaaOrE
import Derived.Test.YtmlmehpcfgchgaaOwnF
import Derived.Test.YtmlmehpcfgchgaaOwnK
namespace Go.Proofs.Ytmlmehpcfgchgaa
open Go.RowKit Go.Lib Go.Sort

theorem infoJob : (Try.prog.info? 52).map (fun i => (i.zero, i.size, i.bytes)) = some (some (.agg (encJ default).toArray), 10, 80) := by kernel_rfl
theorem flat_len (l : List Jb) : (l.flatMap encJ).length = l.length * 10 := by
  induction l with
  | nil => rfl
  | cons a l ih => rw [List.flatMap_cons, List.length_append, ih, encJ_len, List.length_cons, Nat.add_mul]; omega
theorem take_snoc {l : List Jb} {i : Nat} (h : i < l.length) : l.take (i + 1) = l.take i ++ [l[i]!] := by
  rw [List.take_add_one, List.getElem?_eq_getElem h, getElem!_pos l i h]; rfl
theorem erase_yes {l : List Jb} {i : Nat} {j : Jb} (h : i < l.length) (hj : l[i]! = j) (hn : ¬ j ∈ l.take i) : (l.take (i + 1)).erase j = (l.take i).erase j := by
  rw [take_snoc h, List.erase_append_right _ hn, hj, List.erase_of_not_mem hn]; simp
theorem erase_no {l : List Jb} {i : Nat} {j : Jb} (h : i < l.length) (hd : j ∈ l.take i ∨ l[i]! ≠ j) : (l.take (i + 1)).erase j = (l.take i).erase j ++ [l[i]!] := by
  rw [take_snoc h]
  by_cases hm : j ∈ l.take i
  · rw [List.erase_append_left _ hm]
  · have hne : l[i]! ≠ j := by rcases hd with h1 | h1; exact absurd h1 hm; exact h1
    rw [List.erase_append_right _ hm, List.erase_of_not_mem hm]
    congr 1
    rw [List.erase_of_not_mem]
    simp only [List.mem_singleton]
    exact fun e => hne e.symm
theorem mem_next {l : List Jb} {i : Nat} {j : Jb} (h : i < l.length) : j ∈ l.take (i + 1) ↔ j ∈ l.take i ∨ l[i]! = j := by
  rw [take_snoc h, List.mem_append, List.mem_singleton]
  exact or_congr Iff.rfl eq_comm

def WithoutPost (w : World) (l : List Jb) (j : Jb) (e : Ending) (w' : World) : Prop :=
  ∃ v', e = .returned (.tuple #[v', .bool (decide (j ∈ l))]) ∧ w'.ownsRow w.heap.size 52 10 v' (l.erase j).length ((l.erase j).flatMap encJ) ∧ Below w.heap.size w w'

end Go.Proofs.Ytmlmehpcfgchgaa
