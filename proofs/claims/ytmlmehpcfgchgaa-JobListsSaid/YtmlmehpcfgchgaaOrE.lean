/-
  Own walk: the statement on Sort and Behind, over what is asked of them.
-/
import Derived.Test.YtmlmehpcfgchgaaOrD
import Derived.Test.YtmlmehpcfgchgaaReg
import Derived.Shelf.SlSortCmp.QuietGrown
import Derived.Deep.QuietTactic
import Derived.BigQuiet
namespace Go.Proofs.Ytmlmehpcfgchgaa
open Go.RowKit Go.Lib Go.Sort

theorem filt_yes {α : Type} [Inhabited α] {p : α → Bool} {l : List α} {i : Nat} (hi : i < l.length) (h : p l[i]! = true) : (l.take (i + 1)).filter p = (l.take i).filter p ++ [l[i]!] := by
  have e : l[i]! = l[i] := getElem!_pos l i hi
  rw [e] at h ⊢
  rw [List.take_add_one, List.getElem?_eq_getElem hi, List.filter_append]
  simp [h]
theorem filt_no {α : Type} [Inhabited α] {p : α → Bool} {l : List α} {i : Nat} (hi : i < l.length) (h : p l[i]! = false) : (l.take (i + 1)).filter p = (l.take i).filter p := by
  have e : l[i]! = l[i] := getElem!_pos l i hi
  rw [e] at h
  rw [List.take_add_one, List.getElem?_eq_getElem hi, List.filter_append]
  simp [h]
theorem filt_at {α : Type} [Inhabited α] {p : α → Bool} {l : List α} {i : Nat} (hi : i < l.length) (h : p l[i]! = true) : ((l.take i).filter p).length < (l.filter p).length ∧ (l.filter p)[((l.take i).filter p).length]! = l[i]! := by
  have e : l[i]! = l[i] := getElem!_pos l i hi
  have e2 : l.filter p = (l.take i).filter p ++ l[i]! :: (l.drop (i + 1)).filter p := by
    conv => lhs; rw [show l = l.take i ++ (l[i] :: l.drop (i + 1)) by rw [List.getElem_cons_drop, List.take_append_drop]]
    rw [List.filter_append, List.filter_cons, ← e, if_pos h]
  rw [e2]
  refine ⟨by simp, ?_⟩
  simp [List.getElem!_eq_getElem?_getD]

theorem mixedO : Try.prog.follows .mixedOrders = true := by kernel_rfl

/-- What a list of jobs is read as, in any world that has only grown. -/
theorem JRow.loads {w : World} {b off k : Nat} {l : List Jb} (h : JRow w b off l) (hk : k = 10) {i : Nat} (hi : i < l.length) :
    ∀ n' os', Sem.run Try.prog (loadCellsFrom ⟨b, off + i * k, none⟩ 0 k #[]) (grow (w.drewN n') os') = .ok (encJ l[i]!).toArray (grow (w.drewN n') os') :=
  fun n' os' => (h.below (Gr.below ⟨n', os', rfl⟩)).load hk hi

end Go.Proofs.Ytmlmehpcfgchgaa
