/-
  Own walk: the statement on two jobs, over what is asked of Compare and Less.
-/
import Derived.Test.YtpdnppncdfialaaOrB
import Derived.Shelf.SlicesQ.Load
namespace Go.Proofs.Ytpdnppncdfialaa
open Go.RowKit Go.Lib Go.Sort

/-- A load of what lies in a block of its own, its size a variable. -/
theorem load_box {W : World} {p k : Nat} {cs : List Value} {T : TypeId} (h : W.heap[p]? = some (.cells cs.toArray T (0, 0))) (hk : cs.length = k) :
    Sem.run Try.prog (loadCellsFrom ⟨p, 0, none⟩ 0 k #[]) W = .ok cs.toArray W := by
  refine run_loadCellsFrom_list Try.prog W _ cs k hk fun j v hj => ?_
  rw [Go.WideShapes.add_plain]
  simp [World.cell?, h, hj]

theorem aE_job : ∀ w, Sem.run Try.prog (isAgg 35) w = .ok true w := Try.isAgg35
theorem zE_job : ∀ w, Sem.run Try.prog (Go.sizeOf 35) w = .ok 10 w := Try.sizeOf35

end Go.Proofs.Ytpdnppncdfialaa
