/-
  The program's comparisons are what is asked; the statement on two jobs.
-/
import Derived.Test.YtenpdglmmbkmkaaOrI
import Derived.Test.YtenpdglmmbkmkaaOrG
namespace Go.Proofs.Ytenpdglmmbkmkaa
open Go.RowKit Go.Lib Go.Sort

theorem ordSpec : OrdSpec := ⟨Compare_fn, Less_fn⟩
theorem walkCompares (a b : Jb) (w : World) : Calls Try.prog 3 #[.agg (encJ a).toArray, .agg (encJ b).toArray] w fun e w' => e = .returned (.bool true) ∧ Below w.heap.size w w' :=
  compares_walk ordSpec a b w

end Go.Proofs.Ytenpdglmmbkmkaa
