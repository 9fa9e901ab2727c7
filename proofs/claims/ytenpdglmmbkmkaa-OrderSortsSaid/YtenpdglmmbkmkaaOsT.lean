/-
  The statement on Sort and Behind, over the program's own.
-/
import Derived.Test.YtenpdglmmbkmkaaOsB
import Derived.Test.YtenpdglmmbkmkaaOrT
import Derived.Test.YtenpdglmmbkmkaaOrE
namespace Go.Proofs.Ytenpdglmmbkmkaa
open Go.RowKit Go.Lib Go.Sort

theorem walkSorts (j : Jb) (v : Value) (l : List Jb) (w : World) (hr : RowAt encJ 10 w v l) : Calls Try.prog 4 #[.agg (encJ j).toArray, v] w fun e w' => e = .returned (.bool true) ∧ Below w.heap.size w w' :=
  sorts_walk ordSpec sortSpec j v l w hr

end Go.Proofs.Ytenpdglmmbkmkaa
