/-
  Own words: the walks of the four statements, as their rows ask for them.
-/
import Derived.Test.YtmlmehpcfgchgaaJbO
import Derived.Test.YtmlmehpcfgchgaaJbQ
import Derived.Test.YtmlmehpcfgchgaaJbR
namespace Go.Proofs.Ytmlmehpcfgchgaa
open Go.RowKit

theorem walkRights (r : Rq) (s : Int) (w : World) (_ : -9223372036854775808 ≤ s ∧ s ≤ 9223372036854775807) : Calls Try.prog 3 #[.agg (encR r).toArray, .int .i64 s] w fun e w' => e = .returned (.bool true) ∧ Below w.heap.size w w' := rights_walk r s w
theorem walkFull (n : Int) (held : Bool) (w : World) (_ : -9223372036854775808 ≤ n ∧ n ≤ 9223372036854775807) : Calls Try.prog 6 #[.int .i64 n, .bool held] w fun e w' => e = .returned (.bool true) ∧ Below w.heap.size w w' := full_walk n held w
theorem walkLists (v0 : Value) (l : List Cl) (a b : Int) (w : World) (hr : RowAt encC 14 w v0 l) (_ : -9223372036854775808 ≤ a ∧ a ≤ 9223372036854775807) (_ : -9223372036854775808 ≤ b ∧ b ≤ 9223372036854775807) : Calls Try.prog 5 #[v0, .int .i64 a, .int .i64 b] w fun e w' => e = .returned (.bool true) ∧ Below w.heap.size w w' := lists_walk v0 l a b w hr

end Go.Proofs.Ytmlmehpcfgchgaa
