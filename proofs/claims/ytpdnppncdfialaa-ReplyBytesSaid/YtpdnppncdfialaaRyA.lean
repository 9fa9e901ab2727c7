/-
  Own walks: the statement's own list of a reply's numbers.
-/
import Derived.Test.YtpdnppncdfialaaRyM
import Derived.Test.YtpdnppncdfialaaCel
import Derived.Test.YtpdnppncdfialaaByt
import Derived.BigQuiet
namespace Go.Proofs.Ytpdnppncdfialaa
open Go.RowKit

/-- Nine numbers in a block. -/
def cellsY (r : Ry) : Array Value := #[.int .i64 r.err, .int .i64 r.id, .int .i64 r.state, .int .i64 r.start, .int .i64 r.stop, .int .i64 r.plan, .int .i64 r.a, .int .i64 r.b, .int .i64 r.c]
set_option maxRecDepth 100000 in
set_option maxHeartbeats 1000000 in
theorem list_any (r : Ry) (w : World) : Calls Try.prog 23 #[.agg (encY r).toArray] w fun e w' => e = .returned (.slice (some ⟨w.heap.size + 1, 0, none⟩) 9 9) ∧ w'.heap[w.heap.size + 1]? = some (.cells (cellsY r) 2 (0, 0)) ∧ Below w.heap.size w w' := by
  obtain ⟨x1, x2, x3, x4, x5, x6, x7, x8, x9⟩ := r
  simp only [encY, cellsY]
  go_enter Try.func23, Try.ntmps23
  go_wp2_with fail
  go_ret
  exact ⟨rfl, heap_alloc2_new w _ _, ((Below.refl _ _).alloc (Nat.le_refl _) _).alloc (by simp) _⟩
theorem cellsY_at (r : Ry) (i : Nat) (hi : i < 9) : (cellsY r)[i]? = some (.int .i64 ((numsY r).getD i 0)) := by
  rcases (show i = 0 ∨ i = 1 ∨ i = 2 ∨ i = 3 ∨ i = 4 ∨ i = 5 ∨ i = 6 ∨ i = 7 ∨ i = 8 by omega) with rfl | rfl | rfl | rfl | rfl | rfl | rfl | rfl | rfl <;> rfl

end Go.Proofs.Ytpdnppncdfialaa
