/-
  Own walks: the three laws as their rows want them.
-/
import Derived.Test.YtdlfbkiihkhmmaaHiJ
import Derived.Test.YtdlfbkiihkhmmaaHiL
namespace Go.Proofs.Ytdlfbkiihkhmmaa
set_option maxRecDepth 8000
open Go.RowKit Go.Lib Put

theorem histNotes_law (v1 : Value) (lx : List Ev) (v2 : Value) (bs : List Bool) (a b : Int) (w : World) (h1 : RowAt encE 24 w v1 lx) (_ : ∀ x ∈ lx, FitsE x) (h2 : RowAt encB1 1 w v2 bs) (_ : -9223372036854775808 ≤ a ∧ a ≤ 9223372036854775807) (_ : -9223372036854775808 ≤ b ∧ b ≤ 9223372036854775807) :
    Calls Try.prog 3 #[v1, v2, .int .i64 a, .int .i64 b] w fun e w' => e = .returned (.bool true) ∧ Below w.heap.size w w' := histNotes_walk v1 lx v2 bs a b w h1 h2
theorem histEarly_law (v1 : Value) (lx : List Ev) (a b : Int) (w : World) (h1 : RowAt encE 24 w v1 lx) (_ : ∀ x ∈ lx, FitsE x) (_ : -9223372036854775808 ≤ a ∧ a ≤ 9223372036854775807) (_ : -9223372036854775808 ≤ b ∧ b ≤ 9223372036854775807) :
    Calls Try.prog 5 #[v1, .int .i64 a, .int .i64 b] w fun e w' => e = .returned (.bool true) ∧ Below w.heap.size w w' := histEarly_walk v1 lx a b w h1

end Go.Proofs.Ytdlfbkiihkhmmaa
