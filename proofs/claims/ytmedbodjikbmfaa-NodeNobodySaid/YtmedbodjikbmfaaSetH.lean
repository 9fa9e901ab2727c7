/-
  Own walks: what the statements' own helpers on sets come to.
-/
import Derived.Test.YtmedbodjikbmfaaRows
import Derived.Test.YtmedbodjikbmfaaOwn
import Derived.Test.YtmedbodjikbmfaaBitF
import Derived.Deep.DeepMust
import Derived.Lib.Hide
namespace Go.Proofs.Ytmedbodjikbmfaa
open Go.RowKit

/-- Cells of 64 truths. -/
def Cells64 (w : World) (b off : Nat) (f : Nat → Bool) : Prop := ∀ i, i < 64 → w.cell? ⟨b, off + i, none⟩ = some (.bool (f i))

end Go.Proofs.Ytmedbodjikbmfaa
