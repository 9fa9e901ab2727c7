/-
  The functions of package set keep what the statement on lists of nodes asks of them.
-/
import Derived.Test.YtpjmogakimelaaaSetE
import Derived.Test.YtpjmogakimelaaaSetListB
namespace Go.Proofs.Ytpjmogakimelaaa
open Go.RowKit

theorem listsSpec : ListsSpec where
  of_ := fun v zs w h => (of_fn v zs w h).mono fun e w' ⟨he, hw⟩ => ⟨he, by rw [hw]; exact Below.refl _ _⟩
  all_ := fun n w hn => all_fn n w hn
  list_ := fun u hu w => list_fn u hu w
  awake_ := awake_fn

end Go.Proofs.Ytpjmogakimelaaa
