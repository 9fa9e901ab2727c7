/-
  The functions of package set keep what the statement on the lowest nodes asks of them.
-/
import Derived.Test.YtpjmogakimelaaaSetE
import Derived.Test.YtpjmogakimelaaaSetFirsts
namespace Go.Proofs.Ytpjmogakimelaaa
open Go.RowKit

theorem firstsSpec : FirstsSpec where
  first_no := fun u hu n w hn h => first_no_fn u hu n w hn h
  first_yes := fun u hu n w h0 h1 => first_yes_fn u hu n w h0 h1
  run_ := fun u hu n w hn => (run_fn u hu n w hn).mono fun e w' ⟨r, b, he, hr, hw⟩ => ⟨r, b, he, hr, by rw [hw]; exact Below.refl _ _⟩
  awake_ := awake_fn

end Go.Proofs.Ytpjmogakimelaaa
