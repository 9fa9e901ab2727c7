/-
  Own walks: the laws as their rows ask for them.
-/
import Derived.Test.YtbnpeicmbbgboaaPgO
namespace Go.Proofs.Ytbnpeicmbbgboaa
set_option maxRecDepth 8000
open Go.RowKit

theorem choices14_law (n : Int) (vs : Value) (ls : List Sp) (depth : Int) (v : Value) (l : List It) (w : World) (_ : -9223372036854775808 ≤ n ∧ n ≤ 9223372036854775807) (hs : RowAt enc3 3 w vs ls) (_ : ∀ s ∈ ls, s.fits) (_ : -9223372036854775808 ≤ depth ∧ depth ≤ 9223372036854775807) (hv : RowAt encI 4 w v l) :
    Calls Try.prog 3 #[.int .i64 n, vs, .int .i64 depth, v] w fun e w' => e = .returned (.bool true) ∧ Below w.heap.size w w' := choices14_walk n vs ls depth v l w hs hv
theorem parts14_law (n : Int) (vs : Value) (ls : List Sp) (v : Value) (l : List It) (zs : List Int) (vp : Value) (w : World) (_ : -9223372036854775808 ≤ n ∧ n ≤ 9223372036854775807) (hs : RowAt enc3 3 w vs ls) (_ : ∀ s ∈ ls, s.fits) (hv : RowAt encI 4 w v l) (hz : IntsAt w vp zs) :
    Calls Try.prog 4 #[.int .i64 n, vs, v, vp] w fun e w' => e = .returned (.bool true) ∧ Below w.heap.size w w' := parts14_walk n vs ls v l zs vp w hs hv hz
theorem lower14_law (n : Int) (vs : Value) (ls : List Sp) (v : Value) (l : List It) (w : World) (_ : -9223372036854775808 ≤ n ∧ n ≤ 9223372036854775807) (hs : RowAt enc3 3 w vs ls) (_ : ∀ s ∈ ls, s.fits) (hv : RowAt encI 4 w v l) :
    Calls Try.prog 5 #[.int .i64 n, vs, v] w fun e w' => e = .returned (.bool true) ∧ Below w.heap.size w w' := lower14_walk n vs ls v l w hs hv
theorem nobody14_law (n : Int) (x : It) (w : World) (_ : -9223372036854775808 ≤ n ∧ n ≤ 9223372036854775807) :
    Calls Try.prog 6 #[.int .i64 n, .agg (encI x).toArray] w fun e w' => e = .returned (.bool true) ∧ Below w.heap.size w w' := nobody14_walk n x w

end Go.Proofs.Ytbnpeicmbbgboaa
