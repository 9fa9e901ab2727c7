/-
  What the statement on nodes asks of the functions of package set.
-/
import Derived.Test.YtpjmogakimelaaaDoorSetAll
import Derived.Test.YtpjmogakimelaaaDoorLen
namespace Go.Proofs.YtpjmogakimelaaaDoor
open Go.RowKit

theorem TabAt.below {w w' : World} (h : TabAt w) (h0 : 0 < w.heap.size) (hb : Below w.heap.size w w') : TabAt w' := fun i hi => by
  rw [hb.cell (p := ⟨0, i, none⟩) h0]
  exact h i hi

structure NodesSpec : Prop where
  has_ : ∀ (u : Nat) (hu : u < 18446744073709551616) (n : Int) (w : World) (hn : -9223372036854775808 ≤ n ∧ n ≤ 9223372036854775807), Calls Tryd.prog 6 #[.int .u64 u, .int .i64 n] w fun e w' => e = .returned (.bool (hasF u n)) ∧ w = w'
  with_ : ∀ (u : Nat) (hu : u < 18446744073709551616) (n : Int) (w : World) (hn : -9223372036854775808 ≤ n ∧ n ≤ 9223372036854775807), Calls Tryd.prog 7 #[.int .u64 u, .int .i64 n] w fun e w' => e = .returned (.int .u64 (ofN fun i => decide ((i : Int) = n) || u.testBit i)) ∧ w = w'
  without_ : ∀ (u : Nat) (hu : u < 18446744073709551616) (n : Int) (w : World) (hn : -9223372036854775808 ≤ n ∧ n ≤ 9223372036854775807), Calls Tryd.prog 9 #[.int .u64 u, .int .i64 n] w fun e w' => e = .returned (.int .u64 (ofN fun i => !decide ((i : Int) = n) && u.testBit i)) ∧ w = w'
  len_ : ∀ (u : Nat) (hu : u < 18446744073709551616) (w : World), Calls Tryd.prog 10 #[.int .u64 u] w fun e w' => e = .returned (.int .i64 (cntK u.testBit 64)) ∧ w = w'
  low_ : ∀ (u : Nat) (_hu : u < 18446744073709551616) (w : World), TabAt w → Calls Tryd.prog 11 #[.int .u64 u] w fun e w' => e = .returned (.int .i64 (loK u.testBit 64)) ∧ w = w'
  high_ : ∀ (u : Nat) (hu : u < 18446744073709551616) (w : World), Calls Tryd.prog 12 #[.int .u64 u] w fun e w' => e = .returned (.int .i64 (hiK u.testBit 64)) ∧ w = w'
  awake_ : ∀ (w : World), Calls Tryd.prog 13 #[] w fun e w' => e = .returned (.bool true) ∧ Below w.heap.size w w'

theorem nodesSpec : NodesSpec where
  has_ := fun u hu n w hn => has_fn u hu n w hn
  with_ := fun u hu n w hn => with_fn u hu n w hn
  without_ := fun u hu n w hn => without_fn u hu n w hn
  len_ := fun u hu w => len_fn u hu w
  low_ := fun u hu w ht => low_fn u hu w ht
  high_ := fun u hu w => high_fn u hu w
  awake_ := awake_fn

end Go.Proofs.YtpjmogakimelaaaDoor
