/-
  Own walks: the next lock of a lane, how many there are, which kinds there are and which ask only.
-/
import Derived.Test.YtojipdcckanbfaaRuA
namespace Go.Proofs.Ytojipdcckanbfaa
open Go.RowKit Go.Lib

def nextF (a b c : Bool) (f : Int) : Int := if f ≤ 0 ∧ a = true then 0 else if f ≤ 1 ∧ b = true then 1 else if f ≤ 2 ∧ c = true then 2 else 3
theorem next_big (a b c : Bool) (f : Int) (h : 3 ≤ f) : nextF a b c f = 3 := by
  unfold nextF; rw [if_neg (by omega), if_neg (by omega), if_neg (by omega)]
theorem next_neg (a b c : Bool) (f : Int) (h : f ≤ 0) : nextF a b c f = nextF a b c 0 := by
  unfold nextF; simp [h, show f ≤ 1 by omega, show f ≤ 2 by omega]
def lenF (a b c : Bool) : Int := a.toNat + b.toNat + c.toNat

theorem Is_fn (k : Int) (w : World) : Calls Try.prog 16 #[.int .i64 k] w fun e w' => e = .returned (.bool (decide (1 ≤ k) && decide (k ≤ 13))) ∧ w = w' := by
  by_cases h1 : 1 ≤ k
  · have d1 : decide (1 ≤ k) = true := decide_eq_true h1
    go_enter Try.func16, Try.ntmps16
    go_wp2_with fail
    go_ret
    exact ⟨by simp [h1], rfl⟩
  · have d1 : decide (1 ≤ k) = false := decide_eq_false h1
    go_enter Try.func16, Try.ntmps16
    go_wp2_with fail
    go_ret
    exact ⟨by simp, rfl⟩

end Go.Proofs.Ytojipdcckanbfaa
