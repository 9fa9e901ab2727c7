/-
  Own walks: what the functions of package sat, and the statements' own helper, come to.
-/
import Derived.Test.YtnajcgicbhohhaaRows
import Derived.WalkKit
import Derived.WalkSpells
import Derived.WalkLawsBesides
import Derived.Deep.DeepMust
import Derived.Lib.Hide
import Derived.Lib.MinMax
namespace Go.Proofs.Ytnajcgicbhohhaa
open Go.RowKit

/-- A number, held between nothing and the greatest. -/
def hd (v : Int) : Int := max 0 (min v 1152921504606846976)

theorem hd_range (v : Int) : 0 ≤ hd v ∧ hd v ≤ 1152921504606846976 := by unfold hd; omega
theorem hd_low {v : Int} (h : v < 0) : hd v = 0 := by unfold hd; omega
theorem hd_high {v : Int} (h : 1152921504606846976 < v) : hd v = 1152921504606846976 := by unfold hd; omega
theorem hd_mid {v : Int} (h0 : 0 ≤ v) (h1 : v ≤ 1152921504606846976) : hd v = v := by unfold hd; omega

theorem saturate_any (v : Int) (w : World) :
    Calls Try.prog 30 #[.int .i64 v] w fun e w' => e = .returned (.int .i64 (hd v)) ∧ w = w' := by
  go_enter Try.func30, Try.ntmps30
  go_wp2
  go_ret
  exact ⟨rfl, rfl⟩

theorem Sub_any (a b : Int) (w : World) :
    Calls Try.prog 32 #[.int .i64 a, .int .i64 b] w fun e w' => e = .returned (.int .i64 (hd (hd a - hd b))) ∧ w = w' := by
  have ha := hd_range a
  have hb := hd_range b
  go_enter Try.func32, Try.ntmps32
  go_wp2_with (go_at_call 30; go_must (refine (saturate_any _ _).mono ?_); rintro e w' ⟨rfl, rfl⟩)
  go_ret
  exact ⟨rfl, rfl⟩

end Go.Proofs.Ytnajcgicbhohhaa
