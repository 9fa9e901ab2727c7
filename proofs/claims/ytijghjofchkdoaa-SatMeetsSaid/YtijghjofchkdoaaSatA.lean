/-
  Own walks: what the functions of package sat, and the statements' own helper, come to.
-/
import Derived.Test.YtijghjofchkdoaaRows
import Derived.WalkKit
import Derived.WalkSpells
import Derived.WalkLawsBesides
import Derived.Deep.DeepMust
import Derived.Lib.Hide
import Derived.Lib.MinMax
namespace Go.Proofs.Ytijghjofchkdoaa
open Go.RowKit

/-- A number, held between nothing and the greatest. -/
def hd (v : Int) : Int := max 0 (min v 1152921504606846976)

theorem hd_range (v : Int) : 0 ≤ hd v ∧ hd v ≤ 1152921504606846976 := by unfold hd; omega
theorem hd_low {v : Int} (h : v < 0) : hd v = 0 := by unfold hd; omega
theorem hd_high {v : Int} (h : 1152921504606846976 < v) : hd v = 1152921504606846976 := by unfold hd; omega
theorem hd_mid {v : Int} (h0 : 0 ≤ v) (h1 : v ≤ 1152921504606846976) : hd v = v := by unfold hd; omega

theorem saturate_any (v : Int) (w : World) :
    Calls Try.prog 18 #[.int .i64 v] w fun e w' => e = .returned (.int .i64 (hd v)) ∧ w = w' := by
  go_enter Try.func18, Try.ntmps18
  go_wp2
  go_ret
  exact ⟨rfl, rfl⟩

theorem hold_any (v : Int) (w : World) (hv : -9223372036854775808 ≤ v ∧ v ≤ 9223372036854775807) :
    Calls Try.prog 7 #[.int .i64 v] w fun e w' => e = .returned (.int .i64 (hd v)) ∧ w = w' := by
  by_cases h0 : v < 0
  · go_enter Try.func7, Try.ntmps7
    go_wp2
    go_ret
    exact ⟨congrArg (fun n => Ending.returned (.int .i64 n)) (hd_low h0).symm, rfl⟩
  · by_cases h1 : 1152921504606846976 < v
    · go_enter Try.func7, Try.ntmps7
      go_wp2
      go_ret
      exact ⟨congrArg (fun n => Ending.returned (.int .i64 n)) (hd_high h1).symm, rfl⟩
    · go_enter Try.func7, Try.ntmps7
      go_wp2
      go_ret
      exact ⟨congrArg (fun n => Ending.returned (.int .i64 n)) (hd_mid (by omega) (by omega)).symm, rfl⟩

theorem Sub_any (a b : Int) (w : World) :
    Calls Try.prog 11 #[.int .i64 a, .int .i64 b] w fun e w' => e = .returned (.int .i64 (hd (hd a - hd b))) ∧ w = w' := by
  have ha := hd_range a
  have hb := hd_range b
  go_enter Try.func11, Try.ntmps11
  go_wp2_with (go_at_call 18; go_must (refine (saturate_any _ _).mono ?_); rintro e w' ⟨rfl, rfl⟩)
  go_ret
  exact ⟨rfl, rfl⟩

end Go.Proofs.Ytijghjofchkdoaa
