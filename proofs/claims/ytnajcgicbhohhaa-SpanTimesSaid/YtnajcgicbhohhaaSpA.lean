/-
  Own walks: which spans may be.
-/
import Derived.Test.YtnajcgicbhohhaaChecked
import Derived.Test.YtnajcgicbhohhaaRow
import Derived.WalkKit
import Derived.WalkSpells
import Derived.WalkLawsBesides
import Derived.Deep.DeepMust
import Derived.Lib.Hide
import Derived.Lib.MinMax
namespace Go.Proofs.Ytnajcgicbhohhaa
open Go.RowKit

/-- May a span be? -/
def rightB (s : Sp) : Bool := decide (0 ≤ s.a ∧ s.a < s.b ∧ s.b ≤ 1152921504606846976 ∧ 1 ≤ s.n ∧ s.n ≤ 64)
theorem rightB_yes {s : Sp} (h : rightB s = true) : 0 ≤ s.a ∧ s.a < s.b ∧ s.b ≤ 1152921504606846976 ∧ 1 ≤ s.n ∧ s.n ≤ 64 := of_decide_eq_true h
theorem rightB_no {s : Sp} (h : ¬ (0 ≤ s.a ∧ s.a < s.b ∧ s.b ≤ 1152921504606846976 ∧ 1 ≤ s.n ∧ s.n ≤ 64)) : rightB s = false := decide_eq_false h
theorem rightB_mk {s : Sp} (h : 0 ≤ s.a ∧ s.a < s.b ∧ s.b ≤ 1152921504606846976 ∧ 1 ≤ s.n ∧ s.n ≤ 64) : rightB s = true := decide_eq_true h

set_option maxHeartbeats 400000 in
theorem Right_any (s : Sp) (w : World) :
    Calls Try.prog 8 #[.agg #[.int .i64 s.a, .int .i64 s.b, .int .i64 s.n]] w fun e w' => e = .returned (.bool (rightB s)) ∧ w' = w.alloc (.cells #[.int .i64 s.a, .int .i64 s.b, .int .i64 s.n] 26) := by
  obtain ⟨a, b, n⟩ := s
  dsimp only
  by_cases h1 : 0 ≤ a
  · by_cases h2 : a < b
    · by_cases h3 : b ≤ 1152921504606846976
      · by_cases h4 : 1 ≤ n
        · by_cases h5 : n ≤ 64
          · rw [rightB_mk ⟨h1, h2, h3, h4, h5⟩]
            go_enter Try.func8, Try.ntmps8
            go_wp2_with fail
            go_ret
            exact ⟨rfl, rfl⟩
          · rw [rightB_no (fun h => h5 h.2.2.2.2)]
            have h5' : 64 < n := by omega
            go_enter Try.func8, Try.ntmps8
            go_wp2_with fail
            go_ret
            exact ⟨rfl, rfl⟩
        · rw [rightB_no (fun h => h4 h.2.2.2.1)]
          have h4' : n < 1 := by omega
          go_enter Try.func8, Try.ntmps8
          go_wp2_with fail
          go_ret
          exact ⟨rfl, rfl⟩
      · rw [rightB_no (fun h => h3 h.2.2.1)]
        have h3' : 1152921504606846976 < b := by omega
        go_enter Try.func8, Try.ntmps8
        go_wp2_with fail
        go_ret
        exact ⟨rfl, rfl⟩
    · rw [rightB_no (fun h => h2 h.2.1)]
      have h2' : b ≤ a := by omega
      go_enter Try.func8, Try.ntmps8
      go_wp2_with fail
      go_ret
      exact ⟨rfl, rfl⟩
  · rw [rightB_no (fun h => h1 h.1)]
    have h1' : a < 0 := by omega
    go_enter Try.func8, Try.ntmps8
    go_wp2_with fail
    go_ret
    exact ⟨rfl, rfl⟩

end Go.Proofs.Ytnajcgicbhohhaa
