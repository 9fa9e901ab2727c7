/-
  Own walks: what the functions of package sat come to.
-/
import Derived.Test.YtnajcgicbhohhaaSatA
namespace Go.Proofs.Ytnajcgicbhohhaa
open Go.RowKit

theorem Meet_any (a b c d : Int) (w : World) :
    Calls Try.prog 22 #[.int .i64 a, .int .i64 b, .int .i64 c, .int .i64 d] w fun e w' => e = .returned (.tuple #[.int .i64 (if min b d ≤ max a c then 0 else max a c), .int .i64 (if min b d ≤ max a c then 0 else min b d), .bool (! decide (min b d ≤ max a c))]) ∧ w = w' := by
  by_cases h0 : min b d ≤ max a c
  · go_enter Try.func22, Try.ntmps22
    go_wp2
    go_ret3
    exact ⟨by simp [h0], rfl⟩
  · go_enter Try.func22, Try.ntmps22
    go_wp2
    go_ret3
    exact ⟨by simp [h0], rfl⟩

/-- A quotient, rounded up. -/
def ceilF (a b : Int) : Int := if a < 1 ∨ b < 1 then 0 else (a - 1) / b + 1

/-- A product, of at least the greatest, or less. -/
theorem over_div {x y : Int} (h1 : 0 < y) (h2 : 1152921504606846976 / y < x) : 1152921504606846976 < x * y := (Int.ediv_lt_iff_lt_mul h1).1 h2
theorem under_div {x y : Int} (h1 : 0 < y) (h2 : x ≤ 1152921504606846976 / y) : x * y ≤ 1152921504606846976 := (Int.le_ediv_iff_mul_le h1).1 h2

theorem Mul_any (a b : Int) (w : World) :
    Calls Try.prog 31 #[.int .i64 a, .int .i64 b] w fun e w' => e = .returned (.int .i64 (hd (hd a * hd b))) ∧ w = w' := by
  have ha := hd_range a
  have hb := hd_range b
  by_cases h1 : 0 < hd b
  · by_cases h2 : 1152921504606846976 / hd b < hd a
    · go_enter Try.func31, Try.ntmps31
      go_wp2_with (go_at_call 30; go_must (refine (saturate_any _ _).mono ?_); rintro e w' ⟨rfl, rfl⟩)
      go_ret
      exact ⟨congrArg (fun n => Ending.returned (.int .i64 n)) (hd_high (over_div h1 h2)).symm, rfl⟩
    · have hp := under_div h1 (Int.not_lt.1 h2)
      have hp0 : 0 ≤ hd a * hd b := Int.mul_nonneg ha.1 hb.1
      go_enter Try.func31, Try.ntmps31
      go_wp2_with (go_at_call 30; go_must (refine (saturate_any _ _).mono ?_); rintro e w' ⟨rfl, rfl⟩)
      go_ret
      exact ⟨congrArg (fun n => Ending.returned (.int .i64 n)) (hd_mid hp0 hp).symm, rfl⟩
  · have hz : hd b = 0 := by omega
    go_enter Try.func31, Try.ntmps31
    go_wp2_with (go_at_call 30; go_must (refine (saturate_any _ _).mono ?_); rintro e w' ⟨rfl, rfl⟩)
    go_ret
    exact ⟨congrArg (fun n => Ending.returned (.int .i64 n)) (by rw [hz, Int.mul_zero]; rfl), rfl⟩

theorem Area_any (a b c : Int) (w : World) :
    Calls Try.prog 24 #[.int .i64 a, .int .i64 b, .int .i64 c] w fun e w' => e = .returned (.int .i64 (hd (hd a * hd (hd (hd c - hd b))))) ∧ w = w' := by
  go_enter Try.func24, Try.ntmps24
  go_wp2_with (first | (go_at_call 32; go_must (refine (Sub_any _ _ _).mono ?_); rintro e w' ⟨rfl, rfl⟩) | (go_at_call 31; go_must (refine (Mul_any _ _ _).mono ?_); rintro e w' ⟨rfl, rfl⟩))
  go_ret
  exact ⟨rfl, rfl⟩

end Go.Proofs.Ytnajcgicbhohhaa
