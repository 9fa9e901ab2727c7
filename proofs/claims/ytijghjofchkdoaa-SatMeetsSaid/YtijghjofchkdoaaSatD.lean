/-
  The statement on differences, products and quotients: its walk.
-/
import Derived.Test.YtijghjofchkdoaaSatC
namespace Go.Proofs.Ytijghjofchkdoaa
open Go.RowKit

theorem mul_zero_law {a b : Int} (h : a ≤ 0 ∨ b ≤ 0) : hd (hd a * hd b) = 0 := by
  have h : hd a = 0 ∨ hd b = 0 := by unfold hd; omega
  rcases h with h | h
  · rw [h, Int.zero_mul]; rfl
  · rw [h, Int.mul_zero]; rfl

theorem mul_under {a b : Int} (ha : 0 < a) (hb : 0 < b) (h : a ≤ 1152921504606846976 / b) : 0 ≤ a * b ∧ a * b ≤ 1152921504606846976 ∧ hd (hd a * hd b) = hd (a * b) := by
  have h1 := under_div hb h
  have h2 : a * 1 ≤ a * b := Int.mul_le_mul_of_nonneg_left (by omega) (by omega)
  have h3 : 1 * b ≤ a * b := Int.mul_le_mul_of_nonneg_right (by omega) (by omega)
  exact ⟨by omega, h1, by rw [hd_mid (v := a) (by omega) (by omega), hd_mid (v := b) (by omega) (by omega)]⟩

theorem mul_over {a b : Int} (ha : 0 < a) (hb : 0 < b) (h : 1152921504606846976 / b < a) : hd (hd a * hd b) = 1152921504606846976 := by
  have hle : 1152921504606846976 ≤ hd a * hd b := by
    have h1 : 1 ≤ hd a := by unfold hd; omega
    have h2 : 1 ≤ hd b := by unfold hd; omega
    by_cases h3 : 1152921504606846976 < a
    · rw [hd_high h3]
      have := Int.mul_le_mul_of_nonneg_left h2 (show (0 : Int) ≤ 1152921504606846976 by decide)
      omega
    · by_cases h4 : 1152921504606846976 < b
      · rw [hd_high h4]
        have := Int.mul_le_mul_of_nonneg_right h1 (show (0 : Int) ≤ 1152921504606846976 by decide)
        omega
      · rw [hd_mid (v := a) (by omega) (by omega), hd_mid (v := b) (by omega) (by omega)]
        exact Int.le_of_lt (over_div hb h)
  generalize hd a * hd b = p at hle
  unfold hd; omega

theorem ceil_zero {a b : Int} (h : a ≤ 0 ∨ b ≤ 0) : ceilF a b = 0 := by unfold ceilF; rw [if_pos (by omega)]
theorem ceil_more {a b : Int} (ha : 0 < a) (hb : 0 < b) (h : 0 < a % b) : ceilF a b = a / b + 1 := by
  unfold ceilF; rw [if_neg (by omega)]
  have h1 := Int.emod_lt_of_pos a hb
  have h2 := Int.mul_ediv_add_emod a b
  rw [((Int.ediv_emod_unique hb (r := a % b - 1) (q := a / b)).2 ⟨by omega, by omega, by omega⟩).1]
theorem ceil_even {a b : Int} (ha : 0 < a) (hb : 0 < b) (h : ¬ 0 < a % b) : ceilF a b = a / b := by
  unfold ceilF; rw [if_neg (by omega)]
  have h1 := Int.emod_nonneg a (show b ≠ 0 by omega)
  have h2 := Int.mul_ediv_add_emod a b
  have h3 : b * (a / b - 1) = b * (a / b) - b := by rw [Int.mul_sub]; omega
  rw [((Int.ediv_emod_unique hb (r := b - 1) (q := a / b - 1)).2 ⟨by omega, by omega, by omega⟩).1]
  omega

theorem ceil_le {a b : Int} (ha : 0 < a) (hb : 0 < b) : ceilF a b ≤ a := by
  unfold ceilF; rw [if_neg (by omega)]
  have := Int.ediv_le_self b (show 0 ≤ a - 1 by omega)
  omega

set_option maxHeartbeats 1000000 in
theorem parts_n_lo (a b : Int) (ha : -9223372036854775808 ≤ a ∧ a ≤ 9223372036854775807) (hb : -9223372036854775808 ≤ b ∧ b ≤ 9223372036854775807) (h1 : hd a - hd b < 0) (h2 : a < 0) (w : World) :
    Calls Try.prog 4 #[.int .i64 a, .int .i64 b] w fun e w' => e = .returned (.bool true) ∧ Below w.heap.size w w' := by
  have ra := hd_range a
  have rb := hd_range b
  have hS := Lib.hid (hd_low h1)
  have hM := Lib.hid (mul_zero_law (a := a) (b := b) (by omega))
  have hC := Lib.hid (ceil_zero (a := a) (b := b) (by omega))
  have hI : Hid (decide (0 ≤ a ∧ a ≤ 1099511627776) = false) := by show _ = _; simp; omega
  go_enter Try.func4, Try.ntmps4
  go_wp2_with (first | (go_at_call 7; go_must (refine (hold_any _ _ (by omega)).mono ?_); rintro e w' ⟨rfl, rfl⟩) | (go_at_call 11; go_must (refine (Sub_any a b _).mono ?_); rintro e w' ⟨rfl, rfl⟩; rw [hS.out]) | (go_at_call 12; go_must (refine (Mul_any a b _).mono ?_); rintro e w' ⟨rfl, rfl⟩; rw [hM.out]) | (go_at_call 13; go_must (refine (Ceil_any a b _ ha hb).mono ?_); rintro e w' ⟨rfl, rfl⟩; rw [hC.out]) | (go_at_call 14; go_must (refine (Is_any a _ ha).mono ?_); rintro e w' ⟨rfl, rfl⟩; rw [hI.out]) | (go_at_call 10; go_must (refine (awake_any w).mono ?_); rintro e w' ⟨rfl, hbl⟩))
  go_ret
  exact ⟨rfl, hbl⟩

set_option maxHeartbeats 1000000 in
theorem parts_n_nil (a b : Int) (ha : -9223372036854775808 ≤ a ∧ a ≤ 9223372036854775807) (hb : -9223372036854775808 ≤ b ∧ b ≤ 9223372036854775807) (h1 : hd a - hd b < 0) (h2 : a ≤ 0) (h3 : 0 ≤ a) (w : World) :
    Calls Try.prog 4 #[.int .i64 a, .int .i64 b] w fun e w' => e = .returned (.bool true) ∧ Below w.heap.size w w' := by
  have ra := hd_range a
  have rb := hd_range b
  have hS := Lib.hid (hd_low h1)
  have hM := Lib.hid (mul_zero_law (a := a) (b := b) (by omega))
  have hC := Lib.hid (ceil_zero (a := a) (b := b) (by omega))
  have hI : Hid (decide (0 ≤ a ∧ a ≤ 1099511627776) = decide (a ≤ 1099511627776)) := by show _ = _; simp; omega
  go_enter Try.func4, Try.ntmps4
  go_wp2_with (first | (go_at_call 7; go_must (refine (hold_any _ _ (by omega)).mono ?_); rintro e w' ⟨rfl, rfl⟩) | (go_at_call 11; go_must (refine (Sub_any a b _).mono ?_); rintro e w' ⟨rfl, rfl⟩; rw [hS.out]) | (go_at_call 12; go_must (refine (Mul_any a b _).mono ?_); rintro e w' ⟨rfl, rfl⟩; rw [hM.out]) | (go_at_call 13; go_must (refine (Ceil_any a b _ ha hb).mono ?_); rintro e w' ⟨rfl, rfl⟩; rw [hC.out]) | (go_at_call 14; go_must (refine (Is_any a _ ha).mono ?_); rintro e w' ⟨rfl, rfl⟩; rw [hI.out]) | (go_at_call 10; go_must (refine (awake_any w).mono ?_); rintro e w' ⟨rfl, hbl⟩))
  go_ret
  exact ⟨rfl, hbl⟩

set_option maxHeartbeats 1000000 in
theorem parts_n_un (a b : Int) (ha : -9223372036854775808 ≤ a ∧ a ≤ 9223372036854775807) (hb : -9223372036854775808 ≤ b ∧ b ≤ 9223372036854775807) (h1 : hd a - hd b < 0) (h2 : 0 < a) (h3 : b ≤ 0) (w : World) :
    Calls Try.prog 4 #[.int .i64 a, .int .i64 b] w fun e w' => e = .returned (.bool true) ∧ Below w.heap.size w w' := by
  have ra := hd_range a
  have rb := hd_range b
  have hS := Lib.hid (hd_low h1)
  have hM := Lib.hid (mul_zero_law (a := a) (b := b) (by omega))
  have hC := Lib.hid (ceil_zero (a := a) (b := b) (by omega))
  have hI : Hid (decide (0 ≤ a ∧ a ≤ 1099511627776) = decide (a ≤ 1099511627776)) := by show _ = _; simp; omega
  go_enter Try.func4, Try.ntmps4
  go_wp2_with (first | (go_at_call 7; go_must (refine (hold_any _ _ (by omega)).mono ?_); rintro e w' ⟨rfl, rfl⟩) | (go_at_call 11; go_must (refine (Sub_any a b _).mono ?_); rintro e w' ⟨rfl, rfl⟩; rw [hS.out]) | (go_at_call 12; go_must (refine (Mul_any a b _).mono ?_); rintro e w' ⟨rfl, rfl⟩; rw [hM.out]) | (go_at_call 13; go_must (refine (Ceil_any a b _ ha hb).mono ?_); rintro e w' ⟨rfl, rfl⟩; rw [hC.out]) | (go_at_call 14; go_must (refine (Is_any a _ ha).mono ?_); rintro e w' ⟨rfl, rfl⟩; rw [hI.out]) | (go_at_call 10; go_must (refine (awake_any w).mono ?_); rintro e w' ⟨rfl, hbl⟩))
  go_ret
  exact ⟨rfl, hbl⟩

set_option maxHeartbeats 1000000 in
theorem parts_n_um (a b : Int) (ha : -9223372036854775808 ≤ a ∧ a ≤ 9223372036854775807) (hb : -9223372036854775808 ≤ b ∧ b ≤ 9223372036854775807) (h1 : hd a - hd b < 0) (h2 : 0 < a) (h3 : 0 < b) (h4 : a ≤ 1152921504606846976 / b) (h5 : 0 < a % b) (w : World) :
    Calls Try.prog 4 #[.int .i64 a, .int .i64 b] w fun e w' => e = .returned (.bool true) ∧ Below w.heap.size w w' := by
  have ra := hd_range a
  have rb := hd_range b
  have hS := Lib.hid (hd_low h1)
  obtain ⟨hp0, hp1, hM⟩ := mul_under h2 h3 h4
  have hM := Lib.hid hM
  have hC := Lib.hid (ceil_more h2 h3 h5)
  have hq0 : 0 ≤ a / b := Int.ediv_nonneg (by omega) (by omega)
  have hq : a / b + 1 ≤ 9223372036854775807 := by have := ceil_le h2 h3; rw [hC.out] at this; omega
  have hI : Hid (decide (0 ≤ a ∧ a ≤ 1099511627776) = decide (a ≤ 1099511627776)) := by show _ = _; simp; omega
  go_enter Try.func4, Try.ntmps4
  go_wp2_with (first | (go_at_call 7; go_must (refine (hold_any _ _ (by omega)).mono ?_); rintro e w' ⟨rfl, rfl⟩) | (go_at_call 11; go_must (refine (Sub_any a b _).mono ?_); rintro e w' ⟨rfl, rfl⟩; rw [hS.out]) | (go_at_call 12; go_must (refine (Mul_any a b _).mono ?_); rintro e w' ⟨rfl, rfl⟩; rw [hM.out]) | (go_at_call 13; go_must (refine (Ceil_any a b _ ha hb).mono ?_); rintro e w' ⟨rfl, rfl⟩; rw [hC.out]) | (go_at_call 14; go_must (refine (Is_any a _ ha).mono ?_); rintro e w' ⟨rfl, rfl⟩; rw [hI.out]) | (go_at_call 10; go_must (refine (awake_any w).mono ?_); rintro e w' ⟨rfl, hbl⟩))
  go_ret
  exact ⟨rfl, hbl⟩

set_option maxHeartbeats 1000000 in
theorem parts_n_ue (a b : Int) (ha : -9223372036854775808 ≤ a ∧ a ≤ 9223372036854775807) (hb : -9223372036854775808 ≤ b ∧ b ≤ 9223372036854775807) (h1 : hd a - hd b < 0) (h2 : 0 < a) (h3 : 0 < b) (h4 : a ≤ 1152921504606846976 / b) (h5 : ¬ 0 < a % b) (w : World) :
    Calls Try.prog 4 #[.int .i64 a, .int .i64 b] w fun e w' => e = .returned (.bool true) ∧ Below w.heap.size w w' := by
  have ra := hd_range a
  have rb := hd_range b
  have hS := Lib.hid (hd_low h1)
  obtain ⟨hp0, hp1, hM⟩ := mul_under h2 h3 h4
  have hM := Lib.hid hM
  have hC := Lib.hid (ceil_even h2 h3 h5)
  have hI : Hid (decide (0 ≤ a ∧ a ≤ 1099511627776) = decide (a ≤ 1099511627776)) := by show _ = _; simp; omega
  go_enter Try.func4, Try.ntmps4
  go_wp2_with (first | (go_at_call 7; go_must (refine (hold_any _ _ (by omega)).mono ?_); rintro e w' ⟨rfl, rfl⟩) | (go_at_call 11; go_must (refine (Sub_any a b _).mono ?_); rintro e w' ⟨rfl, rfl⟩; rw [hS.out]) | (go_at_call 12; go_must (refine (Mul_any a b _).mono ?_); rintro e w' ⟨rfl, rfl⟩; rw [hM.out]) | (go_at_call 13; go_must (refine (Ceil_any a b _ ha hb).mono ?_); rintro e w' ⟨rfl, rfl⟩; rw [hC.out]) | (go_at_call 14; go_must (refine (Is_any a _ ha).mono ?_); rintro e w' ⟨rfl, rfl⟩; rw [hI.out]) | (go_at_call 10; go_must (refine (awake_any w).mono ?_); rintro e w' ⟨rfl, hbl⟩))
  go_ret
  exact ⟨rfl, hbl⟩

set_option maxHeartbeats 1000000 in
theorem parts_n_om (a b : Int) (ha : -9223372036854775808 ≤ a ∧ a ≤ 9223372036854775807) (hb : -9223372036854775808 ≤ b ∧ b ≤ 9223372036854775807) (h1 : hd a - hd b < 0) (h2 : 0 < a) (h3 : 0 < b) (h4 : 1152921504606846976 / b < a) (h5 : 0 < a % b) (w : World) :
    Calls Try.prog 4 #[.int .i64 a, .int .i64 b] w fun e w' => e = .returned (.bool true) ∧ Below w.heap.size w w' := by
  have ra := hd_range a
  have rb := hd_range b
  have hS := Lib.hid (hd_low h1)
  have hM := Lib.hid (mul_over h2 h3 h4)
  have hC := Lib.hid (ceil_more h2 h3 h5)
  have hq0 : 0 ≤ a / b := Int.ediv_nonneg (by omega) (by omega)
  have hq : a / b + 1 ≤ 9223372036854775807 := by have := ceil_le h2 h3; rw [hC.out] at this; omega
  have hI : Hid (decide (0 ≤ a ∧ a ≤ 1099511627776) = decide (a ≤ 1099511627776)) := by show _ = _; simp; omega
  go_enter Try.func4, Try.ntmps4
  go_wp2_with (first | (go_at_call 7; go_must (refine (hold_any _ _ (by omega)).mono ?_); rintro e w' ⟨rfl, rfl⟩) | (go_at_call 11; go_must (refine (Sub_any a b _).mono ?_); rintro e w' ⟨rfl, rfl⟩; rw [hS.out]) | (go_at_call 12; go_must (refine (Mul_any a b _).mono ?_); rintro e w' ⟨rfl, rfl⟩; rw [hM.out]) | (go_at_call 13; go_must (refine (Ceil_any a b _ ha hb).mono ?_); rintro e w' ⟨rfl, rfl⟩; rw [hC.out]) | (go_at_call 14; go_must (refine (Is_any a _ ha).mono ?_); rintro e w' ⟨rfl, rfl⟩; rw [hI.out]) | (go_at_call 10; go_must (refine (awake_any w).mono ?_); rintro e w' ⟨rfl, hbl⟩))
  go_ret
  exact ⟨rfl, hbl⟩

set_option maxHeartbeats 1000000 in
theorem parts_n_oe (a b : Int) (ha : -9223372036854775808 ≤ a ∧ a ≤ 9223372036854775807) (hb : -9223372036854775808 ≤ b ∧ b ≤ 9223372036854775807) (h1 : hd a - hd b < 0) (h2 : 0 < a) (h3 : 0 < b) (h4 : 1152921504606846976 / b < a) (h5 : ¬ 0 < a % b) (w : World) :
    Calls Try.prog 4 #[.int .i64 a, .int .i64 b] w fun e w' => e = .returned (.bool true) ∧ Below w.heap.size w w' := by
  have ra := hd_range a
  have rb := hd_range b
  have hS := Lib.hid (hd_low h1)
  have hM := Lib.hid (mul_over h2 h3 h4)
  have hC := Lib.hid (ceil_even h2 h3 h5)
  have hI : Hid (decide (0 ≤ a ∧ a ≤ 1099511627776) = decide (a ≤ 1099511627776)) := by show _ = _; simp; omega
  go_enter Try.func4, Try.ntmps4
  go_wp2_with (first | (go_at_call 7; go_must (refine (hold_any _ _ (by omega)).mono ?_); rintro e w' ⟨rfl, rfl⟩) | (go_at_call 11; go_must (refine (Sub_any a b _).mono ?_); rintro e w' ⟨rfl, rfl⟩; rw [hS.out]) | (go_at_call 12; go_must (refine (Mul_any a b _).mono ?_); rintro e w' ⟨rfl, rfl⟩; rw [hM.out]) | (go_at_call 13; go_must (refine (Ceil_any a b _ ha hb).mono ?_); rintro e w' ⟨rfl, rfl⟩; rw [hC.out]) | (go_at_call 14; go_must (refine (Is_any a _ ha).mono ?_); rintro e w' ⟨rfl, rfl⟩; rw [hI.out]) | (go_at_call 10; go_must (refine (awake_any w).mono ?_); rintro e w' ⟨rfl, hbl⟩))
  go_ret
  exact ⟨rfl, hbl⟩

set_option maxHeartbeats 1000000 in
theorem parts_p_lo (a b : Int) (ha : -9223372036854775808 ≤ a ∧ a ≤ 9223372036854775807) (hb : -9223372036854775808 ≤ b ∧ b ≤ 9223372036854775807) (h1 : 0 ≤ hd a - hd b) (h2 : a < 0) (w : World) :
    Calls Try.prog 4 #[.int .i64 a, .int .i64 b] w fun e w' => e = .returned (.bool true) ∧ Below w.heap.size w w' := by
  have ra := hd_range a
  have rb := hd_range b
  have hS := Lib.hid (hd_mid h1 (by omega))
  have hM := Lib.hid (mul_zero_law (a := a) (b := b) (by omega))
  have hC := Lib.hid (ceil_zero (a := a) (b := b) (by omega))
  have hI : Hid (decide (0 ≤ a ∧ a ≤ 1099511627776) = false) := by show _ = _; simp; omega
  go_enter Try.func4, Try.ntmps4
  go_wp2_with (first | (go_at_call 7; go_must (refine (hold_any _ _ (by omega)).mono ?_); rintro e w' ⟨rfl, rfl⟩) | (go_at_call 11; go_must (refine (Sub_any a b _).mono ?_); rintro e w' ⟨rfl, rfl⟩; rw [hS.out]) | (go_at_call 12; go_must (refine (Mul_any a b _).mono ?_); rintro e w' ⟨rfl, rfl⟩; rw [hM.out]) | (go_at_call 13; go_must (refine (Ceil_any a b _ ha hb).mono ?_); rintro e w' ⟨rfl, rfl⟩; rw [hC.out]) | (go_at_call 14; go_must (refine (Is_any a _ ha).mono ?_); rintro e w' ⟨rfl, rfl⟩; rw [hI.out]) | (go_at_call 10; go_must (refine (awake_any w).mono ?_); rintro e w' ⟨rfl, hbl⟩))
  go_ret
  exact ⟨rfl, hbl⟩

set_option maxHeartbeats 1000000 in
theorem parts_p_nil (a b : Int) (ha : -9223372036854775808 ≤ a ∧ a ≤ 9223372036854775807) (hb : -9223372036854775808 ≤ b ∧ b ≤ 9223372036854775807) (h1 : 0 ≤ hd a - hd b) (h2 : a ≤ 0) (h3 : 0 ≤ a) (w : World) :
    Calls Try.prog 4 #[.int .i64 a, .int .i64 b] w fun e w' => e = .returned (.bool true) ∧ Below w.heap.size w w' := by
  have ra := hd_range a
  have rb := hd_range b
  have hS := Lib.hid (hd_mid h1 (by omega))
  have hM := Lib.hid (mul_zero_law (a := a) (b := b) (by omega))
  have hC := Lib.hid (ceil_zero (a := a) (b := b) (by omega))
  have hI : Hid (decide (0 ≤ a ∧ a ≤ 1099511627776) = decide (a ≤ 1099511627776)) := by show _ = _; simp; omega
  go_enter Try.func4, Try.ntmps4
  go_wp2_with (first | (go_at_call 7; go_must (refine (hold_any _ _ (by omega)).mono ?_); rintro e w' ⟨rfl, rfl⟩) | (go_at_call 11; go_must (refine (Sub_any a b _).mono ?_); rintro e w' ⟨rfl, rfl⟩; rw [hS.out]) | (go_at_call 12; go_must (refine (Mul_any a b _).mono ?_); rintro e w' ⟨rfl, rfl⟩; rw [hM.out]) | (go_at_call 13; go_must (refine (Ceil_any a b _ ha hb).mono ?_); rintro e w' ⟨rfl, rfl⟩; rw [hC.out]) | (go_at_call 14; go_must (refine (Is_any a _ ha).mono ?_); rintro e w' ⟨rfl, rfl⟩; rw [hI.out]) | (go_at_call 10; go_must (refine (awake_any w).mono ?_); rintro e w' ⟨rfl, hbl⟩))
  go_ret
  exact ⟨rfl, hbl⟩

set_option maxHeartbeats 1000000 in
theorem parts_p_un (a b : Int) (ha : -9223372036854775808 ≤ a ∧ a ≤ 9223372036854775807) (hb : -9223372036854775808 ≤ b ∧ b ≤ 9223372036854775807) (h1 : 0 ≤ hd a - hd b) (h2 : 0 < a) (h3 : b ≤ 0) (w : World) :
    Calls Try.prog 4 #[.int .i64 a, .int .i64 b] w fun e w' => e = .returned (.bool true) ∧ Below w.heap.size w w' := by
  have ra := hd_range a
  have rb := hd_range b
  have hS := Lib.hid (hd_mid h1 (by omega))
  have hM := Lib.hid (mul_zero_law (a := a) (b := b) (by omega))
  have hC := Lib.hid (ceil_zero (a := a) (b := b) (by omega))
  have hI : Hid (decide (0 ≤ a ∧ a ≤ 1099511627776) = decide (a ≤ 1099511627776)) := by show _ = _; simp; omega
  go_enter Try.func4, Try.ntmps4
  go_wp2_with (first | (go_at_call 7; go_must (refine (hold_any _ _ (by omega)).mono ?_); rintro e w' ⟨rfl, rfl⟩) | (go_at_call 11; go_must (refine (Sub_any a b _).mono ?_); rintro e w' ⟨rfl, rfl⟩; rw [hS.out]) | (go_at_call 12; go_must (refine (Mul_any a b _).mono ?_); rintro e w' ⟨rfl, rfl⟩; rw [hM.out]) | (go_at_call 13; go_must (refine (Ceil_any a b _ ha hb).mono ?_); rintro e w' ⟨rfl, rfl⟩; rw [hC.out]) | (go_at_call 14; go_must (refine (Is_any a _ ha).mono ?_); rintro e w' ⟨rfl, rfl⟩; rw [hI.out]) | (go_at_call 10; go_must (refine (awake_any w).mono ?_); rintro e w' ⟨rfl, hbl⟩))
  go_ret
  exact ⟨rfl, hbl⟩

set_option maxHeartbeats 1000000 in
theorem parts_p_um (a b : Int) (ha : -9223372036854775808 ≤ a ∧ a ≤ 9223372036854775807) (hb : -9223372036854775808 ≤ b ∧ b ≤ 9223372036854775807) (h1 : 0 ≤ hd a - hd b) (h2 : 0 < a) (h3 : 0 < b) (h4 : a ≤ 1152921504606846976 / b) (h5 : 0 < a % b) (w : World) :
    Calls Try.prog 4 #[.int .i64 a, .int .i64 b] w fun e w' => e = .returned (.bool true) ∧ Below w.heap.size w w' := by
  have ra := hd_range a
  have rb := hd_range b
  have hS := Lib.hid (hd_mid h1 (by omega))
  obtain ⟨hp0, hp1, hM⟩ := mul_under h2 h3 h4
  have hM := Lib.hid hM
  have hC := Lib.hid (ceil_more h2 h3 h5)
  have hq0 : 0 ≤ a / b := Int.ediv_nonneg (by omega) (by omega)
  have hq : a / b + 1 ≤ 9223372036854775807 := by have := ceil_le h2 h3; rw [hC.out] at this; omega
  have hI : Hid (decide (0 ≤ a ∧ a ≤ 1099511627776) = decide (a ≤ 1099511627776)) := by show _ = _; simp; omega
  go_enter Try.func4, Try.ntmps4
  go_wp2_with (first | (go_at_call 7; go_must (refine (hold_any _ _ (by omega)).mono ?_); rintro e w' ⟨rfl, rfl⟩) | (go_at_call 11; go_must (refine (Sub_any a b _).mono ?_); rintro e w' ⟨rfl, rfl⟩; rw [hS.out]) | (go_at_call 12; go_must (refine (Mul_any a b _).mono ?_); rintro e w' ⟨rfl, rfl⟩; rw [hM.out]) | (go_at_call 13; go_must (refine (Ceil_any a b _ ha hb).mono ?_); rintro e w' ⟨rfl, rfl⟩; rw [hC.out]) | (go_at_call 14; go_must (refine (Is_any a _ ha).mono ?_); rintro e w' ⟨rfl, rfl⟩; rw [hI.out]) | (go_at_call 10; go_must (refine (awake_any w).mono ?_); rintro e w' ⟨rfl, hbl⟩))
  go_ret
  exact ⟨rfl, hbl⟩

set_option maxHeartbeats 1000000 in
theorem parts_p_ue (a b : Int) (ha : -9223372036854775808 ≤ a ∧ a ≤ 9223372036854775807) (hb : -9223372036854775808 ≤ b ∧ b ≤ 9223372036854775807) (h1 : 0 ≤ hd a - hd b) (h2 : 0 < a) (h3 : 0 < b) (h4 : a ≤ 1152921504606846976 / b) (h5 : ¬ 0 < a % b) (w : World) :
    Calls Try.prog 4 #[.int .i64 a, .int .i64 b] w fun e w' => e = .returned (.bool true) ∧ Below w.heap.size w w' := by
  have ra := hd_range a
  have rb := hd_range b
  have hS := Lib.hid (hd_mid h1 (by omega))
  obtain ⟨hp0, hp1, hM⟩ := mul_under h2 h3 h4
  have hM := Lib.hid hM
  have hC := Lib.hid (ceil_even h2 h3 h5)
  have hI : Hid (decide (0 ≤ a ∧ a ≤ 1099511627776) = decide (a ≤ 1099511627776)) := by show _ = _; simp; omega
  go_enter Try.func4, Try.ntmps4
  go_wp2_with (first | (go_at_call 7; go_must (refine (hold_any _ _ (by omega)).mono ?_); rintro e w' ⟨rfl, rfl⟩) | (go_at_call 11; go_must (refine (Sub_any a b _).mono ?_); rintro e w' ⟨rfl, rfl⟩; rw [hS.out]) | (go_at_call 12; go_must (refine (Mul_any a b _).mono ?_); rintro e w' ⟨rfl, rfl⟩; rw [hM.out]) | (go_at_call 13; go_must (refine (Ceil_any a b _ ha hb).mono ?_); rintro e w' ⟨rfl, rfl⟩; rw [hC.out]) | (go_at_call 14; go_must (refine (Is_any a _ ha).mono ?_); rintro e w' ⟨rfl, rfl⟩; rw [hI.out]) | (go_at_call 10; go_must (refine (awake_any w).mono ?_); rintro e w' ⟨rfl, hbl⟩))
  go_ret
  exact ⟨rfl, hbl⟩

set_option maxHeartbeats 1000000 in
theorem parts_p_om (a b : Int) (ha : -9223372036854775808 ≤ a ∧ a ≤ 9223372036854775807) (hb : -9223372036854775808 ≤ b ∧ b ≤ 9223372036854775807) (h1 : 0 ≤ hd a - hd b) (h2 : 0 < a) (h3 : 0 < b) (h4 : 1152921504606846976 / b < a) (h5 : 0 < a % b) (w : World) :
    Calls Try.prog 4 #[.int .i64 a, .int .i64 b] w fun e w' => e = .returned (.bool true) ∧ Below w.heap.size w w' := by
  have ra := hd_range a
  have rb := hd_range b
  have hS := Lib.hid (hd_mid h1 (by omega))
  have hM := Lib.hid (mul_over h2 h3 h4)
  have hC := Lib.hid (ceil_more h2 h3 h5)
  have hq0 : 0 ≤ a / b := Int.ediv_nonneg (by omega) (by omega)
  have hq : a / b + 1 ≤ 9223372036854775807 := by have := ceil_le h2 h3; rw [hC.out] at this; omega
  have hI : Hid (decide (0 ≤ a ∧ a ≤ 1099511627776) = decide (a ≤ 1099511627776)) := by show _ = _; simp; omega
  go_enter Try.func4, Try.ntmps4
  go_wp2_with (first | (go_at_call 7; go_must (refine (hold_any _ _ (by omega)).mono ?_); rintro e w' ⟨rfl, rfl⟩) | (go_at_call 11; go_must (refine (Sub_any a b _).mono ?_); rintro e w' ⟨rfl, rfl⟩; rw [hS.out]) | (go_at_call 12; go_must (refine (Mul_any a b _).mono ?_); rintro e w' ⟨rfl, rfl⟩; rw [hM.out]) | (go_at_call 13; go_must (refine (Ceil_any a b _ ha hb).mono ?_); rintro e w' ⟨rfl, rfl⟩; rw [hC.out]) | (go_at_call 14; go_must (refine (Is_any a _ ha).mono ?_); rintro e w' ⟨rfl, rfl⟩; rw [hI.out]) | (go_at_call 10; go_must (refine (awake_any w).mono ?_); rintro e w' ⟨rfl, hbl⟩))
  go_ret
  exact ⟨rfl, hbl⟩

set_option maxHeartbeats 1000000 in
theorem parts_p_oe (a b : Int) (ha : -9223372036854775808 ≤ a ∧ a ≤ 9223372036854775807) (hb : -9223372036854775808 ≤ b ∧ b ≤ 9223372036854775807) (h1 : 0 ≤ hd a - hd b) (h2 : 0 < a) (h3 : 0 < b) (h4 : 1152921504606846976 / b < a) (h5 : ¬ 0 < a % b) (w : World) :
    Calls Try.prog 4 #[.int .i64 a, .int .i64 b] w fun e w' => e = .returned (.bool true) ∧ Below w.heap.size w w' := by
  have ra := hd_range a
  have rb := hd_range b
  have hS := Lib.hid (hd_mid h1 (by omega))
  have hM := Lib.hid (mul_over h2 h3 h4)
  have hC := Lib.hid (ceil_even h2 h3 h5)
  have hI : Hid (decide (0 ≤ a ∧ a ≤ 1099511627776) = decide (a ≤ 1099511627776)) := by show _ = _; simp; omega
  go_enter Try.func4, Try.ntmps4
  go_wp2_with (first | (go_at_call 7; go_must (refine (hold_any _ _ (by omega)).mono ?_); rintro e w' ⟨rfl, rfl⟩) | (go_at_call 11; go_must (refine (Sub_any a b _).mono ?_); rintro e w' ⟨rfl, rfl⟩; rw [hS.out]) | (go_at_call 12; go_must (refine (Mul_any a b _).mono ?_); rintro e w' ⟨rfl, rfl⟩; rw [hM.out]) | (go_at_call 13; go_must (refine (Ceil_any a b _ ha hb).mono ?_); rintro e w' ⟨rfl, rfl⟩; rw [hC.out]) | (go_at_call 14; go_must (refine (Is_any a _ ha).mono ?_); rintro e w' ⟨rfl, rfl⟩; rw [hI.out]) | (go_at_call 10; go_must (refine (awake_any w).mono ?_); rintro e w' ⟨rfl, hbl⟩))
  go_ret
  exact ⟨rfl, hbl⟩

theorem parts_walk (a b : Int) (ha : -9223372036854775808 ≤ a ∧ a ≤ 9223372036854775807) (hb : -9223372036854775808 ≤ b ∧ b ≤ 9223372036854775807) (w : World) :
    Calls Try.prog 4 #[.int .i64 a, .int .i64 b] w fun e w' => e = .returned (.bool true) ∧ Below w.heap.size w w' := by
  by_cases h1 : hd a - hd b < 0
  · by_cases h2 : a < 0
    · exact parts_n_lo a b ha hb h1 h2 w
    · by_cases h3 : a ≤ 0
      · exact parts_n_nil a b ha hb h1 h3 (by omega) w
      · by_cases h4 : b ≤ 0
        · exact parts_n_un a b ha hb h1 (by omega) h4 w
        · by_cases h5 : a ≤ 1152921504606846976 / b
          · by_cases h6 : 0 < a % b
            · exact parts_n_um a b ha hb h1 (by omega) (by omega) h5 h6 w
            · exact parts_n_ue a b ha hb h1 (by omega) (by omega) h5 h6 w
          · by_cases h6 : 0 < a % b
            · exact parts_n_om a b ha hb h1 (by omega) (by omega) (by omega) h6 w
            · exact parts_n_oe a b ha hb h1 (by omega) (by omega) (by omega) h6 w
  · by_cases h2 : a < 0
    · exact parts_p_lo a b ha hb (by omega) h2 w
    · by_cases h3 : a ≤ 0
      · exact parts_p_nil a b ha hb (by omega) h3 (by omega) w
      · by_cases h4 : b ≤ 0
        · exact parts_p_un a b ha hb (by omega) (by omega) h4 w
        · by_cases h5 : a ≤ 1152921504606846976 / b
          · by_cases h6 : 0 < a % b
            · exact parts_p_um a b ha hb (by omega) (by omega) (by omega) h5 h6 w
            · exact parts_p_ue a b ha hb (by omega) (by omega) (by omega) h5 h6 w
          · by_cases h6 : 0 < a % b
            · exact parts_p_om a b ha hb (by omega) (by omega) (by omega) (by omega) h6 w
            · exact parts_p_oe a b ha hb (by omega) (by omega) (by omega) (by omega) h6 w

end Go.Proofs.Ytijghjofchkdoaa
