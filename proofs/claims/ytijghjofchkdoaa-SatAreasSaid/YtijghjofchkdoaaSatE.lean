/-
  The statement on areas: its walk.
-/
import Derived.Test.YtijghjofchkdoaaSatD
namespace Go.Proofs.Ytijghjofchkdoaa
open Go.RowKit

set_option maxHeartbeats 1000000 in
theorem areas_n_lo (a b c : Int) (_ha : -9223372036854775808 ≤ a ∧ a ≤ 9223372036854775807) (hb : -9223372036854775808 ≤ b ∧ b ≤ 9223372036854775807) (hc : -9223372036854775808 ≤ c ∧ c ≤ 9223372036854775807) (h1 : hd c - hd b < 0) (h2 : a ≤ 0) (w : World) :
    Calls Try.prog 6 #[.int .i64 a, .int .i64 b, .int .i64 c] w fun e w' => e = .returned (.bool true) ∧ Below w.heap.size w w' := by
  have rb := hd_range b
  have rc := hd_range c
  have hd0 : hd (hd c - hd b) = 0 := hd_low h1
  have hM : Hid (hd (hd a * hd (hd (hd c - hd b))) = 0) := mul_zero_law (Or.inl h2)
  clear hd0
  go_enter Try.func6, Try.ntmps6
  go_wp2_with (first | (go_at_call 7; go_must (refine (hold_any _ _ (by omega)).mono ?_); rintro e w' ⟨rfl, rfl⟩) | (go_at_call 17; go_must (refine (Area_any a b c _).mono ?_); rintro e w' ⟨rfl, rfl⟩; rw [hM.out]) | (go_at_call 10; go_must (refine (awake_any w).mono ?_); rintro e w' ⟨rfl, hbl⟩))
  go_ret
  exact ⟨rfl, hbl⟩

set_option maxHeartbeats 1000000 in
theorem areas_n_hi (a b c : Int) (_ha : -9223372036854775808 ≤ a ∧ a ≤ 9223372036854775807) (hb : -9223372036854775808 ≤ b ∧ b ≤ 9223372036854775807) (hc : -9223372036854775808 ≤ c ∧ c ≤ 9223372036854775807) (h1 : hd c - hd b < 0) (h2 : 0 < a) (w : World) :
    Calls Try.prog 6 #[.int .i64 a, .int .i64 b, .int .i64 c] w fun e w' => e = .returned (.bool true) ∧ Below w.heap.size w w' := by
  have rb := hd_range b
  have rc := hd_range c
  have hd0 : hd (hd c - hd b) = 0 := hd_low h1
  have hM : Hid (hd (hd a * hd (hd (hd c - hd b))) = 0) := mul_zero_law (Or.inr (by rw [hd0]; omega))
  clear hd0
  go_enter Try.func6, Try.ntmps6
  go_wp2_with (first | (go_at_call 7; go_must (refine (hold_any _ _ (by omega)).mono ?_); rintro e w' ⟨rfl, rfl⟩) | (go_at_call 17; go_must (refine (Area_any a b c _).mono ?_); rintro e w' ⟨rfl, rfl⟩; rw [hM.out]) | (go_at_call 10; go_must (refine (awake_any w).mono ?_); rintro e w' ⟨rfl, hbl⟩))
  go_ret
  exact ⟨rfl, hbl⟩

set_option maxHeartbeats 1000000 in
theorem areas_p_lo (a b c : Int) (_ha : -9223372036854775808 ≤ a ∧ a ≤ 9223372036854775807) (hb : -9223372036854775808 ≤ b ∧ b ≤ 9223372036854775807) (hc : -9223372036854775808 ≤ c ∧ c ≤ 9223372036854775807) (h1 : 0 ≤ hd c - hd b) (h2 : a ≤ 0) (w : World) :
    Calls Try.prog 6 #[.int .i64 a, .int .i64 b, .int .i64 c] w fun e w' => e = .returned (.bool true) ∧ Below w.heap.size w w' := by
  have rb := hd_range b
  have rc := hd_range c
  have hd0 : hd (hd c - hd b) = hd c - hd b := hd_mid h1 (by omega)
  have hM : Hid (hd (hd a * hd (hd (hd c - hd b))) = 0) := mul_zero_law (Or.inl h2)
  clear hd0
  go_enter Try.func6, Try.ntmps6
  go_wp2_with (first | (go_at_call 7; go_must (refine (hold_any _ _ (by omega)).mono ?_); rintro e w' ⟨rfl, rfl⟩) | (go_at_call 17; go_must (refine (Area_any a b c _).mono ?_); rintro e w' ⟨rfl, rfl⟩; rw [hM.out]) | (go_at_call 10; go_must (refine (awake_any w).mono ?_); rintro e w' ⟨rfl, hbl⟩))
  go_ret
  exact ⟨rfl, hbl⟩

set_option maxHeartbeats 1000000 in
theorem areas_p_z (a b c : Int) (_ha : -9223372036854775808 ≤ a ∧ a ≤ 9223372036854775807) (hb : -9223372036854775808 ≤ b ∧ b ≤ 9223372036854775807) (hc : -9223372036854775808 ≤ c ∧ c ≤ 9223372036854775807) (h1 : 0 ≤ hd c - hd b) (h2 : 0 < a) (h3 : hd c - hd b ≤ 0) (w : World) :
    Calls Try.prog 6 #[.int .i64 a, .int .i64 b, .int .i64 c] w fun e w' => e = .returned (.bool true) ∧ Below w.heap.size w w' := by
  have rb := hd_range b
  have rc := hd_range c
  have hd0 : hd (hd c - hd b) = hd c - hd b := hd_mid h1 (by omega)
  have hM : Hid (hd (hd a * hd (hd (hd c - hd b))) = 0) := mul_zero_law (Or.inr (by rw [hd0]; omega))
  clear hd0
  go_enter Try.func6, Try.ntmps6
  go_wp2_with (first | (go_at_call 7; go_must (refine (hold_any _ _ (by omega)).mono ?_); rintro e w' ⟨rfl, rfl⟩) | (go_at_call 17; go_must (refine (Area_any a b c _).mono ?_); rintro e w' ⟨rfl, rfl⟩; rw [hM.out]) | (go_at_call 10; go_must (refine (awake_any w).mono ?_); rintro e w' ⟨rfl, hbl⟩))
  go_ret
  exact ⟨rfl, hbl⟩

set_option maxHeartbeats 1000000 in
theorem areas_p_u (a b c : Int) (_ha : -9223372036854775808 ≤ a ∧ a ≤ 9223372036854775807) (hb : -9223372036854775808 ≤ b ∧ b ≤ 9223372036854775807) (hc : -9223372036854775808 ≤ c ∧ c ≤ 9223372036854775807) (h1 : 0 ≤ hd c - hd b) (h2 : 0 < a) (h3 : 0 < hd c - hd b) (h4 : a ≤ 1152921504606846976 / (hd c - hd b)) (w : World) :
    Calls Try.prog 6 #[.int .i64 a, .int .i64 b, .int .i64 c] w fun e w' => e = .returned (.bool true) ∧ Below w.heap.size w w' := by
  have rb := hd_range b
  have rc := hd_range c
  have hd0 : hd (hd c - hd b) = hd c - hd b := hd_mid h1 (by omega)
  obtain ⟨hp0, hp1, hM0⟩ := mul_under h2 h3 h4
  have hM : Hid (hd (hd a * hd (hd (hd c - hd b))) = hd (a * (hd c - hd b))) := by show _ = _; rw [hd0]; exact hM0
  clear hM0
  clear hd0
  go_enter Try.func6, Try.ntmps6
  go_wp2_with (first | (go_at_call 7; go_must (refine (hold_any _ _ (by omega)).mono ?_); rintro e w' ⟨rfl, rfl⟩) | (go_at_call 17; go_must (refine (Area_any a b c _).mono ?_); rintro e w' ⟨rfl, rfl⟩; rw [hM.out]) | (go_at_call 10; go_must (refine (awake_any w).mono ?_); rintro e w' ⟨rfl, hbl⟩))
  go_ret
  exact ⟨rfl, hbl⟩

set_option maxHeartbeats 1000000 in
theorem areas_p_o (a b c : Int) (_ha : -9223372036854775808 ≤ a ∧ a ≤ 9223372036854775807) (hb : -9223372036854775808 ≤ b ∧ b ≤ 9223372036854775807) (hc : -9223372036854775808 ≤ c ∧ c ≤ 9223372036854775807) (h1 : 0 ≤ hd c - hd b) (h2 : 0 < a) (h3 : 0 < hd c - hd b) (h4 : 1152921504606846976 / (hd c - hd b) < a) (w : World) :
    Calls Try.prog 6 #[.int .i64 a, .int .i64 b, .int .i64 c] w fun e w' => e = .returned (.bool true) ∧ Below w.heap.size w w' := by
  have rb := hd_range b
  have rc := hd_range c
  have hd0 : hd (hd c - hd b) = hd c - hd b := hd_mid h1 (by omega)
  have hM : Hid (hd (hd a * hd (hd (hd c - hd b))) = 1152921504606846976) := by show _ = _; rw [hd0]; exact mul_over h2 h3 h4
  clear hd0
  go_enter Try.func6, Try.ntmps6
  go_wp2_with (first | (go_at_call 7; go_must (refine (hold_any _ _ (by omega)).mono ?_); rintro e w' ⟨rfl, rfl⟩) | (go_at_call 17; go_must (refine (Area_any a b c _).mono ?_); rintro e w' ⟨rfl, rfl⟩; rw [hM.out]) | (go_at_call 10; go_must (refine (awake_any w).mono ?_); rintro e w' ⟨rfl, hbl⟩))
  go_ret
  exact ⟨rfl, hbl⟩

theorem areas_walk (a b c : Int) (_ha : -9223372036854775808 ≤ a ∧ a ≤ 9223372036854775807) (hb : -9223372036854775808 ≤ b ∧ b ≤ 9223372036854775807) (hc : -9223372036854775808 ≤ c ∧ c ≤ 9223372036854775807) (w : World) :
    Calls Try.prog 6 #[.int .i64 a, .int .i64 b, .int .i64 c] w fun e w' => e = .returned (.bool true) ∧ Below w.heap.size w w' := by
  by_cases h1 : hd c - hd b < 0
  · by_cases h2 : a ≤ 0
    · exact areas_n_lo a b c _ha hb hc h1 h2 w
    · exact areas_n_hi a b c _ha hb hc h1 (by omega) w
  · by_cases h2 : a ≤ 0
    · exact areas_p_lo a b c _ha hb hc (by omega) h2 w
    · by_cases h3 : hd c - hd b ≤ 0
      · exact areas_p_z a b c _ha hb hc (by omega) (by omega) h3 w
      · by_cases h4 : a ≤ 1152921504606846976 / (hd c - hd b)
        · exact areas_p_u a b c _ha hb hc (by omega) (by omega) (by omega) h4 w
        · exact areas_p_o a b c _ha hb hc (by omega) (by omega) (by omega) (by omega) w

end Go.Proofs.Ytijghjofchkdoaa
