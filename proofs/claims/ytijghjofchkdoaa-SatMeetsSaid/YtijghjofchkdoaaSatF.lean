/-
  The statement on bounds and on what two stretches have in common: its walk.
-/
import Derived.Test.YtijghjofchkdoaaSatD
namespace Go.Proofs.Ytijghjofchkdoaa
open Go.RowKit

set_option maxHeartbeats 1000000 in
theorem meets_A211 (a b c d : Int) (_h1 : a < b) (_h2 : c < a) (_g1 : c ≤ a) (_g2 : d < b) (_g3 : d ≤ a) (w : World) :
    Calls Try.prog 5 #[.int .i64 a, .int .i64 b, .int .i64 c, .int .i64 d] w fun e w' => e = .returned (.bool true) ∧ Below w.heap.size w w' := by
  have hC : Hid (max b (min a c) = b) := by show _ = _; omega
  have hle : min b d ≤ max a c := by omega
  have hX : Hid ((if min b d ≤ max a c then 0 else max a c) = 0) := if_pos hle
  have hY : Hid ((if min b d ≤ max a c then 0 else min b d) = 0) := if_pos hle
  have hZ : Hid ((! decide (min b d ≤ max a c)) = false) := by show _ = _; simp [hle]
  clear hle
  go_enter Try.func5, Try.ntmps5
  go_wp2_with (first | (go_at_call 15; go_must (refine (Clamp_any a b c _).mono ?_); rintro e w' ⟨rfl, rfl⟩; rw [hC.out]) | (go_at_call 16; go_must (refine (Meet_any a b c d _).mono ?_); rintro e w' ⟨rfl, rfl⟩; rw [hX.out, hY.out, hZ.out]) | (go_at_call 10; go_must (refine (awake_any w).mono ?_); rintro e w' ⟨rfl, hbl⟩))
  go_ret
  exact ⟨rfl, hbl⟩

set_option maxHeartbeats 1000000 in
theorem meets_A212 (a b c d : Int) (_h1 : a < b) (_h2 : c < a) (_g1 : c ≤ a) (_g2 : d < b) (_g3 : a < d) (w : World) :
    Calls Try.prog 5 #[.int .i64 a, .int .i64 b, .int .i64 c, .int .i64 d] w fun e w' => e = .returned (.bool true) ∧ Below w.heap.size w w' := by
  have hC : Hid (max b (min a c) = b) := by show _ = _; omega
  have hle : ¬ min b d ≤ max a c := by omega
  have hX : Hid ((if min b d ≤ max a c then 0 else max a c) = a) := by show _ = _; rw [if_neg hle]; omega
  have hY : Hid ((if min b d ≤ max a c then 0 else min b d) = d) := by show _ = _; rw [if_neg hle]; omega
  have hZ : Hid ((! decide (min b d ≤ max a c)) = true) := by show _ = _; simp only [hle]; rfl
  clear hle
  go_enter Try.func5, Try.ntmps5
  go_wp2_with (first | (go_at_call 15; go_must (refine (Clamp_any a b c _).mono ?_); rintro e w' ⟨rfl, rfl⟩; rw [hC.out]) | (go_at_call 16; go_must (refine (Meet_any a b c d _).mono ?_); rintro e w' ⟨rfl, rfl⟩; rw [hX.out, hY.out, hZ.out]) | (go_at_call 10; go_must (refine (awake_any w).mono ?_); rintro e w' ⟨rfl, hbl⟩))
  go_ret
  exact ⟨rfl, hbl⟩

set_option maxHeartbeats 1000000 in
theorem meets_A222 (a b c d : Int) (_h1 : a < b) (_h2 : c < a) (_g1 : c ≤ a) (_g2 : b ≤ d) (_g3 : a < b) (w : World) :
    Calls Try.prog 5 #[.int .i64 a, .int .i64 b, .int .i64 c, .int .i64 d] w fun e w' => e = .returned (.bool true) ∧ Below w.heap.size w w' := by
  have hC : Hid (max b (min a c) = b) := by show _ = _; omega
  have hle : ¬ min b d ≤ max a c := by omega
  have hX : Hid ((if min b d ≤ max a c then 0 else max a c) = a) := by show _ = _; rw [if_neg hle]; omega
  have hY : Hid ((if min b d ≤ max a c then 0 else min b d) = b) := by show _ = _; rw [if_neg hle]; omega
  have hZ : Hid ((! decide (min b d ≤ max a c)) = true) := by show _ = _; simp only [hle]; rfl
  clear hle
  go_enter Try.func5, Try.ntmps5
  go_wp2_with (first | (go_at_call 15; go_must (refine (Clamp_any a b c _).mono ?_); rintro e w' ⟨rfl, rfl⟩; rw [hC.out]) | (go_at_call 16; go_must (refine (Meet_any a b c d _).mono ?_); rintro e w' ⟨rfl, rfl⟩; rw [hX.out, hY.out, hZ.out]) | (go_at_call 10; go_must (refine (awake_any w).mono ?_); rintro e w' ⟨rfl, hbl⟩))
  go_ret
  exact ⟨rfl, hbl⟩

set_option maxHeartbeats 1000000 in
theorem meets_B111 (a b c d : Int) (_h1 : a < b) (_h2 : a ≤ c) (_g1 : a < c) (_g2 : d < b) (_g3 : d ≤ c) (w : World) :
    Calls Try.prog 5 #[.int .i64 a, .int .i64 b, .int .i64 c, .int .i64 d] w fun e w' => e = .returned (.bool true) ∧ Below w.heap.size w w' := by
  have hC : Hid (max b (min a c) = b) := by show _ = _; omega
  have hle : min b d ≤ max a c := by omega
  have hX : Hid ((if min b d ≤ max a c then 0 else max a c) = 0) := if_pos hle
  have hY : Hid ((if min b d ≤ max a c then 0 else min b d) = 0) := if_pos hle
  have hZ : Hid ((! decide (min b d ≤ max a c)) = false) := by show _ = _; simp [hle]
  clear hle
  go_enter Try.func5, Try.ntmps5
  go_wp2_with (first | (go_at_call 15; go_must (refine (Clamp_any a b c _).mono ?_); rintro e w' ⟨rfl, rfl⟩; rw [hC.out]) | (go_at_call 16; go_must (refine (Meet_any a b c d _).mono ?_); rintro e w' ⟨rfl, rfl⟩; rw [hX.out, hY.out, hZ.out]) | (go_at_call 10; go_must (refine (awake_any w).mono ?_); rintro e w' ⟨rfl, hbl⟩))
  go_ret
  exact ⟨rfl, hbl⟩

set_option maxHeartbeats 1000000 in
theorem meets_B112 (a b c d : Int) (_h1 : a < b) (_h2 : a ≤ c) (_g1 : a < c) (_g2 : d < b) (_g3 : c < d) (w : World) :
    Calls Try.prog 5 #[.int .i64 a, .int .i64 b, .int .i64 c, .int .i64 d] w fun e w' => e = .returned (.bool true) ∧ Below w.heap.size w w' := by
  have hC : Hid (max b (min a c) = b) := by show _ = _; omega
  have hle : ¬ min b d ≤ max a c := by omega
  have hX : Hid ((if min b d ≤ max a c then 0 else max a c) = c) := by show _ = _; rw [if_neg hle]; omega
  have hY : Hid ((if min b d ≤ max a c then 0 else min b d) = d) := by show _ = _; rw [if_neg hle]; omega
  have hZ : Hid ((! decide (min b d ≤ max a c)) = true) := by show _ = _; simp only [hle]; rfl
  clear hle
  go_enter Try.func5, Try.ntmps5
  go_wp2_with (first | (go_at_call 15; go_must (refine (Clamp_any a b c _).mono ?_); rintro e w' ⟨rfl, rfl⟩; rw [hC.out]) | (go_at_call 16; go_must (refine (Meet_any a b c d _).mono ?_); rintro e w' ⟨rfl, rfl⟩; rw [hX.out, hY.out, hZ.out]) | (go_at_call 10; go_must (refine (awake_any w).mono ?_); rintro e w' ⟨rfl, hbl⟩))
  go_ret
  exact ⟨rfl, hbl⟩

set_option maxHeartbeats 1000000 in
theorem meets_B121 (a b c d : Int) (_h1 : a < b) (_h2 : a ≤ c) (_g1 : a < c) (_g2 : b ≤ d) (_g3 : b ≤ c) (w : World) :
    Calls Try.prog 5 #[.int .i64 a, .int .i64 b, .int .i64 c, .int .i64 d] w fun e w' => e = .returned (.bool true) ∧ Below w.heap.size w w' := by
  have hC : Hid (max b (min a c) = b) := by show _ = _; omega
  have hle : min b d ≤ max a c := by omega
  have hX : Hid ((if min b d ≤ max a c then 0 else max a c) = 0) := if_pos hle
  have hY : Hid ((if min b d ≤ max a c then 0 else min b d) = 0) := if_pos hle
  have hZ : Hid ((! decide (min b d ≤ max a c)) = false) := by show _ = _; simp [hle]
  clear hle
  go_enter Try.func5, Try.ntmps5
  go_wp2_with (first | (go_at_call 15; go_must (refine (Clamp_any a b c _).mono ?_); rintro e w' ⟨rfl, rfl⟩; rw [hC.out]) | (go_at_call 16; go_must (refine (Meet_any a b c d _).mono ?_); rintro e w' ⟨rfl, rfl⟩; rw [hX.out, hY.out, hZ.out]) | (go_at_call 10; go_must (refine (awake_any w).mono ?_); rintro e w' ⟨rfl, hbl⟩))
  go_ret
  exact ⟨rfl, hbl⟩

set_option maxHeartbeats 1000000 in
theorem meets_B122 (a b c d : Int) (_h1 : a < b) (_h2 : a ≤ c) (_g1 : a < c) (_g2 : b ≤ d) (_g3 : c < b) (w : World) :
    Calls Try.prog 5 #[.int .i64 a, .int .i64 b, .int .i64 c, .int .i64 d] w fun e w' => e = .returned (.bool true) ∧ Below w.heap.size w w' := by
  have hC : Hid (max b (min a c) = b) := by show _ = _; omega
  have hle : ¬ min b d ≤ max a c := by omega
  have hX : Hid ((if min b d ≤ max a c then 0 else max a c) = c) := by show _ = _; rw [if_neg hle]; omega
  have hY : Hid ((if min b d ≤ max a c then 0 else min b d) = b) := by show _ = _; rw [if_neg hle]; omega
  have hZ : Hid ((! decide (min b d ≤ max a c)) = true) := by show _ = _; simp only [hle]; rfl
  clear hle
  go_enter Try.func5, Try.ntmps5
  go_wp2_with (first | (go_at_call 15; go_must (refine (Clamp_any a b c _).mono ?_); rintro e w' ⟨rfl, rfl⟩; rw [hC.out]) | (go_at_call 16; go_must (refine (Meet_any a b c d _).mono ?_); rintro e w' ⟨rfl, rfl⟩; rw [hX.out, hY.out, hZ.out]) | (go_at_call 10; go_must (refine (awake_any w).mono ?_); rintro e w' ⟨rfl, hbl⟩))
  go_ret
  exact ⟨rfl, hbl⟩

set_option maxHeartbeats 1000000 in
theorem meets_B211 (a b c d : Int) (_h1 : a < b) (_h2 : a ≤ c) (_g1 : c ≤ a) (_g2 : d < b) (_g3 : d ≤ a) (w : World) :
    Calls Try.prog 5 #[.int .i64 a, .int .i64 b, .int .i64 c, .int .i64 d] w fun e w' => e = .returned (.bool true) ∧ Below w.heap.size w w' := by
  have hC : Hid (max b (min a c) = b) := by show _ = _; omega
  have hle : min b d ≤ max a c := by omega
  have hX : Hid ((if min b d ≤ max a c then 0 else max a c) = 0) := if_pos hle
  have hY : Hid ((if min b d ≤ max a c then 0 else min b d) = 0) := if_pos hle
  have hZ : Hid ((! decide (min b d ≤ max a c)) = false) := by show _ = _; simp [hle]
  clear hle
  go_enter Try.func5, Try.ntmps5
  go_wp2_with (first | (go_at_call 15; go_must (refine (Clamp_any a b c _).mono ?_); rintro e w' ⟨rfl, rfl⟩; rw [hC.out]) | (go_at_call 16; go_must (refine (Meet_any a b c d _).mono ?_); rintro e w' ⟨rfl, rfl⟩; rw [hX.out, hY.out, hZ.out]) | (go_at_call 10; go_must (refine (awake_any w).mono ?_); rintro e w' ⟨rfl, hbl⟩))
  go_ret
  exact ⟨rfl, hbl⟩

set_option maxHeartbeats 1000000 in
theorem meets_B212 (a b c d : Int) (_h1 : a < b) (_h2 : a ≤ c) (_g1 : c ≤ a) (_g2 : d < b) (_g3 : a < d) (w : World) :
    Calls Try.prog 5 #[.int .i64 a, .int .i64 b, .int .i64 c, .int .i64 d] w fun e w' => e = .returned (.bool true) ∧ Below w.heap.size w w' := by
  have hC : Hid (max b (min a c) = b) := by show _ = _; omega
  have hle : ¬ min b d ≤ max a c := by omega
  have hX : Hid ((if min b d ≤ max a c then 0 else max a c) = a) := by show _ = _; rw [if_neg hle]; omega
  have hY : Hid ((if min b d ≤ max a c then 0 else min b d) = d) := by show _ = _; rw [if_neg hle]; omega
  have hZ : Hid ((! decide (min b d ≤ max a c)) = true) := by show _ = _; simp only [hle]; rfl
  clear hle
  go_enter Try.func5, Try.ntmps5
  go_wp2_with (first | (go_at_call 15; go_must (refine (Clamp_any a b c _).mono ?_); rintro e w' ⟨rfl, rfl⟩; rw [hC.out]) | (go_at_call 16; go_must (refine (Meet_any a b c d _).mono ?_); rintro e w' ⟨rfl, rfl⟩; rw [hX.out, hY.out, hZ.out]) | (go_at_call 10; go_must (refine (awake_any w).mono ?_); rintro e w' ⟨rfl, hbl⟩))
  go_ret
  exact ⟨rfl, hbl⟩

set_option maxHeartbeats 1000000 in
theorem meets_B222 (a b c d : Int) (_h1 : a < b) (_h2 : a ≤ c) (_g1 : c ≤ a) (_g2 : b ≤ d) (_g3 : a < b) (w : World) :
    Calls Try.prog 5 #[.int .i64 a, .int .i64 b, .int .i64 c, .int .i64 d] w fun e w' => e = .returned (.bool true) ∧ Below w.heap.size w w' := by
  have hC : Hid (max b (min a c) = b) := by show _ = _; omega
  have hle : ¬ min b d ≤ max a c := by omega
  have hX : Hid ((if min b d ≤ max a c then 0 else max a c) = a) := by show _ = _; rw [if_neg hle]; omega
  have hY : Hid ((if min b d ≤ max a c then 0 else min b d) = b) := by show _ = _; rw [if_neg hle]; omega
  have hZ : Hid ((! decide (min b d ≤ max a c)) = true) := by show _ = _; simp only [hle]; rfl
  clear hle
  go_enter Try.func5, Try.ntmps5
  go_wp2_with (first | (go_at_call 15; go_must (refine (Clamp_any a b c _).mono ?_); rintro e w' ⟨rfl, rfl⟩; rw [hC.out]) | (go_at_call 16; go_must (refine (Meet_any a b c d _).mono ?_); rintro e w' ⟨rfl, rfl⟩; rw [hX.out, hY.out, hZ.out]) | (go_at_call 10; go_must (refine (awake_any w).mono ?_); rintro e w' ⟨rfl, hbl⟩))
  go_ret
  exact ⟨rfl, hbl⟩

set_option maxHeartbeats 1000000 in
theorem meets_C211 (a b c d : Int) (_h1 : b ≤ a) (_h2 : c < b) (_g1 : c ≤ a) (_g2 : d < b) (_g3 : d ≤ a) (w : World) :
    Calls Try.prog 5 #[.int .i64 a, .int .i64 b, .int .i64 c, .int .i64 d] w fun e w' => e = .returned (.bool true) ∧ Below w.heap.size w w' := by
  have hC : Hid (max b (min a c) = b) := by show _ = _; omega
  have hle : min b d ≤ max a c := by omega
  have hX : Hid ((if min b d ≤ max a c then 0 else max a c) = 0) := if_pos hle
  have hY : Hid ((if min b d ≤ max a c then 0 else min b d) = 0) := if_pos hle
  have hZ : Hid ((! decide (min b d ≤ max a c)) = false) := by show _ = _; simp [hle]
  clear hle
  go_enter Try.func5, Try.ntmps5
  go_wp2_with (first | (go_at_call 15; go_must (refine (Clamp_any a b c _).mono ?_); rintro e w' ⟨rfl, rfl⟩; rw [hC.out]) | (go_at_call 16; go_must (refine (Meet_any a b c d _).mono ?_); rintro e w' ⟨rfl, rfl⟩; rw [hX.out, hY.out, hZ.out]) | (go_at_call 10; go_must (refine (awake_any w).mono ?_); rintro e w' ⟨rfl, hbl⟩))
  go_ret
  exact ⟨rfl, hbl⟩

set_option maxHeartbeats 1000000 in
theorem meets_C221 (a b c d : Int) (_h1 : b ≤ a) (_h2 : c < b) (_g1 : c ≤ a) (_g2 : b ≤ d) (_g3 : b ≤ a) (w : World) :
    Calls Try.prog 5 #[.int .i64 a, .int .i64 b, .int .i64 c, .int .i64 d] w fun e w' => e = .returned (.bool true) ∧ Below w.heap.size w w' := by
  have hC : Hid (max b (min a c) = b) := by show _ = _; omega
  have hle : min b d ≤ max a c := by omega
  have hX : Hid ((if min b d ≤ max a c then 0 else max a c) = 0) := if_pos hle
  have hY : Hid ((if min b d ≤ max a c then 0 else min b d) = 0) := if_pos hle
  have hZ : Hid ((! decide (min b d ≤ max a c)) = false) := by show _ = _; simp [hle]
  clear hle
  go_enter Try.func5, Try.ntmps5
  go_wp2_with (first | (go_at_call 15; go_must (refine (Clamp_any a b c _).mono ?_); rintro e w' ⟨rfl, rfl⟩; rw [hC.out]) | (go_at_call 16; go_must (refine (Meet_any a b c d _).mono ?_); rintro e w' ⟨rfl, rfl⟩; rw [hX.out, hY.out, hZ.out]) | (go_at_call 10; go_must (refine (awake_any w).mono ?_); rintro e w' ⟨rfl, hbl⟩))
  go_ret
  exact ⟨rfl, hbl⟩

set_option maxHeartbeats 1000000 in
theorem meets_D211 (a b c d : Int) (_h1 : b ≤ a) (_h2 : b ≤ c) (_h3 : c < a) (_g1 : c ≤ a) (_g2 : d < b) (_g3 : d ≤ a) (w : World) :
    Calls Try.prog 5 #[.int .i64 a, .int .i64 b, .int .i64 c, .int .i64 d] w fun e w' => e = .returned (.bool true) ∧ Below w.heap.size w w' := by
  have hC : Hid (max b (min a c) = c) := by show _ = _; omega
  have hle : min b d ≤ max a c := by omega
  have hX : Hid ((if min b d ≤ max a c then 0 else max a c) = 0) := if_pos hle
  have hY : Hid ((if min b d ≤ max a c then 0 else min b d) = 0) := if_pos hle
  have hZ : Hid ((! decide (min b d ≤ max a c)) = false) := by show _ = _; simp [hle]
  clear hle
  go_enter Try.func5, Try.ntmps5
  go_wp2_with (first | (go_at_call 15; go_must (refine (Clamp_any a b c _).mono ?_); rintro e w' ⟨rfl, rfl⟩; rw [hC.out]) | (go_at_call 16; go_must (refine (Meet_any a b c d _).mono ?_); rintro e w' ⟨rfl, rfl⟩; rw [hX.out, hY.out, hZ.out]) | (go_at_call 10; go_must (refine (awake_any w).mono ?_); rintro e w' ⟨rfl, hbl⟩))
  go_ret
  exact ⟨rfl, hbl⟩

set_option maxHeartbeats 1000000 in
theorem meets_D221 (a b c d : Int) (_h1 : b ≤ a) (_h2 : b ≤ c) (_h3 : c < a) (_g1 : c ≤ a) (_g2 : b ≤ d) (_g3 : b ≤ a) (w : World) :
    Calls Try.prog 5 #[.int .i64 a, .int .i64 b, .int .i64 c, .int .i64 d] w fun e w' => e = .returned (.bool true) ∧ Below w.heap.size w w' := by
  have hC : Hid (max b (min a c) = c) := by show _ = _; omega
  have hle : min b d ≤ max a c := by omega
  have hX : Hid ((if min b d ≤ max a c then 0 else max a c) = 0) := if_pos hle
  have hY : Hid ((if min b d ≤ max a c then 0 else min b d) = 0) := if_pos hle
  have hZ : Hid ((! decide (min b d ≤ max a c)) = false) := by show _ = _; simp [hle]
  clear hle
  go_enter Try.func5, Try.ntmps5
  go_wp2_with (first | (go_at_call 15; go_must (refine (Clamp_any a b c _).mono ?_); rintro e w' ⟨rfl, rfl⟩; rw [hC.out]) | (go_at_call 16; go_must (refine (Meet_any a b c d _).mono ?_); rintro e w' ⟨rfl, rfl⟩; rw [hX.out, hY.out, hZ.out]) | (go_at_call 10; go_must (refine (awake_any w).mono ?_); rintro e w' ⟨rfl, hbl⟩))
  go_ret
  exact ⟨rfl, hbl⟩

set_option maxHeartbeats 1000000 in
theorem meets_E111 (a b c d : Int) (_h1 : b ≤ a) (_h2 : b ≤ c) (_h3 : a ≤ c) (_g1 : a < c) (_g2 : d < b) (_g3 : d ≤ c) (w : World) :
    Calls Try.prog 5 #[.int .i64 a, .int .i64 b, .int .i64 c, .int .i64 d] w fun e w' => e = .returned (.bool true) ∧ Below w.heap.size w w' := by
  have hC : Hid (max b (min a c) = a) := by show _ = _; omega
  have hle : min b d ≤ max a c := by omega
  have hX : Hid ((if min b d ≤ max a c then 0 else max a c) = 0) := if_pos hle
  have hY : Hid ((if min b d ≤ max a c then 0 else min b d) = 0) := if_pos hle
  have hZ : Hid ((! decide (min b d ≤ max a c)) = false) := by show _ = _; simp [hle]
  clear hle
  go_enter Try.func5, Try.ntmps5
  go_wp2_with (first | (go_at_call 15; go_must (refine (Clamp_any a b c _).mono ?_); rintro e w' ⟨rfl, rfl⟩; rw [hC.out]) | (go_at_call 16; go_must (refine (Meet_any a b c d _).mono ?_); rintro e w' ⟨rfl, rfl⟩; rw [hX.out, hY.out, hZ.out]) | (go_at_call 10; go_must (refine (awake_any w).mono ?_); rintro e w' ⟨rfl, hbl⟩))
  go_ret
  exact ⟨rfl, hbl⟩

set_option maxHeartbeats 1000000 in
theorem meets_E121 (a b c d : Int) (_h1 : b ≤ a) (_h2 : b ≤ c) (_h3 : a ≤ c) (_g1 : a < c) (_g2 : b ≤ d) (_g3 : b ≤ c) (w : World) :
    Calls Try.prog 5 #[.int .i64 a, .int .i64 b, .int .i64 c, .int .i64 d] w fun e w' => e = .returned (.bool true) ∧ Below w.heap.size w w' := by
  have hC : Hid (max b (min a c) = a) := by show _ = _; omega
  have hle : min b d ≤ max a c := by omega
  have hX : Hid ((if min b d ≤ max a c then 0 else max a c) = 0) := if_pos hle
  have hY : Hid ((if min b d ≤ max a c then 0 else min b d) = 0) := if_pos hle
  have hZ : Hid ((! decide (min b d ≤ max a c)) = false) := by show _ = _; simp [hle]
  clear hle
  go_enter Try.func5, Try.ntmps5
  go_wp2_with (first | (go_at_call 15; go_must (refine (Clamp_any a b c _).mono ?_); rintro e w' ⟨rfl, rfl⟩; rw [hC.out]) | (go_at_call 16; go_must (refine (Meet_any a b c d _).mono ?_); rintro e w' ⟨rfl, rfl⟩; rw [hX.out, hY.out, hZ.out]) | (go_at_call 10; go_must (refine (awake_any w).mono ?_); rintro e w' ⟨rfl, hbl⟩))
  go_ret
  exact ⟨rfl, hbl⟩

set_option maxHeartbeats 1000000 in
theorem meets_E211 (a b c d : Int) (_h1 : b ≤ a) (_h2 : b ≤ c) (_h3 : a ≤ c) (_g1 : c ≤ a) (_g2 : d < b) (_g3 : d ≤ a) (w : World) :
    Calls Try.prog 5 #[.int .i64 a, .int .i64 b, .int .i64 c, .int .i64 d] w fun e w' => e = .returned (.bool true) ∧ Below w.heap.size w w' := by
  have hC : Hid (max b (min a c) = a) := by show _ = _; omega
  have hle : min b d ≤ max a c := by omega
  have hX : Hid ((if min b d ≤ max a c then 0 else max a c) = 0) := if_pos hle
  have hY : Hid ((if min b d ≤ max a c then 0 else min b d) = 0) := if_pos hle
  have hZ : Hid ((! decide (min b d ≤ max a c)) = false) := by show _ = _; simp [hle]
  clear hle
  go_enter Try.func5, Try.ntmps5
  go_wp2_with (first | (go_at_call 15; go_must (refine (Clamp_any a b c _).mono ?_); rintro e w' ⟨rfl, rfl⟩; rw [hC.out]) | (go_at_call 16; go_must (refine (Meet_any a b c d _).mono ?_); rintro e w' ⟨rfl, rfl⟩; rw [hX.out, hY.out, hZ.out]) | (go_at_call 10; go_must (refine (awake_any w).mono ?_); rintro e w' ⟨rfl, hbl⟩))
  go_ret
  exact ⟨rfl, hbl⟩

set_option maxHeartbeats 1000000 in
theorem meets_E221 (a b c d : Int) (_h1 : b ≤ a) (_h2 : b ≤ c) (_h3 : a ≤ c) (_g1 : c ≤ a) (_g2 : b ≤ d) (_g3 : b ≤ a) (w : World) :
    Calls Try.prog 5 #[.int .i64 a, .int .i64 b, .int .i64 c, .int .i64 d] w fun e w' => e = .returned (.bool true) ∧ Below w.heap.size w w' := by
  have hC : Hid (max b (min a c) = a) := by show _ = _; omega
  have hle : min b d ≤ max a c := by omega
  have hX : Hid ((if min b d ≤ max a c then 0 else max a c) = 0) := if_pos hle
  have hY : Hid ((if min b d ≤ max a c then 0 else min b d) = 0) := if_pos hle
  have hZ : Hid ((! decide (min b d ≤ max a c)) = false) := by show _ = _; simp [hle]
  clear hle
  go_enter Try.func5, Try.ntmps5
  go_wp2_with (first | (go_at_call 15; go_must (refine (Clamp_any a b c _).mono ?_); rintro e w' ⟨rfl, rfl⟩; rw [hC.out]) | (go_at_call 16; go_must (refine (Meet_any a b c d _).mono ?_); rintro e w' ⟨rfl, rfl⟩; rw [hX.out, hY.out, hZ.out]) | (go_at_call 10; go_must (refine (awake_any w).mono ?_); rintro e w' ⟨rfl, hbl⟩))
  go_ret
  exact ⟨rfl, hbl⟩

theorem meets_walk (a b c d : Int) (w : World) :
    Calls Try.prog 5 #[.int .i64 a, .int .i64 b, .int .i64 c, .int .i64 d] w fun e w' => e = .returned (.bool true) ∧ Below w.heap.size w w' := by
  by_cases h1 : a < b
  · by_cases h2 : c < a
    · by_cases g2 : d < b
      · by_cases g3 : d ≤ a
        · exact meets_A211 a b c d (by omega) (by omega) (by omega) (by omega) (by omega) w
        · exact meets_A212 a b c d (by omega) (by omega) (by omega) (by omega) (by omega) w
      · by_cases g3 : b ≤ a
        · omega
        · exact meets_A222 a b c d (by omega) (by omega) (by omega) (by omega) (by omega) w
    · by_cases g1 : a < c
      · by_cases g2 : d < b
        · by_cases g3 : d ≤ c
          · exact meets_B111 a b c d (by omega) (by omega) (by omega) (by omega) (by omega) w
          · exact meets_B112 a b c d (by omega) (by omega) (by omega) (by omega) (by omega) w
        · by_cases g3 : b ≤ c
          · exact meets_B121 a b c d (by omega) (by omega) (by omega) (by omega) (by omega) w
          · exact meets_B122 a b c d (by omega) (by omega) (by omega) (by omega) (by omega) w
      · by_cases g2 : d < b
        · by_cases g3 : d ≤ a
          · exact meets_B211 a b c d (by omega) (by omega) (by omega) (by omega) (by omega) w
          · exact meets_B212 a b c d (by omega) (by omega) (by omega) (by omega) (by omega) w
        · by_cases g3 : b ≤ a
          · omega
          · exact meets_B222 a b c d (by omega) (by omega) (by omega) (by omega) (by omega) w
  · by_cases h2 : c < b
    · by_cases g1 : a < c
      · by_cases g2 : d < b
        · by_cases g3 : d ≤ c
          · omega
          · omega
        · by_cases g3 : b ≤ c
          · omega
          · omega
      · by_cases g2 : d < b
        · by_cases g3 : d ≤ a
          · exact meets_C211 a b c d (by omega) (by omega) (by omega) (by omega) (by omega) w
          · omega
        · by_cases g3 : b ≤ a
          · exact meets_C221 a b c d (by omega) (by omega) (by omega) (by omega) (by omega) w
          · omega
    · by_cases h3 : c < a
      · by_cases g2 : d < b
        · by_cases g3 : d ≤ a
          · exact meets_D211 a b c d (by omega) (by omega) (by omega) (by omega) (by omega) (by omega) w
          · omega
        · by_cases g3 : b ≤ a
          · exact meets_D221 a b c d (by omega) (by omega) (by omega) (by omega) (by omega) (by omega) w
          · omega
      · by_cases g1 : a < c
        · by_cases g2 : d < b
          · by_cases g3 : d ≤ c
            · exact meets_E111 a b c d (by omega) (by omega) (by omega) (by omega) (by omega) (by omega) w
            · omega
          · by_cases g3 : b ≤ c
            · exact meets_E121 a b c d (by omega) (by omega) (by omega) (by omega) (by omega) (by omega) w
            · omega
        · by_cases g2 : d < b
          · by_cases g3 : d ≤ a
            · exact meets_E211 a b c d (by omega) (by omega) (by omega) (by omega) (by omega) (by omega) w
            · omega
          · by_cases g3 : b ≤ a
            · exact meets_E221 a b c d (by omega) (by omega) (by omega) (by omega) (by omega) (by omega) w
            · omega

end Go.Proofs.Ytijghjofchkdoaa
