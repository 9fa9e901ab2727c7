/-
  The chapter's example.
-/
import Derived.Test.YtpjmogakimelaaaSetD
namespace Go.Proofs.Ytpjmogakimelaaa
open Go.RowKit

theorem ints_new3 (w : World) (x y z : Int) (T : TypeId) (hx : -9223372036854775808 ≤ x ∧ x ≤ 9223372036854775807) (hy : -9223372036854775808 ≤ y ∧ y ≤ 9223372036854775807) (hz : -9223372036854775808 ≤ z ∧ z ≤ 9223372036854775807) :
    IntsAt (w.alloc (.cells #[.int .i64 x, .int .i64 y, .int .i64 z] T)) (.slice (some ⟨w.heap.size, 0, none⟩) 3 3) [x, y, z] := by
  refine ⟨⟨_, 3, rfl, Nat.le_refl _, by decide, fun _ => ⟨_, _, rfl, by simp, fun i hi => ?_⟩⟩, fun v hv => by simp at hv; rcases hv with rfl | rfl | rfl <;> assumption⟩
  rw [World.cell?_alloc_at _ _ _ _ (by simp)]
  match i, hi with
  | 0, _ => rfl
  | 1, _ => rfl
  | 2, _ => rfl
theorem ints_new2 (w : World) (x y : Int) (T : TypeId) (hx : -9223372036854775808 ≤ x ∧ x ≤ 9223372036854775807) (hy : -9223372036854775808 ≤ y ∧ y ≤ 9223372036854775807) :
    IntsAt (w.alloc (.cells #[.int .i64 x, .int .i64 y] T)) (.slice (some ⟨w.heap.size, 0, none⟩) 2 2) [x, y] := by
  refine ⟨⟨_, 2, rfl, Nat.le_refl _, by decide, fun _ => ⟨_, _, rfl, by simp, fun i hi => ?_⟩⟩, fun v hv => by simp at hv; rcases hv with rfl | rfl <;> assumption⟩
  rw [World.cell?_alloc_at _ _ _ _ (by simp)]
  match i, hi with
  | 0, _ => rfl
  | 1, _ => rfl

theorem run_26 {r : Nat} {b : Bool} (h : RunWas 26 2 r b) : r = 24 ∧ b = true := by
  have h3 : rowAt 26 3 2 := by
    intro i h1 h2
    obtain rfl | rfl : i = 3 ∨ i = 4 := by omega
    · decide
    · decide
  rcases h with ⟨rfl, _, h | h⟩ | ⟨rfl, _, k, hk, hr, hno, rfl⟩
  · omega
  · exact (h 3 (by decide) h3).elim
  · have k3 : k = 3 := by
      by_cases h : 3 < k
      · exact (hno 3 h h3).elim
      · have n0 : k ≠ 0 := by rintro rfl; have := hr 0 (by omega) (by decide); revert this; decide
        have n1 : k ≠ 1 := by rintro rfl; have := hr 2 (by omega) (by decide); revert this; decide
        have n2 : k ≠ 2 := by rintro rfl; have := hr 2 (by omega) (by decide); revert this; decide
        omega
    subst k3
    exact ⟨by decide +kernel, rfl⟩

theorem of_134 (w : World) (T : TypeId) : Calls Try.prog 6 #[.slice (some ⟨w.heap.size, 0, none⟩) 3 3] (w.alloc (.cells #[.int .i64 1, .int .i64 3, .int .i64 4] T)) fun e w' => e = .returned (.int .u64 26) ∧ w.alloc (.cells #[.int .i64 1, .int .i64 3, .int .i64 4] T) = w' := by
  have h := of_fn _ _ _ (ints_new3 w 1 3 4 T (by decide) (by decide) (by decide))
  rw [show ofN (memS [1, 3, 4]) = 26 by decide +kernel] at h
  exact h
theorem of_13 (w : World) (T : TypeId) (n : Nat) (hn : n = w.heap.size) : Calls Try.prog 6 #[.slice (some ⟨n, 0, none⟩) 2 2] (w.alloc (.cells #[.int .i64 1, .int .i64 3] T)) fun e w' => e = .returned (.int .u64 10) ∧ w.alloc (.cells #[.int .i64 1, .int .i64 3] T) = w' := by
  subst hn
  have h := of_fn _ _ _ (ints_new2 w 1 3 T (by decide) (by decide))
  rw [show ofN (memS [1, 3]) = 10 by decide +kernel] at h
  exact h
theorem of_34 (w : World) (T : TypeId) (n : Nat) (hn : n = w.heap.size) : Calls Try.prog 6 #[.slice (some ⟨n, 0, none⟩) 2 2] (w.alloc (.cells #[.int .i64 3, .int .i64 4] T)) fun e w' => e = .returned (.int .u64 24) ∧ w.alloc (.cells #[.int .i64 3, .int .i64 4] T) = w' := by
  subst hn
  have h := of_fn _ _ _ (ints_new2 w 3 4 T (by decide) (by decide))
  rw [show ofN (memS [3, 4]) = 24 by decide +kernel] at h
  exact h
theorem first_26 (w : World) : Calls Try.prog 11 #[.int .u64 26, .int .i64 2] w fun e w' => e = .returned (.tuple #[.int .u64 10, .bool true]) ∧ w = w' := by
  have h := first_yes_fn 26 (by decide) 2 w (by decide) (by decide +kernel)
  rw [show ofN (lowF 26 2) = 10 by decide +kernel] at h
  exact h
theorem run_ex (w : World) : Calls Try.prog 12 #[.int .u64 26, .int .i64 2] w fun e w' => e = .returned (.tuple #[.int .u64 24, .bool true]) ∧ w = w' := by
  refine (run_fn 26 (by decide) 2 w (by decide)).mono ?_
  rintro e w' ⟨r, b, rfl, hr, rfl⟩
  obtain ⟨rfl, rfl⟩ := run_26 hr
  exact ⟨rfl, rfl⟩

set_option maxHeartbeats 400000 in
theorem awake_fn (w : World) : Calls Try.prog 10 #[] w fun e w' => e = .returned (.bool true) ∧ Below w.heap.size w w' := by
  go_enter Try.func10, Try.ntmps10
  go_wp2_with fail
  refine (of_134 _ _).mono ?_
  rintro e w' ⟨rfl, rfl⟩
  go_wp2_with fail
  refine (first_26 _).mono ?_
  rintro e w' ⟨rfl, rfl⟩
  go_wp2_with fail
  refine (run_ex _).mono ?_
  rintro e w' ⟨rfl, rfl⟩
  go_wp2_with fail
  refine (of_13 _ _ _ (by simp)).mono ?_
  rintro e w' ⟨rfl, rfl⟩
  go_wp2_with fail
  refine (of_34 _ _ _ (by simp)).mono ?_
  rintro e w' ⟨rfl, rfl⟩
  go_wp2_with fail
  go_ret
  refine ⟨rfl, ?_⟩
  exact ((((Below.refl _ _).alloc (Nat.le_refl _) _).alloc (by simp) _).alloc (by simp; omega) _)

end Go.Proofs.Ytpjmogakimelaaa
