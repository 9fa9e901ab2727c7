/-
  Own walks: which items may be planned; the first of them that may not; a copy of a list of items, and of choices.
-/
import Derived.Test.YtbnpeicmbbgboaaPgM
import Derived.Test.YtbnpeicmbbgboaaPfO
import Derived.Test.YtbnpeicmbbgboaaReg
namespace Go.Proofs.Ytbnpeicmbbgboaa
set_option maxRecDepth 8000
open Go.RowKit Go.Sort Go.Lib

theorem infoItem : (Try.prog.info? 36).map (fun i => (i.zero, i.size, i.bytes)) = some (some (.agg #[.int .i64 0, .int .i64 0, .int .i64 0, .int .i64 0]), 4, 32) := by kernel_rfl
theorem infoChoice : (Try.prog.info? 53).map (fun i => (i.zero, i.size, i.bytes)) = some (some (.agg #[.int .i64 0, .int .i64 0]), 2, 16) := by kernel_rfl

set_option maxHeartbeats 1000000 in
theorem plan_Right_fn (x : It) (w : World) :
    Calls Try.prog 11 #[.agg (encI x).toArray] w fun e w' => e = .returned (.bool (okI x)) ∧ w' = w.alloc (.cells (encI x).toArray 36) := by
  obtain ⟨i, n, l, p⟩ := x
  unfold okI encI
  dsimp only
  by_cases h1 : 1 ≤ n
  · by_cases h2 : n ≤ 64
    · by_cases h3 : 1 ≤ l
      · by_cases h4 : l ≤ 1048576
        · by_cases h5 : -1 ≤ p
          · by_cases h6 : p ≤ 1099511627776
            · go_enter Try.func11, Try.ntmps11
              go_wp2_with fail
              go_ret
              exact ⟨by simp [*] <;> omega, rfl⟩
            · go_enter Try.func11, Try.ntmps11
              go_wp2_with fail
              go_ret
              exact ⟨by simp [*] <;> omega, rfl⟩
          · go_enter Try.func11, Try.ntmps11
            go_wp2_with fail
            go_ret
            exact ⟨by simp [*] <;> omega, rfl⟩
        · go_enter Try.func11, Try.ntmps11
          go_wp2_with fail
          go_ret
          exact ⟨by simp [*] <;> omega, rfl⟩
      · go_enter Try.func11, Try.ntmps11
        go_wp2_with fail
        go_ret
        exact ⟨by simp [*] <;> omega, rfl⟩
    · go_enter Try.func11, Try.ntmps11
      go_wp2_with fail
      go_ret
      exact ⟨by simp [*] <;> omega, rfl⟩
  · go_enter Try.func11, Try.ntmps11
    go_wp2_with fail
    go_ret
    exact ⟨by simp [*] <;> omega, rfl⟩
set_option maxHeartbeats 1000000 in
theorem law_right_fn (x : It) (w : World) :
    Calls Try.prog 12 #[.agg (encI x).toArray] w fun e w' => e = .returned (.bool (okI x)) ∧ w' = w.alloc (.cells (encI x).toArray 36) := by
  obtain ⟨i, n, l, p⟩ := x
  unfold okI encI
  dsimp only
  by_cases h1 : 1 ≤ n
  · by_cases h2 : n ≤ 64
    · by_cases h3 : 1 ≤ l
      · by_cases h4 : l ≤ 1048576
        · by_cases h5 : -1 ≤ p
          · by_cases h6 : p ≤ 1099511627776
            · go_enter Try.func12, Try.ntmps12
              go_wp2_with fail
              go_ret
              exact ⟨by simp [*] <;> omega, rfl⟩
            · go_enter Try.func12, Try.ntmps12
              go_wp2_with fail
              go_ret
              exact ⟨by simp [*] <;> omega, rfl⟩
          · go_enter Try.func12, Try.ntmps12
            go_wp2_with fail
            go_ret
            exact ⟨by simp [*] <;> omega, rfl⟩
        · go_enter Try.func12, Try.ntmps12
          go_wp2_with fail
          go_ret
          exact ⟨by simp [*] <;> omega, rfl⟩
      · go_enter Try.func12, Try.ntmps12
        go_wp2_with fail
        go_ret
        exact ⟨by simp [*] <;> omega, rfl⟩
    · go_enter Try.func12, Try.ntmps12
      go_wp2_with fail
      go_ret
      exact ⟨by simp [*] <;> omega, rfl⟩
  · go_enter Try.func12, Try.ntmps12
    go_wp2_with fail
    go_ret
    exact ⟨by simp [*] <;> omega, rfl⟩
theorem notRight_fn (x : It) (w : World) :
    Calls Try.prog 27 #[.agg (encI x).toArray] w fun e w' => e = .returned (.bool (!okI x)) ∧ Below w.heap.size w w' := by
  have h := fun W => plan_Right_fn x W
  have hz : (encI x).toArray = #[.int .i64 x.id, .int .i64 x.wd, .int .i64 x.lim, .int .i64 x.pl] := rfl
  rw [hz] at h ⊢
  clear hz
  obtain ⟨b, hb⟩ : ∃ b, b = okI x := ⟨_, rfl⟩
  rw [← hb] at h ⊢
  clear hb
  have hb2 : Hid (Below w.heap.size w ((w.alloc (.cells #[.int .i64 x.id, .int .i64 x.wd, .int .i64 x.lim, .int .i64 x.pl] 36)).alloc (.cells #[.int .i64 x.id, .int .i64 x.wd, .int .i64 x.lim, .int .i64 x.pl] 36))) := ((Below.refl _ _).alloc (Nat.le_refl _) _).alloc (by simp) _
  go_enter Try.func27, Try.ntmps27
  go_wp2_with (go_at_call 11; go_must (refine (h _).mono ?_); rintro e w1 ⟨rfl, rfl⟩)
  go_ret
  exact ⟨rfl, hb2.out⟩
end Go.Proofs.Ytbnpeicmbbgboaa
