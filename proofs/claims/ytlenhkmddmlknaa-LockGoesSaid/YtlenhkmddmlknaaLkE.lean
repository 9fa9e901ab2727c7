/-
  Own walks: the chapter's example; the statement on a nil set.
-/
import Derived.Test.YtlenhkmddmlknaaLkC
namespace Go.Proofs.Ytlenhkmddmlknaa
set_option maxRecDepth 8000
open Go.RowKit Go.Lib

set_option maxRecDepth 100000 in
set_option maxHeartbeats 4000000 in
theorem awake_fn (w : World) : Calls Try.prog 11 #[] w fun e w' => e = .returned (.bool true) ∧ Below w.heap.size w w' := by
  obtain ⟨w1, hw1⟩ : ∃ w1, w1 = w.alloc (.cells #[.int .i64 0, .int .i64 0, .int .i64 0, .int .i64 0] 26) := ⟨_, rfl⟩
  have hb1 : Below w.heap.size w w1 := by rw [hw1]; exact (Below.refl _ _).alloc (Nat.le_refl _) _
  have hs1 : w.heap.size ≤ w1.heap.size := hb1.size
  have hL1 : LkAt 26 w1 w.heap.size ⟨0, 0, 0, 0⟩ := by rw [hw1]; exact heap_alloc_new w _
  have h2 := Try_fn 2 1 hL1 (by decide)
  rw [show Lk.tryE ⟨0, 0, 0, 0⟩ 2 1 = 0 by decide, show Lk.tryL ⟨0, 0, 0, 0⟩ 2 1 = ⟨0, 0, 1, 1⟩ from rfl] at h2
  have h3 := fun W (h : LkAt 26 W w.heap.size ⟨0, 0, 1, 1⟩) => Try_fn 0 1 h (by decide)
  rw [show Lk.tryE ⟨0, 0, 1, 1⟩ 0 1 = 17 by decide, show Lk.tryL ⟨0, 0, 1, 1⟩ 0 1 = ⟨0, 0, 1, 1⟩ from rfl] at h3
  have h4 := fun W (h : LkAt 26 W w.heap.size ⟨0, 0, 1, 1⟩) => Try_fn 2 2 h (by decide)
  rw [show Lk.tryE ⟨0, 0, 1, 1⟩ 2 2 = 18 by decide, show Lk.tryL ⟨0, 0, 1, 1⟩ 2 2 = ⟨0, 0, 1, 1⟩ from rfl] at h4
  have h5 := fun W (h : LkAt 26 W w.heap.size ⟨0, 0, 1, 1⟩) => Owner_fn 2 h
  rw [show Lk.own ⟨0, 0, 1, 1⟩ 2 = 1 by decide] at h5
  replace hb1 := Lib.hid hb1
  clear hL1
  go_enter Try.func11, Try.ntmps11
  go_wp2_with fail
  rw [← hw1]
  clear hw1
  go_at_call 13
  refine h2.mono ?_
  clear h2
  rintro e w2 ⟨rfl, hL2, o2⟩
  replace hL2 := Lib.hid hL2
  replace o2 := Lib.hid o2
  go_wp2_with fail
  go_at_call 13
  refine (h3 _ hL2.out).mono ?_
  clear h3
  rintro e w3 ⟨rfl, hL3, o3⟩
  replace hL3 := Lib.hid hL3
  replace o3 := Lib.hid (o2.out.trans o3 (.inl rfl))
  clear o2 hL2
  go_wp2_with fail
  go_at_call 13
  refine (h4 _ hL3.out).mono ?_
  clear h4
  rintro e w4 ⟨rfl, hL4, o4⟩
  replace hL4 := Lib.hid hL4
  replace o4 := Lib.hid (o3.out.trans o4 (.inl rfl))
  clear o3 hL3
  go_wp2_with fail
  go_at_call 9
  refine (h5 _ hL4.out).mono ?_
  clear h5
  rintro e w5 ⟨rfl, rfl⟩
  have hfin : Hid (Below w.heap.size w w4) := hb1.out.trans (o4.out.below (Nat.le_refl _) (Nat.le_refl _) hs1)
  clear hL4 o4 hs1 hb1
  go_wp2_with fail
  go_ret
  exact ⟨rfl, hfin.out⟩

set_option maxRecDepth 100000 in
set_option maxHeartbeats 4000000 in
theorem lockNobody_walk (k who : Int) (w : World) (_h1 : -9223372036854775808 ≤ k ∧ k ≤ 9223372036854775807) (_h2 : -9223372036854775808 ≤ who ∧ who ≤ 9223372036854775807) : Calls Try.prog 5 #[.int .i64 k, .int .i64 who] w fun e w' => e = .returned (.bool true) ∧ Below w.heap.size w w' := by
  have h1 := Try_nil k who w
  have h2 := Free_nil k who w
  have h3 := All_nil who w
  have h4 := Owner_nil k w
  have h5 := Taken_nil w
  have h6 := Held_nil who w
  unfold laneV at h6
  have h7 := fun W => Idle_nil W
  have h8 := fun W => awake_fn W
  have hq := fun W => lane_eql false false false false false false W
  go_enter Try.func5, Try.ntmps5
  go_wp2_with fail
  go_at_call 13
  refine h1.mono ?_
  clear h1
  rintro e w5 ⟨rfl, rfl⟩
  go_wp2_with fail
  go_at_call 14
  refine h2.mono ?_
  clear h2
  rintro e w5 ⟨rfl, rfl⟩
  go_wp2_with fail
  go_at_call 15
  refine h3.mono ?_
  clear h3
  rintro e w5 ⟨rfl, rfl⟩
  go_wp2_with fail
  go_at_call 9
  refine h4.mono ?_
  clear h4
  rintro e w5 ⟨rfl, rfl⟩
  go_wp2_with fail
  go_at_call 7
  refine h5.mono ?_
  clear h5
  rintro e w5 ⟨rfl, rfl⟩
  go_wp2_with fail
  go_at_call 10
  refine h6.mono ?_
  clear h6
  rintro e w2 ⟨rfl, hb2⟩
  go_wp2_with fail
  go_at_call 8
  refine (h7 w2).mono ?_
  clear h7
  rintro e w5 ⟨rfl, rfl⟩
  go_wp2_with fail
  go_at_call 11
  refine (h8 w2).mono ?_
  clear h8
  rintro e w3 ⟨rfl, hb3⟩
  have hfin : Hid (Below w.heap.size w w3) := hb2.trans (hb3.mono hb2.size)
  clear hb2 hb3
  go_wp2_with fail
  go_ret
  exact ⟨rfl, hfin.out⟩

end Go.Proofs.Ytlenhkmddmlknaa
