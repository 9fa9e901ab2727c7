/-
  Own walks: the statement's own table of locks; the statement on kinds and their locks.
-/
import Derived.Test.YthofobldpnoclaaRuB
import Derived.Laws.StructEq
namespace Go.Proofs.Ythofobldpnoclaa
open Go.RowKit Go.Lib

theorem lane_eq (a b c : Bool) (w : World) : (binOp .eql 24 (.agg #[.bool a, .bool b, .bool c]) (.agg #[.bool a, .bool b, .bool c])).run Try.prog w = .ok (.bool true) w := by
  cases a <;> cases b <;> cases c <;> kernel_rfl
theorem lane_guard : Try.prog.eqGuardType Try.prog.depth 24 = false := by kernel_rfl

structure ThreeL (w : World) (g : Nat) : Prop where
  h : w.heap[g]? = some (.cells #[.bool false, .bool false, .bool false] 23 (0, 0))
theorem threeL_put {w : World} {g : Nat} (h : ThreeL w g) (a b c : Bool) : (((w.setCell ⟨g, 0, none⟩ (.bool a)).setCell ⟨g, 1, none⟩ (.bool b)).setCell ⟨g, 2, none⟩ (.bool c)).heap[g]? = some (.cells #[.bool a, .bool b, .bool c] 23 (0, 0)) :=
  heap_put (heap_put (heap_put h.h _) _) _

set_option maxRecDepth 100000 in
set_option maxHeartbeats 1000000 in
theorem needs_1 (w : World) : Calls Try.prog 8 #[.int .i64 1] w fun e w' => e = .returned (laneV true false true) ∧ Below w.heap.size w w' := by
  have hb1 : Below w.heap.size w (w.alloc (.cells #[.bool false, .bool false, .bool false] 23)) := (Below.refl _ _).alloc (Nat.le_refl _) _
  have hT : Hid (ThreeL (w.alloc (.cells #[.bool false, .bool false, .bool false] 23)) w.heap.size) := ⟨heap_alloc_new w _⟩
  go_enter Try.func8, Try.ntmps8
  go_wp2_with fail
  refine ret_row rfl rfl rfl (heap_alloc_new w _) Try.underlying23 rfl (by kernel_rfl) ⟨rfl, ?_⟩
  exact (Below.refl _ _).alloc (Nat.le_refl _) _

set_option maxRecDepth 100000 in
set_option maxHeartbeats 1000000 in
theorem needs_2 (w : World) : Calls Try.prog 8 #[.int .i64 2] w fun e w' => e = .returned (laneV true true true) ∧ Below w.heap.size w w' := by
  have hb1 : Below w.heap.size w (w.alloc (.cells #[.bool false, .bool false, .bool false] 23)) := (Below.refl _ _).alloc (Nat.le_refl _) _
  have hT : Hid (ThreeL (w.alloc (.cells #[.bool false, .bool false, .bool false] 23)) w.heap.size) := ⟨heap_alloc_new w _⟩
  go_enter Try.func8, Try.ntmps8
  go_wp2_with fail
  refine ret_row rfl rfl rfl (heap_alloc_new w _) Try.underlying23 rfl (by kernel_rfl) ⟨rfl, ?_⟩
  exact (Below.refl _ _).alloc (Nat.le_refl _) _

set_option maxRecDepth 100000 in
set_option maxHeartbeats 1000000 in
theorem needs_3 (w : World) : Calls Try.prog 8 #[.int .i64 3] w fun e w' => e = .returned (laneV true false true) ∧ Below w.heap.size w w' := by
  have hb1 : Below w.heap.size w (w.alloc (.cells #[.bool false, .bool false, .bool false] 23)) := (Below.refl _ _).alloc (Nat.le_refl _) _
  have hT : Hid (ThreeL (w.alloc (.cells #[.bool false, .bool false, .bool false] 23)) w.heap.size) := ⟨heap_alloc_new w _⟩
  go_enter Try.func8, Try.ntmps8
  go_wp2_with fail
  refine ret_row rfl rfl rfl (heap_alloc_new w _) Try.underlying23 rfl (by kernel_rfl) ⟨rfl, ?_⟩
  exact (Below.refl _ _).alloc (Nat.le_refl _) _

set_option maxRecDepth 100000 in
set_option maxHeartbeats 1000000 in
theorem needs_4 (w : World) : Calls Try.prog 8 #[.int .i64 4] w fun e w' => e = .returned (laneV true false true) ∧ Below w.heap.size w w' := by
  have hb1 : Below w.heap.size w (w.alloc (.cells #[.bool false, .bool false, .bool false] 23)) := (Below.refl _ _).alloc (Nat.le_refl _) _
  have hT : Hid (ThreeL (w.alloc (.cells #[.bool false, .bool false, .bool false] 23)) w.heap.size) := ⟨heap_alloc_new w _⟩
  go_enter Try.func8, Try.ntmps8
  go_wp2_with fail
  refine ret_row rfl rfl rfl (heap_alloc_new w _) Try.underlying23 rfl (by kernel_rfl) ⟨rfl, ?_⟩
  exact (Below.refl _ _).alloc (Nat.le_refl _) _

set_option maxRecDepth 100000 in
set_option maxHeartbeats 1000000 in
theorem needs_5 (w : World) : Calls Try.prog 8 #[.int .i64 5] w fun e w' => e = .returned (laneV true true true) ∧ Below w.heap.size w w' := by
  have hb1 : Below w.heap.size w (w.alloc (.cells #[.bool false, .bool false, .bool false] 23)) := (Below.refl _ _).alloc (Nat.le_refl _) _
  have hT : Hid (ThreeL (w.alloc (.cells #[.bool false, .bool false, .bool false] 23)) w.heap.size) := ⟨heap_alloc_new w _⟩
  go_enter Try.func8, Try.ntmps8
  go_wp2_with fail
  refine ret_row rfl rfl rfl (heap_alloc_new w _) Try.underlying23 rfl (by kernel_rfl) ⟨rfl, ?_⟩
  exact (Below.refl _ _).alloc (Nat.le_refl _) _

set_option maxRecDepth 100000 in
set_option maxHeartbeats 1000000 in
theorem needs_6 (w : World) : Calls Try.prog 8 #[.int .i64 6] w fun e w' => e = .returned (laneV true false false) ∧ Below w.heap.size w w' := by
  have hb1 : Below w.heap.size w (w.alloc (.cells #[.bool false, .bool false, .bool false] 23)) := (Below.refl _ _).alloc (Nat.le_refl _) _
  have hT : Hid (ThreeL (w.alloc (.cells #[.bool false, .bool false, .bool false] 23)) w.heap.size) := ⟨heap_alloc_new w _⟩
  go_enter Try.func8, Try.ntmps8
  go_wp2_with fail
  refine ret_row rfl rfl rfl (heap_alloc_new w _) Try.underlying23 rfl (by kernel_rfl) ⟨rfl, ?_⟩
  exact (Below.refl _ _).alloc (Nat.le_refl _) _

set_option maxRecDepth 100000 in
set_option maxHeartbeats 1000000 in
theorem needs_7 (w : World) : Calls Try.prog 8 #[.int .i64 7] w fun e w' => e = .returned (laneV true true true) ∧ Below w.heap.size w w' := by
  have hb1 : Below w.heap.size w (w.alloc (.cells #[.bool false, .bool false, .bool false] 23)) := (Below.refl _ _).alloc (Nat.le_refl _) _
  have hT : Hid (ThreeL (w.alloc (.cells #[.bool false, .bool false, .bool false] 23)) w.heap.size) := ⟨heap_alloc_new w _⟩
  go_enter Try.func8, Try.ntmps8
  go_wp2_with fail
  refine ret_row rfl rfl rfl (heap_alloc_new w _) Try.underlying23 rfl (by kernel_rfl) ⟨rfl, ?_⟩
  exact (Below.refl _ _).alloc (Nat.le_refl _) _

set_option maxRecDepth 100000 in
set_option maxHeartbeats 1000000 in
theorem needs_8 (w : World) : Calls Try.prog 8 #[.int .i64 8] w fun e w' => e = .returned (laneV true true true) ∧ Below w.heap.size w w' := by
  have hb1 : Below w.heap.size w (w.alloc (.cells #[.bool false, .bool false, .bool false] 23)) := (Below.refl _ _).alloc (Nat.le_refl _) _
  have hT : Hid (ThreeL (w.alloc (.cells #[.bool false, .bool false, .bool false] 23)) w.heap.size) := ⟨heap_alloc_new w _⟩
  go_enter Try.func8, Try.ntmps8
  go_wp2_with fail
  refine ret_row rfl rfl rfl (heap_alloc_new w _) Try.underlying23 rfl (by kernel_rfl) ⟨rfl, ?_⟩
  exact (Below.refl _ _).alloc (Nat.le_refl _) _

set_option maxRecDepth 100000 in
set_option maxHeartbeats 1000000 in
theorem needs_9 (w : World) : Calls Try.prog 8 #[.int .i64 9] w fun e w' => e = .returned (laneV true true true) ∧ Below w.heap.size w w' := by
  have hb1 : Below w.heap.size w (w.alloc (.cells #[.bool false, .bool false, .bool false] 23)) := (Below.refl _ _).alloc (Nat.le_refl _) _
  have hT : Hid (ThreeL (w.alloc (.cells #[.bool false, .bool false, .bool false] 23)) w.heap.size) := ⟨heap_alloc_new w _⟩
  go_enter Try.func8, Try.ntmps8
  go_wp2_with fail
  refine ret_row rfl rfl rfl (heap_alloc_new w _) Try.underlying23 rfl (by kernel_rfl) ⟨rfl, ?_⟩
  exact (Below.refl _ _).alloc (Nat.le_refl _) _

set_option maxRecDepth 100000 in
set_option maxHeartbeats 1000000 in
theorem needs_10 (w : World) : Calls Try.prog 8 #[.int .i64 10] w fun e w' => e = .returned (laneV false true false) ∧ Below w.heap.size w w' := by
  have hb1 : Below w.heap.size w (w.alloc (.cells #[.bool false, .bool false, .bool false] 23)) := (Below.refl _ _).alloc (Nat.le_refl _) _
  have hT : Hid (ThreeL (w.alloc (.cells #[.bool false, .bool false, .bool false] 23)) w.heap.size) := ⟨heap_alloc_new w _⟩
  go_enter Try.func8, Try.ntmps8
  go_wp2_with fail
  refine ret_row rfl rfl rfl (heap_alloc_new w _) Try.underlying23 rfl (by kernel_rfl) ⟨rfl, ?_⟩
  exact (Below.refl _ _).alloc (Nat.le_refl _) _

set_option maxRecDepth 100000 in
set_option maxHeartbeats 1000000 in
theorem needs_11 (w : World) : Calls Try.prog 8 #[.int .i64 11] w fun e w' => e = .returned (laneV true false false) ∧ Below w.heap.size w w' := by
  have hb1 : Below w.heap.size w (w.alloc (.cells #[.bool false, .bool false, .bool false] 23)) := (Below.refl _ _).alloc (Nat.le_refl _) _
  have hT : Hid (ThreeL (w.alloc (.cells #[.bool false, .bool false, .bool false] 23)) w.heap.size) := ⟨heap_alloc_new w _⟩
  go_enter Try.func8, Try.ntmps8
  go_wp2_with fail
  refine ret_row rfl rfl rfl (heap_alloc_new w _) Try.underlying23 rfl (by kernel_rfl) ⟨rfl, ?_⟩
  exact (Below.refl _ _).alloc (Nat.le_refl _) _

set_option maxRecDepth 100000 in
set_option maxHeartbeats 1000000 in
theorem needs_12 (w : World) : Calls Try.prog 8 #[.int .i64 12] w fun e w' => e = .returned (laneV false false true) ∧ Below w.heap.size w w' := by
  have hb1 : Below w.heap.size w (w.alloc (.cells #[.bool false, .bool false, .bool false] 23)) := (Below.refl _ _).alloc (Nat.le_refl _) _
  have hT : Hid (ThreeL (w.alloc (.cells #[.bool false, .bool false, .bool false] 23)) w.heap.size) := ⟨heap_alloc_new w _⟩
  go_enter Try.func8, Try.ntmps8
  go_wp2_with fail
  refine ret_row rfl rfl rfl (heap_alloc_new w _) Try.underlying23 rfl (by kernel_rfl) ⟨rfl, ?_⟩
  exact (Below.refl _ _).alloc (Nat.le_refl _) _

set_option maxRecDepth 100000 in
set_option maxHeartbeats 1000000 in
theorem needs_no (k : Int) (w : World) (h1 : k ≠ 1) (h3 : k ≠ 3) (h4 : k ≠ 4) (h2 : k ≠ 2) (h5 : k ≠ 5) (h7 : k ≠ 7) (h8 : k ≠ 8) (h9 : k ≠ 9) (h6 : k ≠ 6) (h11 : k ≠ 11) (h10 : k ≠ 10) (h12 : k ≠ 12) : Calls Try.prog 8 #[.int .i64 k] w fun e w' => e = .returned (laneV false false false) ∧ Below w.heap.size w w' := by
  have t1 : (k == 1) = false := beq_eq_false_iff_ne.2 h1
  have t3 : (k == 3) = false := beq_eq_false_iff_ne.2 h3
  have t4 : (k == 4) = false := beq_eq_false_iff_ne.2 h4
  have t2 : (k == 2) = false := beq_eq_false_iff_ne.2 h2
  have t5 : (k == 5) = false := beq_eq_false_iff_ne.2 h5
  have t7 : (k == 7) = false := beq_eq_false_iff_ne.2 h7
  have t8 : (k == 8) = false := beq_eq_false_iff_ne.2 h8
  have t9 : (k == 9) = false := beq_eq_false_iff_ne.2 h9
  have t6 : (k == 6) = false := beq_eq_false_iff_ne.2 h6
  have t11 : (k == 11) = false := beq_eq_false_iff_ne.2 h11
  have t10 : (k == 10) = false := beq_eq_false_iff_ne.2 h10
  have t12 : (k == 12) = false := beq_eq_false_iff_ne.2 h12
  clear h1 h3 h4 h2 h5 h7 h8 h9 h6 h11 h10 h12
  have hb1 : Below w.heap.size w (w.alloc (.cells #[.bool false, .bool false, .bool false] 23)) := (Below.refl _ _).alloc (Nat.le_refl _) _
  have hT : Hid (ThreeL (w.alloc (.cells #[.bool false, .bool false, .bool false] 23)) w.heap.size) := ⟨heap_alloc_new w _⟩
  go_enter Try.func8, Try.ntmps8
  go_wp2_with fail
  refine ret_row rfl rfl rfl (heap_alloc_new w _) Try.underlying23 rfl (by kernel_rfl) ⟨rfl, ?_⟩
  exact (Below.refl _ _).alloc (Nat.le_refl _) _

set_option maxRecDepth 100000 in
set_option maxHeartbeats 2000000 in
theorem ruleNeeds_1 (w : World) : Calls Try.prog 3 #[.int .i64 1] w fun e w' => e = .returned (.bool true) ∧ Below w.heap.size w w' := by
  have h1 := fun W => Is_fn (1) W
  have h2 := fun W => Needs_1 W
  have h3 := fun W => needs_1 W
  have h4 := fun W => Every_fn W
  have h5 := fun W => Reads_fn (1) W
  have h6 := fun W => awake_any W
  have q1 := fun W => lane_eq true false true W
  have q2 := fun W => lane_eq true true true W
  have hg := lane_guard
  rw [show (decide ((1 : Int) ≤ 1) && decide ((1 : Int) ≤ 13)) = true from rfl] at h1
  rw [show readsF 1 = false from rfl] at h5
  unfold laneV at h2 h3 h4
  go_enter Try.func3, Try.ntmps3
  go_wp2_with fail
  go_at_call 6
  refine (h1 _).mono ?_
  clear h1
  rintro e w1 ⟨rfl, rfl⟩
  go_wp2_with fail
  go_at_call 7
  refine (h2 _).mono ?_
  clear h2
  rintro e w2 ⟨rfl, hb2⟩
  go_wp2_with fail
  go_at_call 8
  refine (h3 _).mono ?_
  clear h3
  rintro e w3 ⟨rfl, hb3⟩
  have g3 := hb2.trans (hb3.mono hb2.size)
  clear hb2 hb3
  go_wp2_with fail
  go_at_call 9
  refine (h4 _).mono ?_
  clear h4
  rintro e w4 ⟨rfl, hb4⟩
  have g4 := g3.trans (hb4.mono g3.size)
  clear g3 hb4
  go_wp2_with fail
  go_at_call 10
  refine (h5 _).mono ?_
  clear h5
  rintro e w5 ⟨rfl, rfl⟩
  go_wp2_with fail
  go_at_call 11
  refine (h6 _).mono ?_
  clear h6
  rintro e w6 ⟨rfl, hb6⟩
  have g6 := g4.trans (hb6.mono g4.size)
  clear g4 hb6
  go_wp2_with fail
  go_ret
  exact ⟨rfl, g6⟩

set_option maxRecDepth 100000 in
set_option maxHeartbeats 2000000 in
theorem ruleNeeds_2 (w : World) : Calls Try.prog 3 #[.int .i64 2] w fun e w' => e = .returned (.bool true) ∧ Below w.heap.size w w' := by
  have h1 := fun W => Is_fn (2) W
  have h2 := fun W => Needs_2 W
  have h3 := fun W => needs_2 W
  have h4 := fun W => Every_fn W
  have h5 := fun W => Reads_fn (2) W
  have h6 := fun W => awake_any W
  have q1 := fun W => lane_eq true true true W
  have q2 := fun W => lane_eq true true true W
  have hg := lane_guard
  rw [show (decide ((1 : Int) ≤ 2) && decide ((2 : Int) ≤ 13)) = true from rfl] at h1
  rw [show readsF 2 = false from rfl] at h5
  unfold laneV at h2 h3 h4
  go_enter Try.func3, Try.ntmps3
  go_wp2_with fail
  go_at_call 6
  refine (h1 _).mono ?_
  clear h1
  rintro e w1 ⟨rfl, rfl⟩
  go_wp2_with fail
  go_at_call 7
  refine (h2 _).mono ?_
  clear h2
  rintro e w2 ⟨rfl, hb2⟩
  go_wp2_with fail
  go_at_call 8
  refine (h3 _).mono ?_
  clear h3
  rintro e w3 ⟨rfl, hb3⟩
  have g3 := hb2.trans (hb3.mono hb2.size)
  clear hb2 hb3
  go_wp2_with fail
  go_at_call 9
  refine (h4 _).mono ?_
  clear h4
  rintro e w4 ⟨rfl, hb4⟩
  have g4 := g3.trans (hb4.mono g3.size)
  clear g3 hb4
  go_wp2_with fail
  go_at_call 10
  refine (h5 _).mono ?_
  clear h5
  rintro e w5 ⟨rfl, rfl⟩
  go_wp2_with fail
  go_at_call 11
  refine (h6 _).mono ?_
  clear h6
  rintro e w6 ⟨rfl, hb6⟩
  have g6 := g4.trans (hb6.mono g4.size)
  clear g4 hb6
  go_wp2_with fail
  go_ret
  exact ⟨rfl, g6⟩

set_option maxRecDepth 100000 in
set_option maxHeartbeats 2000000 in
theorem ruleNeeds_3 (w : World) : Calls Try.prog 3 #[.int .i64 3] w fun e w' => e = .returned (.bool true) ∧ Below w.heap.size w w' := by
  have h1 := fun W => Is_fn (3) W
  have h2 := fun W => Needs_3 W
  have h3 := fun W => needs_3 W
  have h4 := fun W => Every_fn W
  have h5 := fun W => Reads_fn (3) W
  have h6 := fun W => awake_any W
  have q1 := fun W => lane_eq true false true W
  have q2 := fun W => lane_eq true true true W
  have hg := lane_guard
  rw [show (decide ((1 : Int) ≤ 3) && decide ((3 : Int) ≤ 13)) = true from rfl] at h1
  rw [show readsF 3 = false from rfl] at h5
  unfold laneV at h2 h3 h4
  go_enter Try.func3, Try.ntmps3
  go_wp2_with fail
  go_at_call 6
  refine (h1 _).mono ?_
  clear h1
  rintro e w1 ⟨rfl, rfl⟩
  go_wp2_with fail
  go_at_call 7
  refine (h2 _).mono ?_
  clear h2
  rintro e w2 ⟨rfl, hb2⟩
  go_wp2_with fail
  go_at_call 8
  refine (h3 _).mono ?_
  clear h3
  rintro e w3 ⟨rfl, hb3⟩
  have g3 := hb2.trans (hb3.mono hb2.size)
  clear hb2 hb3
  go_wp2_with fail
  go_at_call 9
  refine (h4 _).mono ?_
  clear h4
  rintro e w4 ⟨rfl, hb4⟩
  have g4 := g3.trans (hb4.mono g3.size)
  clear g3 hb4
  go_wp2_with fail
  go_at_call 10
  refine (h5 _).mono ?_
  clear h5
  rintro e w5 ⟨rfl, rfl⟩
  go_wp2_with fail
  go_at_call 11
  refine (h6 _).mono ?_
  clear h6
  rintro e w6 ⟨rfl, hb6⟩
  have g6 := g4.trans (hb6.mono g4.size)
  clear g4 hb6
  go_wp2_with fail
  go_ret
  exact ⟨rfl, g6⟩

set_option maxRecDepth 100000 in
set_option maxHeartbeats 2000000 in
theorem ruleNeeds_4 (w : World) : Calls Try.prog 3 #[.int .i64 4] w fun e w' => e = .returned (.bool true) ∧ Below w.heap.size w w' := by
  have h1 := fun W => Is_fn (4) W
  have h2 := fun W => Needs_4 W
  have h3 := fun W => needs_4 W
  have h4 := fun W => Every_fn W
  have h5 := fun W => Reads_fn (4) W
  have h6 := fun W => awake_any W
  have q1 := fun W => lane_eq true false true W
  have q2 := fun W => lane_eq true true true W
  have hg := lane_guard
  rw [show (decide ((1 : Int) ≤ 4) && decide ((4 : Int) ≤ 13)) = true from rfl] at h1
  rw [show readsF 4 = false from rfl] at h5
  unfold laneV at h2 h3 h4
  go_enter Try.func3, Try.ntmps3
  go_wp2_with fail
  go_at_call 6
  refine (h1 _).mono ?_
  clear h1
  rintro e w1 ⟨rfl, rfl⟩
  go_wp2_with fail
  go_at_call 7
  refine (h2 _).mono ?_
  clear h2
  rintro e w2 ⟨rfl, hb2⟩
  go_wp2_with fail
  go_at_call 8
  refine (h3 _).mono ?_
  clear h3
  rintro e w3 ⟨rfl, hb3⟩
  have g3 := hb2.trans (hb3.mono hb2.size)
  clear hb2 hb3
  go_wp2_with fail
  go_at_call 9
  refine (h4 _).mono ?_
  clear h4
  rintro e w4 ⟨rfl, hb4⟩
  have g4 := g3.trans (hb4.mono g3.size)
  clear g3 hb4
  go_wp2_with fail
  go_at_call 10
  refine (h5 _).mono ?_
  clear h5
  rintro e w5 ⟨rfl, rfl⟩
  go_wp2_with fail
  go_at_call 11
  refine (h6 _).mono ?_
  clear h6
  rintro e w6 ⟨rfl, hb6⟩
  have g6 := g4.trans (hb6.mono g4.size)
  clear g4 hb6
  go_wp2_with fail
  go_ret
  exact ⟨rfl, g6⟩

set_option maxRecDepth 100000 in
set_option maxHeartbeats 2000000 in
theorem ruleNeeds_5 (w : World) : Calls Try.prog 3 #[.int .i64 5] w fun e w' => e = .returned (.bool true) ∧ Below w.heap.size w w' := by
  have h1 := fun W => Is_fn (5) W
  have h2 := fun W => Needs_5 W
  have h3 := fun W => needs_5 W
  have h4 := fun W => Every_fn W
  have h5 := fun W => Reads_fn (5) W
  have h6 := fun W => awake_any W
  have q1 := fun W => lane_eq true true true W
  have q2 := fun W => lane_eq true true true W
  have hg := lane_guard
  rw [show (decide ((1 : Int) ≤ 5) && decide ((5 : Int) ≤ 13)) = true from rfl] at h1
  rw [show readsF 5 = false from rfl] at h5
  unfold laneV at h2 h3 h4
  go_enter Try.func3, Try.ntmps3
  go_wp2_with fail
  go_at_call 6
  refine (h1 _).mono ?_
  clear h1
  rintro e w1 ⟨rfl, rfl⟩
  go_wp2_with fail
  go_at_call 7
  refine (h2 _).mono ?_
  clear h2
  rintro e w2 ⟨rfl, hb2⟩
  go_wp2_with fail
  go_at_call 8
  refine (h3 _).mono ?_
  clear h3
  rintro e w3 ⟨rfl, hb3⟩
  have g3 := hb2.trans (hb3.mono hb2.size)
  clear hb2 hb3
  go_wp2_with fail
  go_at_call 9
  refine (h4 _).mono ?_
  clear h4
  rintro e w4 ⟨rfl, hb4⟩
  have g4 := g3.trans (hb4.mono g3.size)
  clear g3 hb4
  go_wp2_with fail
  go_at_call 10
  refine (h5 _).mono ?_
  clear h5
  rintro e w5 ⟨rfl, rfl⟩
  go_wp2_with fail
  go_at_call 11
  refine (h6 _).mono ?_
  clear h6
  rintro e w6 ⟨rfl, hb6⟩
  have g6 := g4.trans (hb6.mono g4.size)
  clear g4 hb6
  go_wp2_with fail
  go_ret
  exact ⟨rfl, g6⟩

set_option maxRecDepth 100000 in
set_option maxHeartbeats 2000000 in
theorem ruleNeeds_6 (w : World) : Calls Try.prog 3 #[.int .i64 6] w fun e w' => e = .returned (.bool true) ∧ Below w.heap.size w w' := by
  have h1 := fun W => Is_fn (6) W
  have h2 := fun W => Needs_6 W
  have h3 := fun W => needs_6 W
  have h4 := fun W => Every_fn W
  have h5 := fun W => Reads_fn (6) W
  have h6 := fun W => awake_any W
  have q1 := fun W => lane_eq true false false W
  have q2 := fun W => lane_eq true true true W
  have hg := lane_guard
  rw [show (decide ((1 : Int) ≤ 6) && decide ((6 : Int) ≤ 13)) = true from rfl] at h1
  rw [show readsF 6 = true from rfl] at h5
  unfold laneV at h2 h3 h4
  go_enter Try.func3, Try.ntmps3
  go_wp2_with fail
  go_at_call 6
  refine (h1 _).mono ?_
  clear h1
  rintro e w1 ⟨rfl, rfl⟩
  go_wp2_with fail
  go_at_call 7
  refine (h2 _).mono ?_
  clear h2
  rintro e w2 ⟨rfl, hb2⟩
  go_wp2_with fail
  go_at_call 8
  refine (h3 _).mono ?_
  clear h3
  rintro e w3 ⟨rfl, hb3⟩
  have g3 := hb2.trans (hb3.mono hb2.size)
  clear hb2 hb3
  go_wp2_with fail
  go_at_call 9
  refine (h4 _).mono ?_
  clear h4
  rintro e w4 ⟨rfl, hb4⟩
  have g4 := g3.trans (hb4.mono g3.size)
  clear g3 hb4
  go_wp2_with fail
  go_at_call 10
  refine (h5 _).mono ?_
  clear h5
  rintro e w5 ⟨rfl, rfl⟩
  go_wp2_with fail
  go_at_call 11
  refine (h6 _).mono ?_
  clear h6
  rintro e w6 ⟨rfl, hb6⟩
  have g6 := g4.trans (hb6.mono g4.size)
  clear g4 hb6
  go_wp2_with fail
  go_ret
  exact ⟨rfl, g6⟩

set_option maxRecDepth 100000 in
set_option maxHeartbeats 2000000 in
theorem ruleNeeds_7 (w : World) : Calls Try.prog 3 #[.int .i64 7] w fun e w' => e = .returned (.bool true) ∧ Below w.heap.size w w' := by
  have h1 := fun W => Is_fn (7) W
  have h2 := fun W => Needs_7 W
  have h3 := fun W => needs_7 W
  have h4 := fun W => Every_fn W
  have h5 := fun W => Reads_fn (7) W
  have h6 := fun W => awake_any W
  have q1 := fun W => lane_eq true true true W
  have q2 := fun W => lane_eq true true true W
  have hg := lane_guard
  rw [show (decide ((1 : Int) ≤ 7) && decide ((7 : Int) ≤ 13)) = true from rfl] at h1
  rw [show readsF 7 = false from rfl] at h5
  unfold laneV at h2 h3 h4
  go_enter Try.func3, Try.ntmps3
  go_wp2_with fail
  go_at_call 6
  refine (h1 _).mono ?_
  clear h1
  rintro e w1 ⟨rfl, rfl⟩
  go_wp2_with fail
  go_at_call 7
  refine (h2 _).mono ?_
  clear h2
  rintro e w2 ⟨rfl, hb2⟩
  go_wp2_with fail
  go_at_call 8
  refine (h3 _).mono ?_
  clear h3
  rintro e w3 ⟨rfl, hb3⟩
  have g3 := hb2.trans (hb3.mono hb2.size)
  clear hb2 hb3
  go_wp2_with fail
  go_at_call 9
  refine (h4 _).mono ?_
  clear h4
  rintro e w4 ⟨rfl, hb4⟩
  have g4 := g3.trans (hb4.mono g3.size)
  clear g3 hb4
  go_wp2_with fail
  go_at_call 10
  refine (h5 _).mono ?_
  clear h5
  rintro e w5 ⟨rfl, rfl⟩
  go_wp2_with fail
  go_at_call 11
  refine (h6 _).mono ?_
  clear h6
  rintro e w6 ⟨rfl, hb6⟩
  have g6 := g4.trans (hb6.mono g4.size)
  clear g4 hb6
  go_wp2_with fail
  go_ret
  exact ⟨rfl, g6⟩

set_option maxRecDepth 100000 in
set_option maxHeartbeats 2000000 in
theorem ruleNeeds_8 (w : World) : Calls Try.prog 3 #[.int .i64 8] w fun e w' => e = .returned (.bool true) ∧ Below w.heap.size w w' := by
  have h1 := fun W => Is_fn (8) W
  have h2 := fun W => Needs_8 W
  have h3 := fun W => needs_8 W
  have h4 := fun W => Every_fn W
  have h5 := fun W => Reads_fn (8) W
  have h6 := fun W => awake_any W
  have q1 := fun W => lane_eq true true true W
  have q2 := fun W => lane_eq true true true W
  have hg := lane_guard
  rw [show (decide ((1 : Int) ≤ 8) && decide ((8 : Int) ≤ 13)) = true from rfl] at h1
  rw [show readsF 8 = false from rfl] at h5
  unfold laneV at h2 h3 h4
  go_enter Try.func3, Try.ntmps3
  go_wp2_with fail
  go_at_call 6
  refine (h1 _).mono ?_
  clear h1
  rintro e w1 ⟨rfl, rfl⟩
  go_wp2_with fail
  go_at_call 7
  refine (h2 _).mono ?_
  clear h2
  rintro e w2 ⟨rfl, hb2⟩
  go_wp2_with fail
  go_at_call 8
  refine (h3 _).mono ?_
  clear h3
  rintro e w3 ⟨rfl, hb3⟩
  have g3 := hb2.trans (hb3.mono hb2.size)
  clear hb2 hb3
  go_wp2_with fail
  go_at_call 9
  refine (h4 _).mono ?_
  clear h4
  rintro e w4 ⟨rfl, hb4⟩
  have g4 := g3.trans (hb4.mono g3.size)
  clear g3 hb4
  go_wp2_with fail
  go_at_call 10
  refine (h5 _).mono ?_
  clear h5
  rintro e w5 ⟨rfl, rfl⟩
  go_wp2_with fail
  go_at_call 11
  refine (h6 _).mono ?_
  clear h6
  rintro e w6 ⟨rfl, hb6⟩
  have g6 := g4.trans (hb6.mono g4.size)
  clear g4 hb6
  go_wp2_with fail
  go_ret
  exact ⟨rfl, g6⟩

set_option maxRecDepth 100000 in
set_option maxHeartbeats 2000000 in
theorem ruleNeeds_9 (w : World) : Calls Try.prog 3 #[.int .i64 9] w fun e w' => e = .returned (.bool true) ∧ Below w.heap.size w w' := by
  have h1 := fun W => Is_fn (9) W
  have h2 := fun W => Needs_9 W
  have h3 := fun W => needs_9 W
  have h4 := fun W => Every_fn W
  have h5 := fun W => Reads_fn (9) W
  have h6 := fun W => awake_any W
  have q1 := fun W => lane_eq true true true W
  have q2 := fun W => lane_eq true true true W
  have hg := lane_guard
  rw [show (decide ((1 : Int) ≤ 9) && decide ((9 : Int) ≤ 13)) = true from rfl] at h1
  rw [show readsF 9 = false from rfl] at h5
  unfold laneV at h2 h3 h4
  go_enter Try.func3, Try.ntmps3
  go_wp2_with fail
  go_at_call 6
  refine (h1 _).mono ?_
  clear h1
  rintro e w1 ⟨rfl, rfl⟩
  go_wp2_with fail
  go_at_call 7
  refine (h2 _).mono ?_
  clear h2
  rintro e w2 ⟨rfl, hb2⟩
  go_wp2_with fail
  go_at_call 8
  refine (h3 _).mono ?_
  clear h3
  rintro e w3 ⟨rfl, hb3⟩
  have g3 := hb2.trans (hb3.mono hb2.size)
  clear hb2 hb3
  go_wp2_with fail
  go_at_call 9
  refine (h4 _).mono ?_
  clear h4
  rintro e w4 ⟨rfl, hb4⟩
  have g4 := g3.trans (hb4.mono g3.size)
  clear g3 hb4
  go_wp2_with fail
  go_at_call 10
  refine (h5 _).mono ?_
  clear h5
  rintro e w5 ⟨rfl, rfl⟩
  go_wp2_with fail
  go_at_call 11
  refine (h6 _).mono ?_
  clear h6
  rintro e w6 ⟨rfl, hb6⟩
  have g6 := g4.trans (hb6.mono g4.size)
  clear g4 hb6
  go_wp2_with fail
  go_ret
  exact ⟨rfl, g6⟩

set_option maxRecDepth 100000 in
set_option maxHeartbeats 2000000 in
theorem ruleNeeds_10 (w : World) : Calls Try.prog 3 #[.int .i64 10] w fun e w' => e = .returned (.bool true) ∧ Below w.heap.size w w' := by
  have h1 := fun W => Is_fn (10) W
  have h2 := fun W => Needs_10 W
  have h3 := fun W => needs_10 W
  have h4 := fun W => Every_fn W
  have h5 := fun W => Reads_fn (10) W
  have h6 := fun W => awake_any W
  have q1 := fun W => lane_eq false true false W
  have q2 := fun W => lane_eq true true true W
  have hg := lane_guard
  rw [show (decide ((1 : Int) ≤ 10) && decide ((10 : Int) ≤ 13)) = true from rfl] at h1
  rw [show readsF 10 = true from rfl] at h5
  unfold laneV at h2 h3 h4
  go_enter Try.func3, Try.ntmps3
  go_wp2_with fail
  go_at_call 6
  refine (h1 _).mono ?_
  clear h1
  rintro e w1 ⟨rfl, rfl⟩
  go_wp2_with fail
  go_at_call 7
  refine (h2 _).mono ?_
  clear h2
  rintro e w2 ⟨rfl, hb2⟩
  go_wp2_with fail
  go_at_call 8
  refine (h3 _).mono ?_
  clear h3
  rintro e w3 ⟨rfl, hb3⟩
  have g3 := hb2.trans (hb3.mono hb2.size)
  clear hb2 hb3
  go_wp2_with fail
  go_at_call 9
  refine (h4 _).mono ?_
  clear h4
  rintro e w4 ⟨rfl, hb4⟩
  have g4 := g3.trans (hb4.mono g3.size)
  clear g3 hb4
  go_wp2_with fail
  go_at_call 10
  refine (h5 _).mono ?_
  clear h5
  rintro e w5 ⟨rfl, rfl⟩
  go_wp2_with fail
  go_at_call 11
  refine (h6 _).mono ?_
  clear h6
  rintro e w6 ⟨rfl, hb6⟩
  have g6 := g4.trans (hb6.mono g4.size)
  clear g4 hb6
  go_wp2_with fail
  go_ret
  exact ⟨rfl, g6⟩

set_option maxRecDepth 100000 in
set_option maxHeartbeats 2000000 in
theorem ruleNeeds_11 (w : World) : Calls Try.prog 3 #[.int .i64 11] w fun e w' => e = .returned (.bool true) ∧ Below w.heap.size w w' := by
  have h1 := fun W => Is_fn (11) W
  have h2 := fun W => Needs_11 W
  have h3 := fun W => needs_11 W
  have h4 := fun W => Every_fn W
  have h5 := fun W => Reads_fn (11) W
  have h6 := fun W => awake_any W
  have q1 := fun W => lane_eq true false false W
  have q2 := fun W => lane_eq true true true W
  have hg := lane_guard
  rw [show (decide ((1 : Int) ≤ 11) && decide ((11 : Int) ≤ 13)) = true from rfl] at h1
  rw [show readsF 11 = true from rfl] at h5
  unfold laneV at h2 h3 h4
  go_enter Try.func3, Try.ntmps3
  go_wp2_with fail
  go_at_call 6
  refine (h1 _).mono ?_
  clear h1
  rintro e w1 ⟨rfl, rfl⟩
  go_wp2_with fail
  go_at_call 7
  refine (h2 _).mono ?_
  clear h2
  rintro e w2 ⟨rfl, hb2⟩
  go_wp2_with fail
  go_at_call 8
  refine (h3 _).mono ?_
  clear h3
  rintro e w3 ⟨rfl, hb3⟩
  have g3 := hb2.trans (hb3.mono hb2.size)
  clear hb2 hb3
  go_wp2_with fail
  go_at_call 9
  refine (h4 _).mono ?_
  clear h4
  rintro e w4 ⟨rfl, hb4⟩
  have g4 := g3.trans (hb4.mono g3.size)
  clear g3 hb4
  go_wp2_with fail
  go_at_call 10
  refine (h5 _).mono ?_
  clear h5
  rintro e w5 ⟨rfl, rfl⟩
  go_wp2_with fail
  go_at_call 11
  refine (h6 _).mono ?_
  clear h6
  rintro e w6 ⟨rfl, hb6⟩
  have g6 := g4.trans (hb6.mono g4.size)
  clear g4 hb6
  go_wp2_with fail
  go_ret
  exact ⟨rfl, g6⟩

set_option maxRecDepth 100000 in
set_option maxHeartbeats 2000000 in
theorem ruleNeeds_12 (w : World) : Calls Try.prog 3 #[.int .i64 12] w fun e w' => e = .returned (.bool true) ∧ Below w.heap.size w w' := by
  have h1 := fun W => Is_fn (12) W
  have h2 := fun W => Needs_12 W
  have h3 := fun W => needs_12 W
  have h4 := fun W => Every_fn W
  have h5 := fun W => Reads_fn (12) W
  have h6 := fun W => awake_any W
  have q1 := fun W => lane_eq false false true W
  have q2 := fun W => lane_eq true true true W
  have hg := lane_guard
  rw [show (decide ((1 : Int) ≤ 12) && decide ((12 : Int) ≤ 13)) = true from rfl] at h1
  rw [show readsF 12 = true from rfl] at h5
  unfold laneV at h2 h3 h4
  go_enter Try.func3, Try.ntmps3
  go_wp2_with fail
  go_at_call 6
  refine (h1 _).mono ?_
  clear h1
  rintro e w1 ⟨rfl, rfl⟩
  go_wp2_with fail
  go_at_call 7
  refine (h2 _).mono ?_
  clear h2
  rintro e w2 ⟨rfl, hb2⟩
  go_wp2_with fail
  go_at_call 8
  refine (h3 _).mono ?_
  clear h3
  rintro e w3 ⟨rfl, hb3⟩
  have g3 := hb2.trans (hb3.mono hb2.size)
  clear hb2 hb3
  go_wp2_with fail
  go_at_call 9
  refine (h4 _).mono ?_
  clear h4
  rintro e w4 ⟨rfl, hb4⟩
  have g4 := g3.trans (hb4.mono g3.size)
  clear g3 hb4
  go_wp2_with fail
  go_at_call 10
  refine (h5 _).mono ?_
  clear h5
  rintro e w5 ⟨rfl, rfl⟩
  go_wp2_with fail
  go_at_call 11
  refine (h6 _).mono ?_
  clear h6
  rintro e w6 ⟨rfl, hb6⟩
  have g6 := g4.trans (hb6.mono g4.size)
  clear g4 hb6
  go_wp2_with fail
  go_ret
  exact ⟨rfl, g6⟩

set_option maxRecDepth 100000 in
set_option maxHeartbeats 2000000 in
theorem ruleNeeds_13 (w : World) : Calls Try.prog 3 #[.int .i64 13] w fun e w' => e = .returned (.bool true) ∧ Below w.heap.size w w' := by
  have h1 := fun W => Is_fn (13) W
  have h2 := fun W => Needs_no 13 W (by decide) (by decide) (by decide) (by decide) (by decide) (by decide) (by decide) (by decide) (by decide) (by decide) (by decide) (by decide)
  have h3 := fun W => needs_no 13 W (by decide) (by decide) (by decide) (by decide) (by decide) (by decide) (by decide) (by decide) (by decide) (by decide) (by decide) (by decide)
  have h4 := fun W => Every_fn W
  have h5 := fun W => Reads_fn (13) W
  have h6 := fun W => awake_any W
  have q1 := fun W => lane_eq false false false W
  have q2 := fun W => lane_eq true true true W
  have hg := lane_guard
  rw [show (decide ((1 : Int) ≤ 13) && decide ((13 : Int) ≤ 13)) = true from rfl] at h1
  rw [show readsF 13 = false from rfl] at h5
  unfold laneV at h2 h3 h4
  go_enter Try.func3, Try.ntmps3
  go_wp2_with fail
  go_at_call 6
  refine (h1 _).mono ?_
  clear h1
  rintro e w1 ⟨rfl, rfl⟩
  go_wp2_with fail
  go_at_call 7
  refine (h2 _).mono ?_
  clear h2
  rintro e w2 ⟨rfl, hb2⟩
  go_wp2_with fail
  go_at_call 8
  refine (h3 _).mono ?_
  clear h3
  rintro e w3 ⟨rfl, hb3⟩
  have g3 := hb2.trans (hb3.mono hb2.size)
  clear hb2 hb3
  go_wp2_with fail
  go_at_call 9
  refine (h4 _).mono ?_
  clear h4
  rintro e w4 ⟨rfl, hb4⟩
  have g4 := g3.trans (hb4.mono g3.size)
  clear g3 hb4
  go_wp2_with fail
  go_at_call 10
  refine (h5 _).mono ?_
  clear h5
  rintro e w5 ⟨rfl, rfl⟩
  go_wp2_with fail
  go_at_call 11
  refine (h6 _).mono ?_
  clear h6
  rintro e w6 ⟨rfl, hb6⟩
  have g6 := g4.trans (hb6.mono g4.size)
  clear g4 hb6
  go_wp2_with fail
  go_ret
  exact ⟨rfl, g6⟩

set_option maxRecDepth 100000 in
set_option maxHeartbeats 2000000 in
theorem ruleNeeds_lo (k : Int) (w : World) (hk : k < 1) : Calls Try.prog 3 #[.int .i64 k] w fun e w' => e = .returned (.bool true) ∧ Below w.heap.size w w' := by
  have dd : decide (1 ≤ k) = false := decide_eq_false (by omega)
  have t6 : (k == 6) = false := beq_eq_false_iff_ne.2 (by omega)
  have t10 : (k == 10) = false := beq_eq_false_iff_ne.2 (by omega)
  have t11 : (k == 11) = false := beq_eq_false_iff_ne.2 (by omega)
  have t12 : (k == 12) = false := beq_eq_false_iff_ne.2 (by omega)
  have er : readsF k = false := by simp only [readsF, decide_eq_false (show ¬ k = 6 by omega), decide_eq_false (show ¬ k = 10 by omega), decide_eq_false (show ¬ k = 11 by omega), decide_eq_false (show ¬ k = 12 by omega)]; rfl
  have h1 := fun W => Is_fn (k) W
  have h2 := fun W => Needs_no k W (by omega) (by omega) (by omega) (by omega) (by omega) (by omega) (by omega) (by omega) (by omega) (by omega) (by omega) (by omega)
  have h3 := fun W => needs_no k W (by omega) (by omega) (by omega) (by omega) (by omega) (by omega) (by omega) (by omega) (by omega) (by omega) (by omega) (by omega)
  have h4 := fun W => Every_fn W
  have h5 := fun W => Reads_fn (k) W
  have h6 := fun W => awake_any W
  have q1 := fun W => lane_eq false false false W
  have q2 := fun W => lane_eq true true true W
  have hg := lane_guard
  rw [show (decide (1 ≤ k) && decide (k ≤ 13)) = false by rw [decide_eq_false (show ¬ (1 : Int) ≤ k by omega)]; rfl] at h1
  rw [er] at h5
  unfold laneV at h2 h3 h4
  go_enter Try.func3, Try.ntmps3
  go_wp2_with fail
  go_at_call 6
  refine (h1 _).mono ?_
  clear h1
  rintro e w1 ⟨rfl, rfl⟩
  go_wp2_with fail
  go_at_call 7
  refine (h2 _).mono ?_
  clear h2
  rintro e w2 ⟨rfl, hb2⟩
  go_wp2_with fail
  go_at_call 8
  refine (h3 _).mono ?_
  clear h3
  rintro e w3 ⟨rfl, hb3⟩
  have g3 := hb2.trans (hb3.mono hb2.size)
  clear hb2 hb3
  go_wp2_with fail
  go_at_call 9
  refine (h4 _).mono ?_
  clear h4
  rintro e w4 ⟨rfl, hb4⟩
  have g4 := g3.trans (hb4.mono g3.size)
  clear g3 hb4
  go_wp2_with fail
  go_at_call 10
  refine (h5 _).mono ?_
  clear h5
  rintro e w5 ⟨rfl, rfl⟩
  go_wp2_with fail
  go_at_call 11
  refine (h6 _).mono ?_
  clear h6
  rintro e w6 ⟨rfl, hb6⟩
  have g6 := g4.trans (hb6.mono g4.size)
  clear g4 hb6
  go_wp2_with fail
  go_ret
  exact ⟨rfl, g6⟩

set_option maxRecDepth 100000 in
set_option maxHeartbeats 2000000 in
theorem ruleNeeds_hi (k : Int) (w : World) (hk : 13 < k) : Calls Try.prog 3 #[.int .i64 k] w fun e w' => e = .returned (.bool true) ∧ Below w.heap.size w w' := by
  have dd : decide (1 ≤ k) = true := decide_eq_true (by omega)
  have de : decide (k ≤ 13) = false := decide_eq_false (by omega)
  have t6 : (k == 6) = false := beq_eq_false_iff_ne.2 (by omega)
  have t10 : (k == 10) = false := beq_eq_false_iff_ne.2 (by omega)
  have t11 : (k == 11) = false := beq_eq_false_iff_ne.2 (by omega)
  have t12 : (k == 12) = false := beq_eq_false_iff_ne.2 (by omega)
  have er : readsF k = false := by simp only [readsF, decide_eq_false (show ¬ k = 6 by omega), decide_eq_false (show ¬ k = 10 by omega), decide_eq_false (show ¬ k = 11 by omega), decide_eq_false (show ¬ k = 12 by omega)]; rfl
  have h1 := fun W => Is_fn (k) W
  have h2 := fun W => Needs_no k W (by omega) (by omega) (by omega) (by omega) (by omega) (by omega) (by omega) (by omega) (by omega) (by omega) (by omega) (by omega)
  have h3 := fun W => needs_no k W (by omega) (by omega) (by omega) (by omega) (by omega) (by omega) (by omega) (by omega) (by omega) (by omega) (by omega) (by omega)
  have h4 := fun W => Every_fn W
  have h5 := fun W => Reads_fn (k) W
  have h6 := fun W => awake_any W
  have q1 := fun W => lane_eq false false false W
  have q2 := fun W => lane_eq true true true W
  have hg := lane_guard
  rw [show (decide (1 ≤ k) && decide (k ≤ 13)) = false by rw [decide_eq_false (show ¬ k ≤ (13 : Int) by omega)]; exact Bool.and_false _] at h1
  rw [er] at h5
  unfold laneV at h2 h3 h4
  go_enter Try.func3, Try.ntmps3
  go_wp2_with fail
  go_at_call 6
  refine (h1 _).mono ?_
  clear h1
  rintro e w1 ⟨rfl, rfl⟩
  go_wp2_with fail
  go_at_call 7
  refine (h2 _).mono ?_
  clear h2
  rintro e w2 ⟨rfl, hb2⟩
  go_wp2_with fail
  go_at_call 8
  refine (h3 _).mono ?_
  clear h3
  rintro e w3 ⟨rfl, hb3⟩
  have g3 := hb2.trans (hb3.mono hb2.size)
  clear hb2 hb3
  go_wp2_with fail
  go_at_call 9
  refine (h4 _).mono ?_
  clear h4
  rintro e w4 ⟨rfl, hb4⟩
  have g4 := g3.trans (hb4.mono g3.size)
  clear g3 hb4
  go_wp2_with fail
  go_at_call 10
  refine (h5 _).mono ?_
  clear h5
  rintro e w5 ⟨rfl, rfl⟩
  go_wp2_with fail
  go_at_call 11
  refine (h6 _).mono ?_
  clear h6
  rintro e w6 ⟨rfl, hb6⟩
  have g6 := g4.trans (hb6.mono g4.size)
  clear g4 hb6
  go_wp2_with fail
  go_ret
  exact ⟨rfl, g6⟩

theorem walkNeeds (k : Int) (w : World) (_ : -9223372036854775808 ≤ k ∧ k ≤ 9223372036854775807) : Calls Try.prog 3 #[.int .i64 k] w fun e w' => e = .returned (.bool true) ∧ Below w.heap.size w w' := by
  rcases (show k < 1 ∨ 13 < k ∨ k = 1 ∨ k = 2 ∨ k = 3 ∨ k = 4 ∨ k = 5 ∨ k = 6 ∨ k = 7 ∨ k = 8 ∨ k = 9 ∨ k = 10 ∨ k = 11 ∨ k = 12 ∨ k = 13 by omega) with h | h | rfl | rfl | rfl | rfl | rfl | rfl | rfl | rfl | rfl | rfl | rfl | rfl | rfl
  · exact ruleNeeds_lo k w h
  · exact ruleNeeds_hi k w h
  · exact ruleNeeds_1 w
  · exact ruleNeeds_2 w
  · exact ruleNeeds_3 w
  · exact ruleNeeds_4 w
  · exact ruleNeeds_5 w
  · exact ruleNeeds_6 w
  · exact ruleNeeds_7 w
  · exact ruleNeeds_8 w
  · exact ruleNeeds_9 w
  · exact ruleNeeds_10 w
  · exact ruleNeeds_11 w
  · exact ruleNeeds_12 w
  · exact ruleNeeds_13 w

end Go.Proofs.Ythofobldpnoclaa
