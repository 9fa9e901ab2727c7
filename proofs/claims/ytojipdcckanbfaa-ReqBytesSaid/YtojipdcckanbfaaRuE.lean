/-
  Own walks: a request with just what its kind has: the program's Clean and the statement's own; Same.
-/
import Derived.Test.YtojipdcckanbfaaRuB
import Derived.Test.YtojipdcckanbfaaReq
import Derived.Test.YtojipdcckanbfaaReg
import Derived.BigRegion
namespace Go.Proofs.Ytojipdcckanbfaa
open Go.RowKit Go.Lib

def cleanR (r : Rq) : Rq :=
  if r.kind = 1 then ⟨r.kind, 0, r.user, r.width, r.limit, r.prio, r.held, 0, 0⟩
  else if r.kind = 2 ∨ r.kind = 3 ∨ r.kind = 4 ∨ r.kind = 5 ∨ r.kind = 6 then ⟨r.kind, r.id, 0, 0, 0, 0, false, 0, 0⟩
  else if r.kind = 7 ∨ r.kind = 8 then ⟨r.kind, 0, 0, 0, 0, 0, false, r.node, 0⟩
  else if r.kind = 9 then ⟨r.kind, 0, 0, 0, 0, 0, false, 0, r.till⟩
  else ⟨r.kind, 0, 0, 0, 0, 0, false, 0, 0⟩

set_option maxRecDepth 100000 in
set_option maxHeartbeats 4000000 in
theorem Clean_1 (x2 x3 x4 x5 x6 : Int) (x7 : Bool) (x8 x9 : Int) (w : World) : Calls Try.prog 12 #[.agg #[.int .i64 1, .int .i64 x2, .int .i64 x3, .int .i64 x4, .int .i64 x5, .int .i64 x6, .bool x7, .int .i64 x8, .int .i64 x9]] w fun e w' => e = .returned (.agg #[.int .i64 1, .int .i64 0, .int .i64 x3, .int .i64 x4, .int .i64 x5, .int .i64 x6, .bool x7, .int .i64 0, .int .i64 0]) ∧ Below w.heap.size w w' := by
  go_enter Try.func12, Try.ntmps12
  go_wp2_with fail
  go_region
  all_goals (try go_wp2_with fail)
  refine ret_row rfl rfl rfl (show (World.drew _).heap[_]? = _ from heap_past (heap_alloc2_new w _ _)) Try.underlying23 rfl (by kernel_rfl) ⟨rfl, ?_⟩
  exact ((((Below.refl _ _).alloc (Nat.le_refl _) _).alloc (by simp) _).alloc (by simp; omega) _).drew

set_option maxRecDepth 100000 in
set_option maxHeartbeats 4000000 in
theorem Clean_2 (x2 x3 x4 x5 x6 : Int) (x7 : Bool) (x8 x9 : Int) (w : World) : Calls Try.prog 12 #[.agg #[.int .i64 2, .int .i64 x2, .int .i64 x3, .int .i64 x4, .int .i64 x5, .int .i64 x6, .bool x7, .int .i64 x8, .int .i64 x9]] w fun e w' => e = .returned (.agg #[.int .i64 2, .int .i64 x2, .int .i64 0, .int .i64 0, .int .i64 0, .int .i64 0, .bool false, .int .i64 0, .int .i64 0]) ∧ Below w.heap.size w w' := by
  go_enter Try.func12, Try.ntmps12
  go_wp2_with fail
  refine ret_row rfl rfl rfl (heap_past (heap_alloc2_new w _ _)) Try.underlying23 rfl (by kernel_rfl) ⟨rfl, ?_⟩
  exact ((((Below.refl _ _).alloc (Nat.le_refl _) _).alloc (by simp) _).alloc (by simp; omega) _)

set_option maxRecDepth 100000 in
set_option maxHeartbeats 4000000 in
theorem Clean_3 (x2 x3 x4 x5 x6 : Int) (x7 : Bool) (x8 x9 : Int) (w : World) : Calls Try.prog 12 #[.agg #[.int .i64 3, .int .i64 x2, .int .i64 x3, .int .i64 x4, .int .i64 x5, .int .i64 x6, .bool x7, .int .i64 x8, .int .i64 x9]] w fun e w' => e = .returned (.agg #[.int .i64 3, .int .i64 x2, .int .i64 0, .int .i64 0, .int .i64 0, .int .i64 0, .bool false, .int .i64 0, .int .i64 0]) ∧ Below w.heap.size w w' := by
  go_enter Try.func12, Try.ntmps12
  go_wp2_with fail
  refine ret_row rfl rfl rfl (heap_past (heap_alloc2_new w _ _)) Try.underlying23 rfl (by kernel_rfl) ⟨rfl, ?_⟩
  exact ((((Below.refl _ _).alloc (Nat.le_refl _) _).alloc (by simp) _).alloc (by simp; omega) _)

set_option maxRecDepth 100000 in
set_option maxHeartbeats 4000000 in
theorem Clean_4 (x2 x3 x4 x5 x6 : Int) (x7 : Bool) (x8 x9 : Int) (w : World) : Calls Try.prog 12 #[.agg #[.int .i64 4, .int .i64 x2, .int .i64 x3, .int .i64 x4, .int .i64 x5, .int .i64 x6, .bool x7, .int .i64 x8, .int .i64 x9]] w fun e w' => e = .returned (.agg #[.int .i64 4, .int .i64 x2, .int .i64 0, .int .i64 0, .int .i64 0, .int .i64 0, .bool false, .int .i64 0, .int .i64 0]) ∧ Below w.heap.size w w' := by
  go_enter Try.func12, Try.ntmps12
  go_wp2_with fail
  refine ret_row rfl rfl rfl (heap_past (heap_alloc2_new w _ _)) Try.underlying23 rfl (by kernel_rfl) ⟨rfl, ?_⟩
  exact ((((Below.refl _ _).alloc (Nat.le_refl _) _).alloc (by simp) _).alloc (by simp; omega) _)

set_option maxRecDepth 100000 in
set_option maxHeartbeats 4000000 in
theorem Clean_5 (x2 x3 x4 x5 x6 : Int) (x7 : Bool) (x8 x9 : Int) (w : World) : Calls Try.prog 12 #[.agg #[.int .i64 5, .int .i64 x2, .int .i64 x3, .int .i64 x4, .int .i64 x5, .int .i64 x6, .bool x7, .int .i64 x8, .int .i64 x9]] w fun e w' => e = .returned (.agg #[.int .i64 5, .int .i64 x2, .int .i64 0, .int .i64 0, .int .i64 0, .int .i64 0, .bool false, .int .i64 0, .int .i64 0]) ∧ Below w.heap.size w w' := by
  go_enter Try.func12, Try.ntmps12
  go_wp2_with fail
  refine ret_row rfl rfl rfl (heap_past (heap_alloc2_new w _ _)) Try.underlying23 rfl (by kernel_rfl) ⟨rfl, ?_⟩
  exact ((((Below.refl _ _).alloc (Nat.le_refl _) _).alloc (by simp) _).alloc (by simp; omega) _)

set_option maxRecDepth 100000 in
set_option maxHeartbeats 4000000 in
theorem Clean_6 (x2 x3 x4 x5 x6 : Int) (x7 : Bool) (x8 x9 : Int) (w : World) : Calls Try.prog 12 #[.agg #[.int .i64 6, .int .i64 x2, .int .i64 x3, .int .i64 x4, .int .i64 x5, .int .i64 x6, .bool x7, .int .i64 x8, .int .i64 x9]] w fun e w' => e = .returned (.agg #[.int .i64 6, .int .i64 x2, .int .i64 0, .int .i64 0, .int .i64 0, .int .i64 0, .bool false, .int .i64 0, .int .i64 0]) ∧ Below w.heap.size w w' := by
  go_enter Try.func12, Try.ntmps12
  go_wp2_with fail
  refine ret_row rfl rfl rfl (heap_past (heap_alloc2_new w _ _)) Try.underlying23 rfl (by kernel_rfl) ⟨rfl, ?_⟩
  exact ((((Below.refl _ _).alloc (Nat.le_refl _) _).alloc (by simp) _).alloc (by simp; omega) _)

set_option maxRecDepth 100000 in
set_option maxHeartbeats 4000000 in
theorem Clean_7 (x2 x3 x4 x5 x6 : Int) (x7 : Bool) (x8 x9 : Int) (w : World) : Calls Try.prog 12 #[.agg #[.int .i64 7, .int .i64 x2, .int .i64 x3, .int .i64 x4, .int .i64 x5, .int .i64 x6, .bool x7, .int .i64 x8, .int .i64 x9]] w fun e w' => e = .returned (.agg #[.int .i64 7, .int .i64 0, .int .i64 0, .int .i64 0, .int .i64 0, .int .i64 0, .bool false, .int .i64 x8, .int .i64 0]) ∧ Below w.heap.size w w' := by
  go_enter Try.func12, Try.ntmps12
  go_wp2_with fail
  refine ret_row rfl rfl rfl (heap_past (heap_alloc2_new w _ _)) Try.underlying23 rfl (by kernel_rfl) ⟨rfl, ?_⟩
  exact ((((Below.refl _ _).alloc (Nat.le_refl _) _).alloc (by simp) _).alloc (by simp; omega) _)

set_option maxRecDepth 100000 in
set_option maxHeartbeats 4000000 in
theorem Clean_8 (x2 x3 x4 x5 x6 : Int) (x7 : Bool) (x8 x9 : Int) (w : World) : Calls Try.prog 12 #[.agg #[.int .i64 8, .int .i64 x2, .int .i64 x3, .int .i64 x4, .int .i64 x5, .int .i64 x6, .bool x7, .int .i64 x8, .int .i64 x9]] w fun e w' => e = .returned (.agg #[.int .i64 8, .int .i64 0, .int .i64 0, .int .i64 0, .int .i64 0, .int .i64 0, .bool false, .int .i64 x8, .int .i64 0]) ∧ Below w.heap.size w w' := by
  go_enter Try.func12, Try.ntmps12
  go_wp2_with fail
  refine ret_row rfl rfl rfl (heap_past (heap_alloc2_new w _ _)) Try.underlying23 rfl (by kernel_rfl) ⟨rfl, ?_⟩
  exact ((((Below.refl _ _).alloc (Nat.le_refl _) _).alloc (by simp) _).alloc (by simp; omega) _)

set_option maxRecDepth 100000 in
set_option maxHeartbeats 4000000 in
theorem Clean_9 (x2 x3 x4 x5 x6 : Int) (x7 : Bool) (x8 x9 : Int) (w : World) : Calls Try.prog 12 #[.agg #[.int .i64 9, .int .i64 x2, .int .i64 x3, .int .i64 x4, .int .i64 x5, .int .i64 x6, .bool x7, .int .i64 x8, .int .i64 x9]] w fun e w' => e = .returned (.agg #[.int .i64 9, .int .i64 0, .int .i64 0, .int .i64 0, .int .i64 0, .int .i64 0, .bool false, .int .i64 0, .int .i64 x9]) ∧ Below w.heap.size w w' := by
  go_enter Try.func12, Try.ntmps12
  go_wp2_with fail
  refine ret_row rfl rfl rfl (heap_past (heap_alloc2_new w _ _)) Try.underlying23 rfl (by kernel_rfl) ⟨rfl, ?_⟩
  exact ((((Below.refl _ _).alloc (Nat.le_refl _) _).alloc (by simp) _).alloc (by simp; omega) _)

set_option maxRecDepth 100000 in
set_option maxHeartbeats 4000000 in
theorem Clean_no (x1 : Int) (x2 x3 x4 x5 x6 : Int) (x7 : Bool) (x8 x9 : Int) (w : World) (h1 : x1 ≠ 1) (h2 : x1 ≠ 2) (h3 : x1 ≠ 3) (h4 : x1 ≠ 4) (h5 : x1 ≠ 5) (h6 : x1 ≠ 6) (h7 : x1 ≠ 7) (h8 : x1 ≠ 8) (h9 : x1 ≠ 9) : Calls Try.prog 12 #[.agg #[.int .i64 x1, .int .i64 x2, .int .i64 x3, .int .i64 x4, .int .i64 x5, .int .i64 x6, .bool x7, .int .i64 x8, .int .i64 x9]] w fun e w' => e = .returned (.agg #[.int .i64 x1, .int .i64 0, .int .i64 0, .int .i64 0, .int .i64 0, .int .i64 0, .bool false, .int .i64 0, .int .i64 0]) ∧ Below w.heap.size w w' := by
  have t1 : (x1 == 1) = false := beq_eq_false_iff_ne.2 h1
  have t2 : (x1 == 2) = false := beq_eq_false_iff_ne.2 h2
  have t3 : (x1 == 3) = false := beq_eq_false_iff_ne.2 h3
  have t4 : (x1 == 4) = false := beq_eq_false_iff_ne.2 h4
  have t5 : (x1 == 5) = false := beq_eq_false_iff_ne.2 h5
  have t6 : (x1 == 6) = false := beq_eq_false_iff_ne.2 h6
  have t7 : (x1 == 7) = false := beq_eq_false_iff_ne.2 h7
  have t8 : (x1 == 8) = false := beq_eq_false_iff_ne.2 h8
  have t9 : (x1 == 9) = false := beq_eq_false_iff_ne.2 h9
  clear h1 h2 h3 h4 h5 h6 h7 h8 h9
  go_enter Try.func12, Try.ntmps12
  go_wp2_with fail
  refine ret_row rfl rfl rfl (heap_past (heap_alloc2_new w _ _)) Try.underlying23 rfl (by kernel_rfl) ⟨rfl, ?_⟩
  exact ((((Below.refl _ _).alloc (Nat.le_refl _) _).alloc (by simp) _).alloc (by simp; omega) _)

theorem Clean_fn (r : Rq) (w : World) : Calls Try.prog 12 #[.agg (encR r).toArray] w fun e w' => e = .returned (.agg (encR (cleanR r)).toArray) ∧ Below w.heap.size w w' := by
  obtain ⟨x1, x2, x3, x4, x5, x6, x7, x8, x9⟩ := r
  by_cases h1 : x1 = 1
  · subst h1
    exact Clean_1 x2 x3 x4 x5 x6 x7 x8 x9 w
  by_cases h2 : x1 = 2
  · subst h2
    exact Clean_2 x2 x3 x4 x5 x6 x7 x8 x9 w
  by_cases h3 : x1 = 3
  · subst h3
    exact Clean_3 x2 x3 x4 x5 x6 x7 x8 x9 w
  by_cases h4 : x1 = 4
  · subst h4
    exact Clean_4 x2 x3 x4 x5 x6 x7 x8 x9 w
  by_cases h5 : x1 = 5
  · subst h5
    exact Clean_5 x2 x3 x4 x5 x6 x7 x8 x9 w
  by_cases h6 : x1 = 6
  · subst h6
    exact Clean_6 x2 x3 x4 x5 x6 x7 x8 x9 w
  by_cases h7 : x1 = 7
  · subst h7
    exact Clean_7 x2 x3 x4 x5 x6 x7 x8 x9 w
  by_cases h8 : x1 = 8
  · subst h8
    exact Clean_8 x2 x3 x4 x5 x6 x7 x8 x9 w
  by_cases h9 : x1 = 9
  · subst h9
    exact Clean_9 x2 x3 x4 x5 x6 x7 x8 x9 w
  have e : cleanR ⟨x1, x2, x3, x4, x5, x6, x7, x8, x9⟩ = ⟨x1, 0, 0, 0, 0, 0, false, 0, 0⟩ := by simp [cleanR, h1, h2, h3, h4, h5, h6, h7, h8, h9]
  rw [e]
  exact Clean_no x1 x2 x3 x4 x5 x6 x7 x8 x9 w h1 h2 h3 h4 h5 h6 h7 h8 h9

theorem clean_again (r : Rq) : cleanR (cleanR r) = cleanR r := by
  obtain ⟨x1, x2, x3, x4, x5, x6, x7, x8, x9⟩ := r
  by_cases h1 : x1 = 1
  · simp [cleanR, h1]
  by_cases h2 : x1 = 2 ∨ x1 = 3 ∨ x1 = 4 ∨ x1 = 5 ∨ x1 = 6
  · simp [cleanR, h1, h2]
  by_cases h3 : x1 = 7 ∨ x1 = 8
  · simp [cleanR, h1, h2, h3]
  by_cases h4 : x1 = 9
  · simp [cleanR, h4]
  · simp [cleanR, h1, h2, h3, h4]

end Go.Proofs.Ytojipdcckanbfaa
