/-
  Own walks: the chapter's example.
-/
import Derived.Test.YtnajcgicbhohhaaSpK
import Derived.Laws.StructEq
namespace Go.Proofs.Ytnajcgicbhohhaa
open Go.RowKit Go.Lib

theorem equalIn_step (x y : Int × Int) (w : World) : (Op.equalIn 10000 41 (.agg #[.int .i64 x.1, .int .i64 x.2]) (.agg #[.int .i64 y.1, .int .i64 y.2])).run Try.prog w = .ok (decide (x = y)) w := by
  have u2 := Try.underlying2
  have a2 := Try.isAgg2
  have z2 := Try.sizeOf2
  have u3 := Try.underlying3
  have a3 := Try.isAgg3
  have z3 := Try.sizeOf3
  have hS : Try.prog.underlying 41 = some (.struct (Try.prog.fieldsOf 41)) := by kernel_rfl
  have hp : Try.prog.stoodInHeld 41 = false := by kernel_rfl
  rw [show (10000 : Nat) = 9999 + 1 from rfl, run_equalIn_agg w 9999 41 _ _ hS hp]
  simp only [Program.fieldsOf, Try.underlying41]
  go_simp
  obtain ⟨x1, x2⟩ := x
  obtain ⟨y1, y2⟩ := y
  by_cases h1 : x1 = y1 <;> by_cases h2 : x2 = y2 <;> simp [h1, h2]
theorem step_eql (x y : Int × Int) (w : World) : (binOp .eql 41 (.agg #[.int .i64 x.1, .int .i64 x.2]) (.agg #[.int .i64 y.1, .int .i64 y.2])).run Try.prog w = .ok (.bool (decide (x = y))) w := by
  rw [run_eql_struct, equalIn_step]; rfl
theorem step_neq (x y : Int × Int) (w : World) : (binOp .neq 41 (.agg #[.int .i64 x.1, .int .i64 x.2]) (.agg #[.int .i64 y.1, .int .i64 y.2])).run Try.prog w = .ok (.bool (!decide (x = y))) w := by
  rw [run_neq_struct, equalIn_step]; rfl
theorem step_guard : Try.prog.eqGuardType Try.prog.depth 41 = false := by kernel_rfl

def exL : List Sp := [⟨0, 10, 2⟩, ⟨5, 8, 3⟩]
theorem exT : IsT exL [0, 5, 8, 10] := by
  refine ⟨by decide, fun t => ?_⟩
  have e : allT exL = [0, 10, 5, 8] := by decide +kernel
  rw [e]
  simp
  omega
theorem exO : outF 6 0 exL [0, 5, 8, 10] = [(0, 4), (5, 1), (8, 4), (10, 6)] := by decide +kernel
theorem exM : mostF 0 20 exL [0, 5, 8, 10] = 5 := by decide +kernel

set_option maxRecDepth 100000 in
set_option maxHeartbeats 1000000 in
theorem awake_any (w : World) : Calls Try.prog 15 #[] w fun e w' => e = .returned (.bool true) ∧ Below w.heap.size w w' := by
  have hrow : RowAt enc3 3 (w.alloc (.cells #[.int .i64 0, .int .i64 10, .int .i64 2, .int .i64 5, .int .i64 8, .int .i64 3] 26)) (.slice (some ⟨w.heap.size, 0, none⟩) 2 2) exL :=
    RowAt.of_own (own_new (vs := [.int .i64 0, .int .i64 10, .int .i64 2, .int .i64 5, .int .i64 8, .int .i64 3]) (sz := 3) (n := 2) rfl (Nat.le_refl _) rfl (by decide)) (fun _ => rfl) rfl rfl
  have hb1 : Below w.heap.size w (w.alloc (.cells #[.int .i64 0, .int .i64 10, .int .i64 2, .int .i64 5, .int .i64 8, .int .i64 3] 26)) := (Below.refl _ _).alloc (Nat.le_refl _) _
  have hS := fun W h => StepsR_any 6 0 (.slice (some ⟨w.heap.size, 0, none⟩) 2 2) exL [0, 5, 8, 10] W h (by decide) (by omega) exT
  have hP := fun W h => Peak_any 0 20 (.slice (some ⟨w.heap.size, 0, none⟩) 2 2) exL [0, 5, 8, 10] W h (by decide) exT
  rw [exO] at hS
  rw [exM] at hP
  have hg := step_guard
  have q1 : ∀ W, (binOp .eql 41 (.agg #[.int .i64 5, .int .i64 1]) (.agg #[.int .i64 5, .int .i64 1])).run Try.prog W = .ok (.bool true) W := fun W => step_eql (5, 1) (5, 1) W
  have q2 : ∀ W, (binOp .eql 41 (.agg #[.int .i64 10, .int .i64 6]) (.agg #[.int .i64 10, .int .i64 6])).run Try.prog W = .ok (.bool true) W := fun W => step_eql (10, 6) (10, 6) W
  go_enter Try.func15, Try.ntmps15
  go_wp2_with (first | (go_at_call 18; go_must (refine (hS _ hrow).mono ?_); rintro e w2 ⟨g, cap, rfl, hown, hb2⟩) | (go_at_call 16; go_must (refine (hP _ (hrow.below hb2)).mono ?_); rintro e w3 ⟨rfl, hb3⟩; have hown3 := own_kept hown hb3; obtain ⟨a0, a1⟩ := pair_of hown3 (k := 1) (x := (5, 1)) rfl; obtain ⟨b0, b1⟩ := pair_of hown3 (k := 3) (x := (10, 6)) rfl))
  go_ret
  exact ⟨rfl, (hb1.trans (hb2.mono hb1.size)).trans (hb3.mono (by have := hb2.size; have := hb1.size; omega))⟩

end Go.Proofs.Ytnajcgicbhohhaa
