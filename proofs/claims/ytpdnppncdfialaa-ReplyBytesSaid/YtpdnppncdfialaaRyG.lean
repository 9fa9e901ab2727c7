/-
  Own walks: the program's small functions of replies: their numbers as an array, Three, Fail, wants, Job, need, whole.
-/
import Derived.Test.YtpdnppncdfialaaRyF
import Derived.BigRegion
namespace Go.Proofs.Ytpdnppncdfialaa
open Go.RowKit Go.Lib

section
variable {w : World}

set_option maxRecDepth 100000 in
set_option maxHeartbeats 1000000 in
theorem numbers_fn (r : Ry) (w : World) : Calls Try.prog 13 #[.agg (encY r).toArray] w fun e w' => e = .returned (.agg (cellsY r)) ∧ Below w.heap.size w w' := by
  obtain ⟨x1, x2, x3, x4, x5, x6, x7, x8, x9⟩ := r
  simp only [encY, cellsY]
  go_enter Try.func13, Try.ntmps13
  go_wp2_with fail
  (try simp only [Exit.inBlock, Exit.then])
  refine ret_row rfl rfl rfl (heap_alloc2_new w _ _) Try.underlying40 rfl (by kernel_rfl) ⟨rfl, ?_⟩
  exact ((Below.refl _ _).alloc (Nat.le_refl _) _).alloc (by simp) _

set_option maxRecDepth 100000 in
set_option maxHeartbeats 1000000 in
theorem Three_fn (a b c : Int) (w : World) : Calls Try.prog 12 #[.int .i64 a, .int .i64 b, .int .i64 c] w fun e w' => e = .returned (.agg (encY ⟨0, 0, 0, 0, 0, 0, a, b, c⟩).toArray) ∧ Below w.heap.size w w' := by
  simp only [encY]
  go_enter Try.func12, Try.ntmps12
  go_wp2_with fail
  (try simp only [Exit.inBlock, Exit.then])
  refine ret_row rfl rfl rfl (heap_alloc_new w _) Try.underlying24 rfl (by kernel_rfl) ⟨rfl, ?_⟩
  exact (Below.refl _ _).alloc (Nat.le_refl _) _

set_option maxRecDepth 100000 in
set_option maxHeartbeats 1000000 in
theorem Fail_fn (q : Int) (w : World) : Calls Try.prog 11 #[.int .i64 q] w fun e w' => e = .returned (.agg (encY ⟨q, 0, 0, 0, 0, 0, 0, 0, 0⟩).toArray) ∧ Below w.heap.size w w' := by
  simp only [encY]
  go_enter Try.func11, Try.ntmps11
  go_wp2_with fail
  (try simp only [Exit.inBlock, Exit.then])
  refine ret_row rfl rfl rfl (heap_alloc_new w _) Try.underlying24 rfl (by kernel_rfl) ⟨rfl, ?_⟩
  exact (Below.refl _ _).alloc (Nat.le_refl _) _

set_option maxRecDepth 100000 in
set_option maxHeartbeats 1000000 in
theorem wants_fn (j : Jb) (w : World) : Calls Try.prog 24 #[.agg (encJ j).toArray] w fun e w' => e = .returned (.tuple #[.int .i64 j.2.2.1, .int .i64 j.2.2.2.2.1, .int .i64 0]) ∧ Below w.heap.size w w' := by
  obtain ⟨x1, x2, x3, x4, x5, x6, x7, x8, x9, x0⟩ := j
  simp only [encJ]
  obtain ⟨wB, hwB⟩ : ∃ wB, wB = w.alloc (.cells #[.int .i64 x1, .int .i64 x2, .int .i64 x3, .int .i64 x4, .int .i64 x5, .int .i64 x6, .int .i64 x7, .int .i64 x8, .int .i64 x9, .int .u64 x0] 35) := ⟨_, rfl⟩
  have hb1 : Hid (Below w.heap.size w wB) := by show Below _ _ _; rw [hwB]; exact (Below.refl _ _).alloc (Nat.le_refl _) _
  have hA : wB.heap[w.heap.size]? = some (.cells #[.int .i64 x1, .int .i64 x2, .int .i64 x3, .int .i64 x4, .int .i64 x5, .int .i64 x6, .int .i64 x7, .int .i64 x8, .int .i64 x9, .int .u64 x0] 35 (0, 0)) := by rw [hwB]; exact heap_alloc_new w _
  have c2 : wB.cell? ⟨w.heap.size, 2, none⟩ = some (.int .i64 x3) := by simp [World.cell?, hA]
  have c4 : wB.cell? ⟨w.heap.size, 4, none⟩ = some (.int .i64 x5) := by simp [World.cell?, hA]
  clear hA
  go_enter Try.func24, Try.ntmps24
  go_wp2_with fail
  rw [← hwB]
  replace hwB := Lib.hid hwB
  go_region
  go_wp2_with fail
  go_ret3
  exact ⟨rfl, hb1.out.drew⟩

set_option maxRecDepth 100000 in
set_option maxHeartbeats 1000000 in
/-- need: the first error is laid where something does not hold. -/
theorem need_yes {b : Nat} : Calls Try.prog 17 #[.pointer (some ⟨b, 0, none⟩), .bool true] w fun e w' => e = .returned (.tuple #[]) ∧ w = w' := by
  go_enter Try.func17, Try.ntmps17
  go_wp2_with fail
  go_end0
  exact ⟨rfl, rfl⟩
set_option maxRecDepth 100000 in
set_option maxHeartbeats 1000000 in
theorem need_no {b : Nat} {o : Option (List UInt8)} (h : RU w b o) : Calls Try.prog 17 #[.pointer (some ⟨b, 0, none⟩), .bool false] w fun e w' => e = .returned (.tuple #[]) ∧ RU w' b none ∧ Only b w w' := by
  cases o with
  | some l =>
    have hf := Fail_rs 4 (by decide) h.1
    go_enter Try.func17, Try.ntmps17
    go_wp2_with (go_at_call 27; go_must (refine hf.mono ?_); rintro e w3 ⟨rfl, h3, o3⟩)
    go_end0
    exact ⟨rfl, ⟨4, wrong4, h3⟩, o3⟩
  | none =>
    obtain ⟨q, hq, h⟩ := h
    have hf := Fail_more 4 hq.ne h
    have HH := Lib.hid h
    have HQ := Lib.hid hq
    clear h hq
    go_enter Try.func17, Try.ntmps17
    go_wp2_with (go_at_call 27; go_must (refine hf.mono ?_); rintro e w3 ⟨rfl, rfl⟩)
    go_end0
    exact ⟨rfl, ⟨q, HQ.out, HH.out⟩, Only.refl _ _⟩
/-- need, in one form. -/
theorem need_un {b : Nat} {o : Option (List UInt8)} (t : Bool) (h : RU w b o) : Calls Try.prog 17 #[.pointer (some ⟨b, 0, none⟩), .bool t] w fun e w' => e = .returned (.tuple #[]) ∧ RU w' b (bif t then o else none) ∧ Only b w w' := by
  cases t with
  | true =>
    refine (need_yes).mono ?_
    rintro e w' ⟨rfl, rfl⟩
    exact ⟨rfl, h, Only.refl _ _⟩
  | false => exact need_no h
end

end Go.Proofs.Ytpdnppncdfialaa
