/-
  Own walk: the statement on replies that tell of a job, of an error, of three counts, over what is asked of the program.
-/
import Derived.Test.YtpdnppncdfialaaRyC
import Derived.Test.YtpdnppncdfialaaOrG
namespace Go.Proofs.Ytpdnppncdfialaa
open Go.RowKit

/-- The reply that tells of a job. -/
def jobY (j : Jb) : Ry := ⟨0, j.1, j.2.2.2.2.2.1, j.2.2.2.2.2.2.1, j.2.2.2.2.2.2.2.1, j.2.2.2.2.2.2.2.2.1, j.2.2.1, j.2.2.2.2.1, 0⟩
structure TellSpec : Prop where
  job : ∀ (j : Jb) (w : World), Calls Try.prog 10 #[.agg (encJ j).toArray] w fun e w' => e = .returned (.agg (encY (jobY j)).toArray) ∧ Below w.heap.size w w'
  fail : ∀ (e : Int) (w : World), Calls Try.prog 11 #[.int .i64 e] w fun en w' => en = .returned (.agg (encY ⟨e, 0, 0, 0, 0, 0, 0, 0, 0⟩).toArray) ∧ Below w.heap.size w w'
  three : ∀ (a b c : Int) (w : World), Calls Try.prog 12 #[.int .i64 a, .int .i64 b, .int .i64 c] w fun e w' => e = .returned (.agg (encY ⟨0, 0, 0, 0, 0, 0, a, b, c⟩).toArray) ∧ Below w.heap.size w w'

set_option maxRecDepth 1000000 in
set_option maxHeartbeats 8000000 in
theorem replyTells_walk (S : RySpec) (R : TellSpec) (j : Jb) (e a b c : Int) (w : World) : Calls Try.prog 5 #[.agg (encJ j).toArray, .int .i64 e, .int .i64 a, .int .i64 b, .int .i64 c] w fun e w' => e = .returned (.bool true) ∧ Below w.heap.size w w' := by
  have h1 := fun W => R.job j W
  have h2 := fun W => R.fail e W
  have h3 := fun W => R.three a b c W
  have h4 := fun W => awakeY_any S W
  have q1 := fun W => ry_eql (jobY j) (jobY j) W
  have q2 := fun W => ry_eql ⟨e, 0, 0, 0, 0, 0, 0, 0, 0⟩ ⟨e, 0, 0, 0, 0, 0, 0, 0, 0⟩ W
  have q3 := fun W => ry_eql ⟨0, 0, 0, 0, 0, 0, a, b, c⟩ ⟨0, 0, 0, 0, 0, 0, a, b, c⟩ W
  rw [decide_eq_true rfl] at q1 q2 q3
  rw [show (encY ⟨e, 0, 0, 0, 0, 0, 0, 0, 0⟩).toArray = #[.int .i64 e, .int .i64 0, .int .i64 0, .int .i64 0, .int .i64 0, .int .i64 0, .int .i64 0, .int .i64 0, .int .i64 0] from rfl] at q2 h2
  rw [show (encY ⟨0, 0, 0, 0, 0, 0, a, b, c⟩).toArray = #[.int .i64 0, .int .i64 0, .int .i64 0, .int .i64 0, .int .i64 0, .int .i64 0, .int .i64 a, .int .i64 b, .int .i64 c] from rfl] at q3 h3
  have hg := ry_guard
  obtain ⟨wB, hwB⟩ : ∃ wB, wB = (w.alloc (.cells (encJ j).toArray 35)).alloc (.cells (encY (jobY j)).toArray 24) := ⟨_, rfl⟩
  have hb1 : Hid (Below w.heap.size w wB) := by show Below _ _ _; rw [hwB]; exact ((Below.refl _ _).alloc (Nat.le_refl _) _).alloc (by simp) _
  have hJ : Hid (wB.heap[w.heap.size]? = some (.cells (encJ j).toArray 35 (0, 0))) := by show _ = _; rw [hwB]; exact heap_past (heap_alloc_new w _)
  have hY : Hid (wB.heap[w.heap.size + 1]? = some (.cells (encY (jobY j)).toArray 24 (0, 0))) := by show _ = _; rw [hwB]; exact heap_alloc2_new w _ _
  obtain ⟨x1, x2, x3, x4, x5, x6, x7, x8, x9, x0⟩ := j
  simp only [encJ, jobY, encY] at *
  clear S R
  go_enter Try.func5, Try.ntmps5
  go_wp2_with fail
  rw [← hwB]
  replace hwB := Lib.hid hwB
  have zJ := zE_job
  have zR := zE_ry
  obtain ⟨k10, hk10⟩ : ∃ k, k = 10 := ⟨_, rfl⟩
  obtain ⟨k9, hk9⟩ : ∃ k, k = 9 := ⟨_, rfl⟩
  rw [← hk10] at zJ
  rw [← hk9] at zR
  replace hk10 := Lib.hid hk10
  replace hk9 := Lib.hid hk9
  refine Reg.region_mk 20 52 [[], [true], [false, false], [true, true, true], [true, true, true, true], [true, true, true, true, true], [true, true, true, true, true, true], [true, true, true, true, true, false, false], [true, true, true, true, true, false, false, true], [true, true, true, true, true, true, true, true, true], [true, true, true, true, true, true, true, true, true, true], [true, true, true, true, true, true, true, true, true, true, true], [true, true, true, true, true, true, true, true, true, true, true, true], [true, true, true, true, true, true, true, true, true, true, true, true, false], [true, true, true, true, true, true, true, true, true, true, true, true, false, false], [true, true, true, true, true, true, true, true, true, true, true, true, true, true, true], [true, true, true, true, true, true, true, true, true, true, true, true, false, false, false, false], [true, true, true, true, true, true, true, true, true, true, true, true, false, false, false, false, false], [true, true, true, true, true, true, true, true, true, true, true, true, false, false, false, false, false, false], [true, true, true, true, true, true, true, true, true, true, true, true, false, false, false, false, true, true, true]] [1, 1, 1, 0, 0, 0, 1, 0, 0, 0, 0, 0, 0, 0, 0, 1, 0, 0, 0, 0]
    [.minor Unit () (fun _ => .agg #[.int .i64 x1, .int .i64 x2, .int .i64 x3, .int .i64 x4, .int .i64 x5, .int .i64 x6, .int .i64 x7, .int .i64 x8, .int .i64 x9, .int .u64 x0]) (fun _ _ => True), .minor Unit () (fun _ => .agg #[.int .i64 0, .int .i64 x1, .int .i64 x6, .int .i64 x7, .int .i64 x8, .int .i64 x9, .int .i64 x3, .int .i64 x5, .int .i64 0]) (fun _ _ => True), .minor Unit () (fun _ => .agg #[.int .i64 0, .int .i64 x1, .int .i64 x6, .int .i64 x7, .int .i64 x8, .int .i64 x9, .int .i64 x3, .int .i64 x5, .int .i64 0]) (fun _ _ => True), .pure, .pure, .pure, .minor Unit () (fun _ => .agg #[.int .i64 e, .int .i64 0, .int .i64 0, .int .i64 0, .int .i64 0, .int .i64 0, .int .i64 0, .int .i64 0, .int .i64 0]) (fun _ _ => True), .pure, .pure, .pure, .pure, .pure, .pure, .pure, .pure, .minor Unit () (fun _ => .agg #[.int .i64 0, .int .i64 0, .int .i64 0, .int .i64 0, .int .i64 0, .int .i64 0, .int .i64 a, .int .i64 b, .int .i64 c]) (fun _ _ => True), .pure, .pure, .pure, .pure]
    (fun W => Below wB.heap.size wB W) (fun _ _ => True) (fun a b => Below a.heap.size a b) (by kernel_rfl) (by kernel_rfl) rfl rfl (fun vs a b h hs => trivial) ?_ ?_ ?_ ?_ ?_ ?_
  · intro a b he hb; exact hb.trans (Below.mono he hb.size)
  · intro a b he hb; exact hb.trans (Below.mono he hb.size)
  · exact ⟨⟨fun _ _ _ _ _ => trivial, fun _ _ _ _ _ => trivial⟩, ⟨fun _ _ _ _ _ => trivial, fun _ _ _ _ _ => trivial⟩, ⟨fun _ _ _ _ _ => trivial, fun _ _ _ _ _ => trivial⟩, trivial, trivial, trivial, ⟨fun _ _ _ _ _ => trivial, fun _ _ _ _ _ => trivial⟩, trivial, trivial, trivial, trivial, trivial, trivial, trivial, trivial, ⟨fun _ _ _ _ _ => trivial, fun _ _ _ _ _ => trivial⟩, trivial, trivial, trivial, trivial, trivial⟩
  · exact ⟨rfl, rfl, rfl, Nat.le_refl _, fun _ _ => rfl⟩
  · trivial
  dsimp only [Reg.mk, List.zip, List.zipWith, List.take]
  refine Reg.pass_minor (by rfl) (fun wz hI hF => ?_) (fun r0 => ?_)
  · unfold Reg.One
    have d0 := load_box (k := k10) ((hI.block _ (lt_of_at hJ.out)).trans hJ.out) (by rw [hk10.out]; rfl)
    go_wp2_with fail
    first | exact ⟨_, rfl, rfl, Reg.Ext.refl _⟩ | exact ⟨_, rfl, ⟨(), rfl, trivial⟩, Reg.Ext.refl _⟩
  simp only [Act.put, List.setIfInBounds_toArray, List.set_cons_zero, List.set_cons_succ]; (try simp only [List.nil_append]); (try simp only [List.cons_append]); (try simp only [id])
  refine Reg.pass_minor (by rfl) (fun wz hI hF => ?_) (fun r1 => ?_)
  · unfold Reg.One
    go_wp2_with (go_at_call 10; go_must (refine (h1 _).mono ?_); rintro e w' ⟨rfl, hb5⟩)
    first | exact ⟨_, rfl, ⟨(), rfl, trivial⟩, hb5⟩ | exact ⟨_, rfl, rfl, hb5⟩
  simp only [Act.put, List.setIfInBounds_toArray, List.set_cons_zero, List.set_cons_succ]; (try simp only [List.nil_append]); (try simp only [List.cons_append]); (try simp only [id])
  refine Reg.pass_minor (by rfl) (fun wz hI hF => ?_) (fun r2 => ?_)
  · unfold Reg.One
    have d0 := load_box (k := k9) ((hI.block _ (lt_of_at hY.out)).trans hY.out) (by rw [hk9.out]; rfl)
    go_wp2_with fail
    first | exact ⟨_, rfl, rfl, Reg.Ext.refl _⟩ | exact ⟨_, rfl, ⟨(), rfl, trivial⟩, Reg.Ext.refl _⟩
  simp only [Act.put, List.setIfInBounds_toArray, List.set_cons_zero, List.set_cons_succ]; (try simp only [List.nil_append]); (try simp only [List.cons_append]); (try simp only [id])
  repeat (refine' Reg.pass_is _ (by rfl) (fun wz => ?_) ?_; rotate_left; (go_simp; first | rfl | rw [if_neg (by omega)]); simp only [Act.put, List.setIfInBounds_toArray, List.set_cons_zero, List.set_cons_succ]; (try simp only [List.nil_append]); (try simp only [List.cons_append]); (try simp only [id]))
  refine Reg.pass_minor (by rfl) (fun wz hI hF => ?_) (fun r6 => ?_)
  · unfold Reg.One
    go_wp2_with (go_at_call 11; go_must (refine (h2 _).mono ?_); rintro e w' ⟨rfl, hb5⟩)
    first | exact ⟨_, rfl, ⟨(), rfl, trivial⟩, hb5⟩ | exact ⟨_, rfl, rfl, hb5⟩
  simp only [Act.put, List.setIfInBounds_toArray, List.set_cons_zero, List.set_cons_succ]; (try simp only [List.nil_append]); (try simp only [List.cons_append]); (try simp only [id])
  repeat (refine' Reg.pass_is _ (by rfl) (fun wz => ?_) ?_; rotate_left; (go_simp; first | rfl | rw [if_neg (by omega)]); simp only [Act.put, List.setIfInBounds_toArray, List.set_cons_zero, List.set_cons_succ]; (try simp only [List.nil_append]); (try simp only [List.cons_append]); (try simp only [id]))
  refine Reg.pass_minor (by rfl) (fun wz hI hF => ?_) (fun r15 => ?_)
  · unfold Reg.One
    go_wp2_with (go_at_call 12; go_must (refine (h3 _).mono ?_); rintro e w' ⟨rfl, hb5⟩)
    first | exact ⟨_, rfl, ⟨(), rfl, trivial⟩, hb5⟩ | exact ⟨_, rfl, rfl, hb5⟩
  simp only [Act.put, List.setIfInBounds_toArray, List.set_cons_zero, List.set_cons_succ]; (try simp only [List.nil_append]); (try simp only [List.cons_append]); (try simp only [id])
  repeat (refine' Reg.pass_is _ (by rfl) (fun wz => ?_) ?_; rotate_left; (go_simp; first | rfl | rw [if_neg (by omega)]); simp only [Act.put, List.setIfInBounds_toArray, List.set_cons_zero, List.set_cons_succ]; (try simp only [List.nil_append]); (try simp only [List.cons_append]); (try simp only [id]))
  refine Reg.pass_end ?_
  intro w7 HI7 _ HF7
  clear HF7
  have hb7 := hb1.out.trans (HI7.mono hb1.out.size)
  dsimp only [List.drop]
  go_wp2_with fail
  go_at_call 9
  refine (h4 _).mono ?_
  rintro e w8 ⟨rfl, hB8⟩
  have hb8 := hb7.trans (hB8.mono hb7.size)
  go_wp2_with fail
  go_ret
  exact ⟨rfl, hb8⟩

end Go.Proofs.Ytpdnppncdfialaa
