/-
  Own walks: the statement's own words on requests: which may be put, the sum of bytes, a request's bytes.
-/
import Derived.Test.YtojipdcckanbfaaRqM
import Derived.Test.YtojipdcckanbfaaLit
import Derived.Test.YtojipdcckanbfaaReg
import Derived.BigQuiet
namespace Go.Proofs.Ytojipdcckanbfaa
open Go.RowKit Go.Lib

set_option maxRecDepth 1000000 in
set_option maxHeartbeats 4000000 in
theorem right_any (r : Rq) (w : World) : Calls Try.prog 8 #[.agg (encR r).toArray] w fun e w' => e = .returned (.bool (rightQ r)) ∧ Below w.heap.size w w' := by
  have zR := zE_req
  have lR := encR_len r
  obtain ⟨k9, hk9⟩ : ∃ k, k = 9 := ⟨_, rfl⟩
  rw [← hk9] at zR lR
  replace hk9 := Lib.hid hk9
  obtain ⟨wA, hwA⟩ : ∃ wA, wA = w.alloc (.cells (encR r).toArray 23) := ⟨_, rfl⟩
  have hb1 : Hid (Below w.heap.size w wA) := by show Below _ _ _; rw [hwA]; exact (Below.refl _ _).alloc (Nat.le_refl _) _
  have hR1 : Hid (wA.heap[w.heap.size]? = some (.cells (encR r).toArray 23 (0, 0))) := by show _ = _; rw [hwA]; exact heap_alloc_new w _
  have h1 := fun W => Clean_fn r W
  have hq := fun W => req_eql (cleanR r) r W
  have hg := req_guard
  have e0 : rightQ r = (decide (1 ≤ r.kind) && decide (r.kind ≤ 13) && decide (cleanR r = r)) := rfl
  rw [e0]
  clear e0
  generalize decide (cleanR r = r) = q at *
  generalize encR (cleanR r) = cA at *
  by_cases g1 : 1 ≤ r.kind
  · have d1 : decide (1 ≤ r.kind) = true := decide_eq_true g1
    by_cases g2 : r.kind ≤ 13
    · have d2 : decide (r.kind ≤ 13) = true := decide_eq_true g2
      rw [d1, d2, Bool.true_and, Bool.true_and]
      go_enter Try.func8, Try.ntmps8
      go_wp2_with fail
      rw [← hwA]

      refine Reg.region_mk 12 17 [[], [true], [true, true], [true, true, true], [true, true, true, true], [true, true, true, true, true], [true, true, true, true, true, true], [true, true, true, true, true, true, true], [true, true, true, true, true, true, true, true], [true, true, true, true, true, true, true, true, true], [true, true, true, true, true, true, true, true, true, true], [true, true, true, true, true, true, true, true, true, false, false]] [0, 1, 0, 0, 0, 1, 0, 0, 0, 1, 1, 1]
        [.pure, .minor Unit () (fun _ => .int .i64 r.kind) (fun _ _ => True), .pure, .pure, .pure, .minor Unit () (fun _ => .int .i64 r.kind) (fun _ _ => True), .pure, .pure, .pure, .minor Unit () (fun _ => .agg (encR r).toArray) (fun _ _ => True), .minor Unit () (fun _ => .agg cA.toArray) (fun _ _ => True), .minor Unit () (fun _ => .agg (encR r).toArray) (fun _ _ => True)]
        (fun W => Below wA.heap.size wA W) (fun _ _ => True) (fun a b => Below a.heap.size a b) (by kernel_rfl) (by kernel_rfl) rfl rfl (fun vs a b h hs => trivial) ?_ ?_ ?_ ?_ ?_ ?_
      · intro a b he hb; exact hb.trans (Below.mono he hb.size)
      · intro a b he hb; exact hb.trans (Below.mono he hb.size)
      · exact ⟨trivial, ⟨fun _ _ _ _ _ => trivial, fun _ _ _ _ _ => trivial⟩, trivial, trivial, trivial, ⟨fun _ _ _ _ _ => trivial, fun _ _ _ _ _ => trivial⟩, trivial, trivial, trivial, ⟨fun _ _ _ _ _ => trivial, fun _ _ _ _ _ => trivial⟩, ⟨fun _ _ _ _ _ => trivial, fun _ _ _ _ _ => trivial⟩, ⟨fun _ _ _ _ _ => trivial, fun _ _ _ _ _ => trivial⟩, trivial⟩
      · exact ⟨rfl, rfl, rfl, Nat.le_refl _, fun _ _ => rfl⟩
      · trivial
      dsimp only [Reg.mk, List.zip, List.zipWith, List.take]
      repeat (refine' Reg.pass_is _ (by rfl) (fun wz => ?_) ?_; rotate_left; (go_simp; first | rfl | rw [if_neg (by omega)]); simp only [Act.put, List.setIfInBounds_toArray, List.set_cons_zero, List.set_cons_succ]; (try simp only [List.nil_append]); (try simp only [List.cons_append]); (try simp only [id]))
      refine Reg.pass_minor (by rfl) (fun wz hI hF => ?_) (fun r1 => ?_)
      · unfold Reg.One
        have d0 := (hI.block _ (lt_of_at hR1.out)).trans hR1.out
        have d1 := req_cells d0 0 _ rfl
        clear d0
        go_wp2_with fail
        first | exact ⟨_, rfl, rfl, Reg.Ext.refl _⟩ | exact ⟨_, rfl, ⟨(), rfl, trivial⟩, Reg.Ext.refl _⟩
      simp only [Act.put, List.setIfInBounds_toArray, List.set_cons_zero, List.set_cons_succ]; (try simp only [List.nil_append]); (try simp only [List.cons_append]); (try simp only [id])
      repeat (refine' Reg.pass_is _ (by rfl) (fun wz => ?_) ?_; rotate_left; (go_simp; first | rfl | rw [if_neg (by omega)]); simp only [Act.put, List.setIfInBounds_toArray, List.set_cons_zero, List.set_cons_succ]; (try simp only [List.nil_append]); (try simp only [List.cons_append]); (try simp only [id]))
      refine Reg.pass_minor (by rfl) (fun wz hI hF => ?_) (fun r5 => ?_)
      · unfold Reg.One
        have d0 := (hI.block _ (lt_of_at hR1.out)).trans hR1.out
        have d1 := req_cells d0 0 _ rfl
        clear d0
        go_wp2_with fail
        first | exact ⟨_, rfl, rfl, Reg.Ext.refl _⟩ | exact ⟨_, rfl, ⟨(), rfl, trivial⟩, Reg.Ext.refl _⟩
      simp only [Act.put, List.setIfInBounds_toArray, List.set_cons_zero, List.set_cons_succ]; (try simp only [List.nil_append]); (try simp only [List.cons_append]); (try simp only [id])
      repeat (refine' Reg.pass_is _ (by rfl) (fun wz => ?_) ?_; rotate_left; (go_simp; first | rfl | rw [if_neg (by omega)]); simp only [Act.put, List.setIfInBounds_toArray, List.set_cons_zero, List.set_cons_succ]; (try simp only [List.nil_append]); (try simp only [List.cons_append]); (try simp only [id]))
      refine Reg.pass_minor (by rfl) (fun wz hI hF => ?_) (fun r9 => ?_)
      · unfold Reg.One
        have d0 := req_load (k := k9) ((hI.block _ (lt_of_at hR1.out)).trans hR1.out) lR
        go_wp2_with fail
        first | exact ⟨_, rfl, rfl, Reg.Ext.refl _⟩ | exact ⟨_, rfl, ⟨(), rfl, trivial⟩, Reg.Ext.refl _⟩
      simp only [Act.put, List.setIfInBounds_toArray, List.set_cons_zero, List.set_cons_succ]; (try simp only [List.nil_append]); (try simp only [List.cons_append]); (try simp only [id])
      refine Reg.pass_minor (by rfl) (fun wz hI hF => ?_) (fun r10 => ?_)
      · unfold Reg.One
        go_wp2_with (go_at_call 12; go_must (refine (h1 _).mono ?_); rintro e w' ⟨rfl, hb5⟩)
        first | exact ⟨_, rfl, ⟨(), rfl, trivial⟩, hb5⟩ | exact ⟨_, rfl, rfl, hb5⟩
      simp only [Act.put, List.setIfInBounds_toArray, List.set_cons_zero, List.set_cons_succ]; (try simp only [List.nil_append]); (try simp only [List.cons_append]); (try simp only [id])
      refine Reg.pass_minor (by rfl) (fun wz hI hF => ?_) (fun r11 => ?_)
      · unfold Reg.One
        have d0 := req_load (k := k9) ((hI.block _ (lt_of_at hR1.out)).trans hR1.out) lR
        go_wp2_with fail
        first | exact ⟨_, rfl, rfl, Reg.Ext.refl _⟩ | exact ⟨_, rfl, ⟨(), rfl, trivial⟩, Reg.Ext.refl _⟩
      simp only [Act.put, List.setIfInBounds_toArray, List.set_cons_zero, List.set_cons_succ]; (try simp only [List.nil_append]); (try simp only [List.cons_append]); (try simp only [id])
      refine Reg.pass_end ?_
      intro w5 HI5 _ HF5
      clear HF5
      have hb5 := hb1.out.trans (HI5.mono hb1.out.size)
      dsimp only [List.drop]
      go_wp2_with fail
      go_ret
      exact ⟨rfl, hb5⟩
    · have d2 : decide (r.kind ≤ 13) = false := decide_eq_false g2
      rw [d1, d2, Bool.and_false, Bool.false_and]
      go_enter Try.func8, Try.ntmps8
      go_wp2_with fail
      rw [← hwA]

      refine Reg.region_mk 12 17 [[], [true], [true, true], [true, true, true], [true, true, true, true], [true, true, true, true, true], [true, true, true, true, true, true], [true, true, true, true, true, true, true], [true, true, true, true, true, true, true, true], [true, true, true, true, true, true, true, true, true], [true, true, true, true, true, true, true, true, true, true], [true, true, true, true, true, true, true, true, true, false, false]] [0, 1, 0, 0, 0, 1, 0, 0, 0, 1, 1, 1]
        [.pure, .minor Unit () (fun _ => .int .i64 r.kind) (fun _ _ => True), .pure, .pure, .pure, .minor Unit () (fun _ => .int .i64 r.kind) (fun _ _ => True), .pure, .pure, .pure, .minor Unit () (fun _ => .agg (encR r).toArray) (fun _ _ => True), .minor Unit () (fun _ => .agg cA.toArray) (fun _ _ => True), .minor Unit () (fun _ => .agg (encR r).toArray) (fun _ _ => True)]
        (fun W => Below wA.heap.size wA W) (fun _ _ => True) (fun a b => Below a.heap.size a b) (by kernel_rfl) (by kernel_rfl) rfl rfl (fun vs a b h hs => trivial) ?_ ?_ ?_ ?_ ?_ ?_
      · intro a b he hb; exact hb.trans (Below.mono he hb.size)
      · intro a b he hb; exact hb.trans (Below.mono he hb.size)
      · exact ⟨trivial, ⟨fun _ _ _ _ _ => trivial, fun _ _ _ _ _ => trivial⟩, trivial, trivial, trivial, ⟨fun _ _ _ _ _ => trivial, fun _ _ _ _ _ => trivial⟩, trivial, trivial, trivial, ⟨fun _ _ _ _ _ => trivial, fun _ _ _ _ _ => trivial⟩, ⟨fun _ _ _ _ _ => trivial, fun _ _ _ _ _ => trivial⟩, ⟨fun _ _ _ _ _ => trivial, fun _ _ _ _ _ => trivial⟩, trivial⟩
      · exact ⟨rfl, rfl, rfl, Nat.le_refl _, fun _ _ => rfl⟩
      · trivial
      dsimp only [Reg.mk, List.zip, List.zipWith, List.take]
      repeat (refine' Reg.pass_is _ (by rfl) (fun wz => ?_) ?_; rotate_left; (go_simp; first | rfl | rw [if_neg (by omega)]); simp only [Act.put, List.setIfInBounds_toArray, List.set_cons_zero, List.set_cons_succ]; (try simp only [List.nil_append]); (try simp only [List.cons_append]); (try simp only [id]))
      refine Reg.pass_minor (by rfl) (fun wz hI hF => ?_) (fun r1 => ?_)
      · unfold Reg.One
        have d0 := (hI.block _ (lt_of_at hR1.out)).trans hR1.out
        have d1 := req_cells d0 0 _ rfl
        clear d0
        go_wp2_with fail
        first | exact ⟨_, rfl, rfl, Reg.Ext.refl _⟩ | exact ⟨_, rfl, ⟨(), rfl, trivial⟩, Reg.Ext.refl _⟩
      simp only [Act.put, List.setIfInBounds_toArray, List.set_cons_zero, List.set_cons_succ]; (try simp only [List.nil_append]); (try simp only [List.cons_append]); (try simp only [id])
      repeat (refine' Reg.pass_is _ (by rfl) (fun wz => ?_) ?_; rotate_left; (go_simp; first | rfl | rw [if_neg (by omega)]); simp only [Act.put, List.setIfInBounds_toArray, List.set_cons_zero, List.set_cons_succ]; (try simp only [List.nil_append]); (try simp only [List.cons_append]); (try simp only [id]))
      refine Reg.pass_minor (by rfl) (fun wz hI hF => ?_) (fun r5 => ?_)
      · unfold Reg.One
        have d0 := (hI.block _ (lt_of_at hR1.out)).trans hR1.out
        have d1 := req_cells d0 0 _ rfl
        clear d0
        go_wp2_with fail
        first | exact ⟨_, rfl, rfl, Reg.Ext.refl _⟩ | exact ⟨_, rfl, ⟨(), rfl, trivial⟩, Reg.Ext.refl _⟩
      simp only [Act.put, List.setIfInBounds_toArray, List.set_cons_zero, List.set_cons_succ]; (try simp only [List.nil_append]); (try simp only [List.cons_append]); (try simp only [id])
      repeat (refine' Reg.pass_is _ (by rfl) (fun wz => ?_) ?_; rotate_left; (go_simp; first | rfl | rw [if_neg (by omega)]); simp only [Act.put, List.setIfInBounds_toArray, List.set_cons_zero, List.set_cons_succ]; (try simp only [List.nil_append]); (try simp only [List.cons_append]); (try simp only [id]))
      refine Reg.pass_minor_no (by rfl) ?_
      simp only [Act.put, List.setIfInBounds_toArray, List.set_cons_zero, List.set_cons_succ]; (try simp only [List.nil_append]); (try simp only [List.cons_append]); (try simp only [id])
      refine Reg.pass_minor_no (by rfl) ?_
      simp only [Act.put, List.setIfInBounds_toArray, List.set_cons_zero, List.set_cons_succ]; (try simp only [List.nil_append]); (try simp only [List.cons_append]); (try simp only [id])
      refine Reg.pass_minor_no (by rfl) ?_
      simp only [Act.put, List.setIfInBounds_toArray, List.set_cons_zero, List.set_cons_succ]; (try simp only [List.nil_append]); (try simp only [List.cons_append]); (try simp only [id])
      refine Reg.pass_end ?_
      intro w5 HI5 _ HF5
      clear HF5
      have hb5 := hb1.out.trans (HI5.mono hb1.out.size)
      dsimp only [List.drop]
      go_wp2_with fail
      go_ret
      exact ⟨rfl, hb5⟩
  · have d1 : decide (1 ≤ r.kind) = false := decide_eq_false g1
    rw [d1, Bool.false_and, Bool.false_and]
    go_enter Try.func8, Try.ntmps8
    go_wp2_with fail
    rw [← hwA]

    refine Reg.region_mk 12 17 [[], [true], [true, true], [true, true, true], [true, true, true, true], [true, true, true, true, true], [true, true, true, true, true, true], [true, true, true, true, true, true, true], [true, true, true, true, true, true, true, true], [true, true, true, true, true, true, true, true, true], [true, true, true, true, true, true, true, true, true, true], [true, true, true, true, true, true, true, true, true, false, false]] [0, 1, 0, 0, 0, 1, 0, 0, 0, 1, 1, 1]
      [.pure, .minor Unit () (fun _ => .int .i64 r.kind) (fun _ _ => True), .pure, .pure, .pure, .minor Unit () (fun _ => .int .i64 r.kind) (fun _ _ => True), .pure, .pure, .pure, .minor Unit () (fun _ => .agg (encR r).toArray) (fun _ _ => True), .minor Unit () (fun _ => .agg cA.toArray) (fun _ _ => True), .minor Unit () (fun _ => .agg (encR r).toArray) (fun _ _ => True)]
      (fun W => Below wA.heap.size wA W) (fun _ _ => True) (fun a b => Below a.heap.size a b) (by kernel_rfl) (by kernel_rfl) rfl rfl (fun vs a b h hs => trivial) ?_ ?_ ?_ ?_ ?_ ?_
    · intro a b he hb; exact hb.trans (Below.mono he hb.size)
    · intro a b he hb; exact hb.trans (Below.mono he hb.size)
    · exact ⟨trivial, ⟨fun _ _ _ _ _ => trivial, fun _ _ _ _ _ => trivial⟩, trivial, trivial, trivial, ⟨fun _ _ _ _ _ => trivial, fun _ _ _ _ _ => trivial⟩, trivial, trivial, trivial, ⟨fun _ _ _ _ _ => trivial, fun _ _ _ _ _ => trivial⟩, ⟨fun _ _ _ _ _ => trivial, fun _ _ _ _ _ => trivial⟩, ⟨fun _ _ _ _ _ => trivial, fun _ _ _ _ _ => trivial⟩, trivial⟩
    · exact ⟨rfl, rfl, rfl, Nat.le_refl _, fun _ _ => rfl⟩
    · trivial
    dsimp only [Reg.mk, List.zip, List.zipWith, List.take]
    repeat (refine' Reg.pass_is _ (by rfl) (fun wz => ?_) ?_; rotate_left; (go_simp; first | rfl | rw [if_neg (by omega)]); simp only [Act.put, List.setIfInBounds_toArray, List.set_cons_zero, List.set_cons_succ]; (try simp only [List.nil_append]); (try simp only [List.cons_append]); (try simp only [id]))
    refine Reg.pass_minor (by rfl) (fun wz hI hF => ?_) (fun r1 => ?_)
    · unfold Reg.One
      have d0 := (hI.block _ (lt_of_at hR1.out)).trans hR1.out
      have d1 := req_cells d0 0 _ rfl
      clear d0
      go_wp2_with fail
      first | exact ⟨_, rfl, rfl, Reg.Ext.refl _⟩ | exact ⟨_, rfl, ⟨(), rfl, trivial⟩, Reg.Ext.refl _⟩
    simp only [Act.put, List.setIfInBounds_toArray, List.set_cons_zero, List.set_cons_succ]; (try simp only [List.nil_append]); (try simp only [List.cons_append]); (try simp only [id])
    repeat (refine' Reg.pass_is _ (by rfl) (fun wz => ?_) ?_; rotate_left; (go_simp; first | rfl | rw [if_neg (by omega)]); simp only [Act.put, List.setIfInBounds_toArray, List.set_cons_zero, List.set_cons_succ]; (try simp only [List.nil_append]); (try simp only [List.cons_append]); (try simp only [id]))
    refine Reg.pass_not (by rfl) ?_
    simp only [Act.put, List.setIfInBounds_toArray, List.set_cons_zero, List.set_cons_succ]; (try simp only [List.nil_append]); (try simp only [List.cons_append]); (try simp only [id])
    refine Reg.pass_minor_no (by rfl) ?_
    simp only [Act.put, List.setIfInBounds_toArray, List.set_cons_zero, List.set_cons_succ]; (try simp only [List.nil_append]); (try simp only [List.cons_append]); (try simp only [id])
    refine Reg.pass_not (by rfl) ?_
    simp only [Act.put, List.setIfInBounds_toArray, List.set_cons_zero, List.set_cons_succ]; (try simp only [List.nil_append]); (try simp only [List.cons_append]); (try simp only [id])
    repeat (refine' Reg.pass_is _ (by rfl) (fun wz => ?_) ?_; rotate_left; (go_simp; first | rfl | rw [if_neg (by omega)]); simp only [Act.put, List.setIfInBounds_toArray, List.set_cons_zero, List.set_cons_succ]; (try simp only [List.nil_append]); (try simp only [List.cons_append]); (try simp only [id]))
    refine Reg.pass_minor_no (by rfl) ?_
    simp only [Act.put, List.setIfInBounds_toArray, List.set_cons_zero, List.set_cons_succ]; (try simp only [List.nil_append]); (try simp only [List.cons_append]); (try simp only [id])
    refine Reg.pass_minor_no (by rfl) ?_
    simp only [Act.put, List.setIfInBounds_toArray, List.set_cons_zero, List.set_cons_succ]; (try simp only [List.nil_append]); (try simp only [List.cons_append]); (try simp only [id])
    refine Reg.pass_minor_no (by rfl) ?_
    simp only [Act.put, List.setIfInBounds_toArray, List.set_cons_zero, List.set_cons_succ]; (try simp only [List.nil_append]); (try simp only [List.cons_append]); (try simp only [id])
    refine Reg.pass_end ?_
    intro w5 HI5 _ HF5
    clear HF5
    have hb5 := hb1.out.trans (HI5.mono hb1.out.size)
    dsimp only [List.drop]
    go_wp2_with fail
    go_ret
    exact ⟨rfl, hb5⟩


end Go.Proofs.Ytojipdcckanbfaa
