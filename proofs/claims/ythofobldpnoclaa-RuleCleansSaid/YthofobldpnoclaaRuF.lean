/-
  Own walks: when two requests are the same; the statement on requests with just what their kinds have.
-/
import Derived.Test.YthofobldpnoclaaRuE
namespace Go.Proofs.Ythofobldpnoclaa
open Go.RowKit Go.Lib

theorem lt_of_at {w : World} {g : Nat} {o : Obj} (h : w.heap[g]? = some o) : g < w.heap.size := by
  rcases Nat.lt_or_ge g w.heap.size with h1 | h1
  · exact h1
  · rw [Array.getElem?_eq_none h1] at h; cases h

set_option maxRecDepth 1000000 in
set_option maxHeartbeats 4000000 in
theorem Same_fn (a b : Rq) (w : World) : Calls Try.prog 14 #[.agg (encR a).toArray, .agg (encR b).toArray] w fun e w' => e = .returned (.bool (decide (cleanR a = cleanR b))) ∧ Below w.heap.size w w' := by
  have zR := zE_req
  have lA := encR_len a
  have lB := encR_len b
  obtain ⟨k9, hk9⟩ : ∃ k, k = 9 := ⟨_, rfl⟩
  rw [← hk9] at zR lA lB
  replace hk9 := Lib.hid hk9
  obtain ⟨wA, hwA⟩ : ∃ wA, wA = (w.alloc (.cells (encR a).toArray 30)).alloc (.cells (encR b).toArray 30) := ⟨_, rfl⟩
  have hb1 : Hid (Below w.heap.size w wA) := by show Below _ _ _; rw [hwA]; exact ((Below.refl _ _).alloc (Nat.le_refl _) _).alloc (by simp) _
  have hR1 : Hid (wA.heap[w.heap.size]? = some (.cells (encR a).toArray 30 (0, 0))) := by show _ = _; rw [hwA]; exact heap_past (heap_alloc_new w _)
  have hR2 : Hid (wA.heap[w.heap.size + 1]? = some (.cells (encR b).toArray 30 (0, 0))) := by show _ = _; rw [hwA]; exact heap_alloc2_new w _ _
  have h1 := fun W => Clean_fn a W
  have h2 := fun W => Clean_fn b W
  have hq := fun W => req_eql (cleanR a) (cleanR b) W
  have hg := req_guard
  generalize decide (cleanR a = cleanR b) = q at *
  generalize encR (cleanR a) = cA at *
  generalize encR (cleanR b) = cB at *
  go_enter Try.func14, Try.ntmps14
  go_wp2_with fail
  rw [← hwA]
  refine Reg.region_mk 3 10 [[], [true], [false, false]] [1, 1, 1]
    [.minor Unit () (fun _ => .agg (encR a).toArray) (fun _ _ => True), .minor Unit () (fun _ => .agg cA.toArray) (fun _ _ => True), .minor Unit () (fun _ => .agg (encR b).toArray) (fun _ _ => True)]
    (fun W => Below wA.heap.size wA W) (fun _ _ => True) (fun a b => Below a.heap.size a b) (by kernel_rfl) (by kernel_rfl) rfl rfl (fun vs a b h hs => trivial) ?_ ?_ ?_ ?_ ?_ ?_
  · intro a b he hb; exact hb.trans (Below.mono he hb.size)
  · intro a b he hb; exact hb.trans (Below.mono he hb.size)
  · exact ⟨⟨fun _ _ _ _ _ => trivial, fun _ _ _ _ _ => trivial⟩, ⟨fun _ _ _ _ _ => trivial, fun _ _ _ _ _ => trivial⟩, ⟨fun _ _ _ _ _ => trivial, fun _ _ _ _ _ => trivial⟩, trivial⟩
  · exact ⟨rfl, rfl, rfl, Nat.le_refl _, fun _ _ => rfl⟩
  · trivial
  dsimp only [Reg.mk, List.zip, List.zipWith, List.take]
  refine Reg.pass_minor (by rfl) (fun wz hI hF => ?_) (fun r0 => ?_)
  · unfold Reg.One
    have d0 := req_load (k := k9) ((hI.block _ (lt_of_at hR1.out)).trans hR1.out) lA
    go_wp2_with fail
    first | exact ⟨_, rfl, rfl, Reg.Ext.refl _⟩ | exact ⟨_, rfl, ⟨(), rfl, trivial⟩, Reg.Ext.refl _⟩
  simp only [Act.put, List.setIfInBounds_toArray, List.set_cons_zero, List.set_cons_succ]; (try simp only [List.nil_append]); (try simp only [List.cons_append]); (try simp only [id])
  refine Reg.pass_minor (by rfl) (fun wz hI hF => ?_) (fun r1 => ?_)
  · unfold Reg.One
    go_wp2_with (go_at_call 12; go_must (refine (h1 _).mono ?_); rintro e w' ⟨rfl, hb5⟩)
    first | exact ⟨_, rfl, ⟨(), rfl, trivial⟩, hb5⟩ | exact ⟨_, rfl, rfl, hb5⟩
  simp only [Act.put, List.setIfInBounds_toArray, List.set_cons_zero, List.set_cons_succ]; (try simp only [List.nil_append]); (try simp only [List.cons_append]); (try simp only [id])
  refine Reg.pass_minor (by rfl) (fun wz hI hF => ?_) (fun r2 => ?_)
  · unfold Reg.One
    have d0 := req_load (k := k9) ((hI.block _ (lt_of_at hR2.out)).trans hR2.out) lB
    go_wp2_with fail
    first | exact ⟨_, rfl, rfl, Reg.Ext.refl _⟩ | exact ⟨_, rfl, ⟨(), rfl, trivial⟩, Reg.Ext.refl _⟩
  simp only [Act.put, List.setIfInBounds_toArray, List.set_cons_zero, List.set_cons_succ]; (try simp only [List.nil_append]); (try simp only [List.cons_append]); (try simp only [id])
  refine Reg.pass_end ?_
  intro w5 HI5 _ HF5
  clear HF5
  have hb5 := hb1.out.trans (HI5.mono hb1.out.size)
  dsimp only [List.drop]
  go_wp2_with (go_at_call 12; go_must (refine (h2 _).mono ?_); rintro e w' ⟨rfl, h5⟩)
  go_ret
  exact ⟨rfl, hb5.trans (h5.mono hb5.size)⟩

set_option maxRecDepth 1000000 in
set_option maxHeartbeats 8000000 in
theorem walkCleans (a b : Rq) (w : World) : Calls Try.prog 4 #[.agg (encR a).toArray, .agg (encR b).toArray] w fun e w' => e = .returned (.bool true) ∧ Below w.heap.size w w' := by
  have zR := zE_req
  have lA := encR_len a
  have lB := encR_len b
  obtain ⟨k9, hk9⟩ : ∃ k, k = 9 := ⟨_, rfl⟩
  rw [← hk9] at zR lA lB
  replace hk9 := Lib.hid hk9
  obtain ⟨wA, hwA⟩ : ∃ wA, wA = (w.alloc (.cells (encR a).toArray 30)).alloc (.cells (encR b).toArray 30) := ⟨_, rfl⟩
  have hb1 : Hid (Below w.heap.size w wA) := by show Below _ _ _; rw [hwA]; exact ((Below.refl _ _).alloc (Nat.le_refl _) _).alloc (by simp) _
  have hR1 : Hid (wA.heap[w.heap.size]? = some (.cells (encR a).toArray 30 (0, 0))) := by show _ = _; rw [hwA]; exact heap_past (heap_alloc_new w _)
  have hR2 : Hid (wA.heap[w.heap.size + 1]? = some (.cells (encR b).toArray 30 (0, 0))) := by show _ = _; rw [hwA]; exact heap_alloc2_new w _ _
  have h1 := fun W => Clean_fn a W
  have h2 := fun W => clean_fn a W
  have h3 := fun W => clean_fn b W
  have h4 := fun W => Same_fn a b W
  have h5 := fun W => Same_fn a (cleanR a) W
  rw [clean_again, decide_eq_true rfl] at h5
  have h6 := fun W => awake_any W
  have hqq := fun W => req_eql (cleanR a) (cleanR a) W
  rw [decide_eq_true rfl] at hqq
  have hq := fun W => req_eql (cleanR a) (cleanR b) W
  have hg := req_guard
  generalize decide (cleanR a = cleanR b) = q at *
  generalize encR (cleanR a) = cA at *
  generalize encR (cleanR b) = cB at *
  go_enter Try.func4, Try.ntmps4
  go_wp2_with fail
  rw [← hwA]

  refine Reg.region_mk 20 30 [[], [true], [false, false], [true, true, true], [true, true, true, true], [true, true, true, true, true], [true, true, true, true, true, true], [true, true, true, true, true, true, false], [true, true, true, true, true, true, true, true], [true, true, true, true, true, true, false, false, false], [true, true, true, true, true, true, true, true, true, true], [true, true, true, true, true, true, false, false, false, false, false], [true, true, true, true, true, true, true, true, true, true, true, true], [true, true, true, true, true, true, true, true, true, true, true, true, true], [true, true, true, true, true, true, true, true, true, true, true, true, true, true], [true, true, true, true, true, true, true, true, true, true, true, true, true, true, true], [true, true, true, true, true, true, true, true, true, true, true, true, true, true, true, true], [true, true, true, true, true, true, true, true, true, true, true, true, true, true, true, true, true], [true, true, true, true, true, true, true, true, true, true, true, true, true, true, true, true, true, false], [true, true, true, true, true, true, true, true, true, true, true, true, true, true, true, true, true, false, true]] [1, 1, 1, 1, 0, 0, 1, 1, 1, 1, 1, 1, 1, 0, 0, 0, 0, 1, 1, 1]
    [.minor Unit () (fun _ => .agg (encR a).toArray) (fun _ _ => True), .minor Unit () (fun _ => .agg cA.toArray) (fun _ _ => True), .minor Unit () (fun _ => .agg (encR a).toArray) (fun _ _ => True), .minor Unit () (fun _ => .agg cA.toArray) (fun _ _ => True), .pure, .pure, .minor Unit () (fun _ => .agg (encR a).toArray) (fun _ _ => True), .minor Unit () (fun _ => .agg (encR b).toArray) (fun _ _ => True), .minor Unit () (fun _ => .bool q) (fun _ _ => True), .minor Unit () (fun _ => .agg (encR a).toArray) (fun _ _ => True), .minor Unit () (fun _ => .agg cA.toArray) (fun _ _ => True), .minor Unit () (fun _ => .agg (encR b).toArray) (fun _ _ => True), .minor Unit () (fun _ => .agg cB.toArray) (fun _ _ => True), .pure, .pure, .pure, .pure, .minor Unit () (fun _ => .agg (encR a).toArray) (fun _ _ => True), .minor Unit () (fun _ => .agg (encR a).toArray) (fun _ _ => True), .minor Unit () (fun _ => .agg cA.toArray) (fun _ _ => True)]
    (fun W => Below wA.heap.size wA W) (fun _ _ => True) (fun a b => Below a.heap.size a b) (by kernel_rfl) (by kernel_rfl) rfl rfl (fun vs a b h hs => trivial) ?_ ?_ ?_ ?_ ?_ ?_
  · intro a b he hb; exact hb.trans (Below.mono he hb.size)
  · intro a b he hb; exact hb.trans (Below.mono he hb.size)
  · exact ⟨⟨fun _ _ _ _ _ => trivial, fun _ _ _ _ _ => trivial⟩, ⟨fun _ _ _ _ _ => trivial, fun _ _ _ _ _ => trivial⟩, ⟨fun _ _ _ _ _ => trivial, fun _ _ _ _ _ => trivial⟩, ⟨fun _ _ _ _ _ => trivial, fun _ _ _ _ _ => trivial⟩, trivial, trivial, ⟨fun _ _ _ _ _ => trivial, fun _ _ _ _ _ => trivial⟩, ⟨fun _ _ _ _ _ => trivial, fun _ _ _ _ _ => trivial⟩, ⟨fun _ _ _ _ _ => trivial, fun _ _ _ _ _ => trivial⟩, ⟨fun _ _ _ _ _ => trivial, fun _ _ _ _ _ => trivial⟩, ⟨fun _ _ _ _ _ => trivial, fun _ _ _ _ _ => trivial⟩, ⟨fun _ _ _ _ _ => trivial, fun _ _ _ _ _ => trivial⟩, ⟨fun _ _ _ _ _ => trivial, fun _ _ _ _ _ => trivial⟩, trivial, trivial, trivial, trivial, ⟨fun _ _ _ _ _ => trivial, fun _ _ _ _ _ => trivial⟩, ⟨fun _ _ _ _ _ => trivial, fun _ _ _ _ _ => trivial⟩, ⟨fun _ _ _ _ _ => trivial, fun _ _ _ _ _ => trivial⟩, trivial⟩
  · exact ⟨rfl, rfl, rfl, Nat.le_refl _, fun _ _ => rfl⟩
  · trivial
  dsimp only [Reg.mk, List.zip, List.zipWith, List.take]
  refine Reg.pass_minor (by rfl) (fun wz hI hF => ?_) (fun r0 => ?_)
  · unfold Reg.One
    have d0 := req_load (k := k9) ((hI.block _ (lt_of_at hR1.out)).trans hR1.out) lA
    go_wp2_with fail
    first | exact ⟨_, rfl, rfl, Reg.Ext.refl _⟩ | exact ⟨_, rfl, ⟨(), rfl, trivial⟩, Reg.Ext.refl _⟩
  simp only [Act.put, List.setIfInBounds_toArray, List.set_cons_zero, List.set_cons_succ]; (try simp only [List.nil_append]); (try simp only [List.cons_append]); (try simp only [id])
  refine Reg.pass_minor (by rfl) (fun wz hI hF => ?_) (fun r1 => ?_)
  · unfold Reg.One
    go_wp2_with (go_at_call 12; go_must (refine (h1 _).mono ?_); rintro e w' ⟨rfl, hb5⟩)
    first | exact ⟨_, rfl, ⟨(), rfl, trivial⟩, hb5⟩ | exact ⟨_, rfl, rfl, hb5⟩
  simp only [Act.put, List.setIfInBounds_toArray, List.set_cons_zero, List.set_cons_succ]; (try simp only [List.nil_append]); (try simp only [List.cons_append]); (try simp only [id])
  refine Reg.pass_minor (by rfl) (fun wz hI hF => ?_) (fun r2 => ?_)
  · unfold Reg.One
    have d0 := req_load (k := k9) ((hI.block _ (lt_of_at hR1.out)).trans hR1.out) lA
    go_wp2_with fail
    first | exact ⟨_, rfl, rfl, Reg.Ext.refl _⟩ | exact ⟨_, rfl, ⟨(), rfl, trivial⟩, Reg.Ext.refl _⟩
  simp only [Act.put, List.setIfInBounds_toArray, List.set_cons_zero, List.set_cons_succ]; (try simp only [List.nil_append]); (try simp only [List.cons_append]); (try simp only [id])
  refine Reg.pass_minor (by rfl) (fun wz hI hF => ?_) (fun r3 => ?_)
  · unfold Reg.One
    go_wp2_with (go_at_call 13; go_must (refine (h2 _).mono ?_); rintro e w' ⟨rfl, hb5⟩)
    first | exact ⟨_, rfl, ⟨(), rfl, trivial⟩, hb5⟩ | exact ⟨_, rfl, rfl, hb5⟩
  simp only [Act.put, List.setIfInBounds_toArray, List.set_cons_zero, List.set_cons_succ]; (try simp only [List.nil_append]); (try simp only [List.cons_append]); (try simp only [id])
  repeat (refine' Reg.pass_is _ (by rfl) (fun wz => ?_) ?_; rotate_left; (go_simp; first | rfl | rw [if_neg (by omega)]); simp only [Act.put, List.setIfInBounds_toArray, List.set_cons_zero, List.set_cons_succ]; (try simp only [List.nil_append]); (try simp only [List.cons_append]); (try simp only [id]))
  refine Reg.pass_minor (by rfl) (fun wz hI hF => ?_) (fun r6 => ?_)
  · unfold Reg.One
    have d0 := req_load (k := k9) ((hI.block _ (lt_of_at hR1.out)).trans hR1.out) lA
    go_wp2_with fail
    first | exact ⟨_, rfl, rfl, Reg.Ext.refl _⟩ | exact ⟨_, rfl, ⟨(), rfl, trivial⟩, Reg.Ext.refl _⟩
  simp only [Act.put, List.setIfInBounds_toArray, List.set_cons_zero, List.set_cons_succ]; (try simp only [List.nil_append]); (try simp only [List.cons_append]); (try simp only [id])
  refine Reg.pass_minor (by rfl) (fun wz hI hF => ?_) (fun r7 => ?_)
  · unfold Reg.One
    have d0 := req_load (k := k9) ((hI.block _ (lt_of_at hR2.out)).trans hR2.out) lB
    go_wp2_with fail
    first | exact ⟨_, rfl, rfl, Reg.Ext.refl _⟩ | exact ⟨_, rfl, ⟨(), rfl, trivial⟩, Reg.Ext.refl _⟩
  simp only [Act.put, List.setIfInBounds_toArray, List.set_cons_zero, List.set_cons_succ]; (try simp only [List.nil_append]); (try simp only [List.cons_append]); (try simp only [id])
  refine Reg.pass_minor (by rfl) (fun wz hI hF => ?_) (fun r8 => ?_)
  · unfold Reg.One
    go_wp2_with (go_at_call 14; go_must (refine (h4 _).mono ?_); rintro e w' ⟨rfl, hb5⟩)
    first | exact ⟨_, rfl, ⟨(), rfl, trivial⟩, hb5⟩ | exact ⟨_, rfl, rfl, hb5⟩
  simp only [Act.put, List.setIfInBounds_toArray, List.set_cons_zero, List.set_cons_succ]; (try simp only [List.nil_append]); (try simp only [List.cons_append]); (try simp only [id])
  refine Reg.pass_minor (by rfl) (fun wz hI hF => ?_) (fun r9 => ?_)
  · unfold Reg.One
    have d0 := req_load (k := k9) ((hI.block _ (lt_of_at hR1.out)).trans hR1.out) lA
    go_wp2_with fail
    first | exact ⟨_, rfl, rfl, Reg.Ext.refl _⟩ | exact ⟨_, rfl, ⟨(), rfl, trivial⟩, Reg.Ext.refl _⟩
  simp only [Act.put, List.setIfInBounds_toArray, List.set_cons_zero, List.set_cons_succ]; (try simp only [List.nil_append]); (try simp only [List.cons_append]); (try simp only [id])
  refine Reg.pass_minor (by rfl) (fun wz hI hF => ?_) (fun r10 => ?_)
  · unfold Reg.One
    go_wp2_with (go_at_call 13; go_must (refine (h2 _).mono ?_); rintro e w' ⟨rfl, hb5⟩)
    first | exact ⟨_, rfl, ⟨(), rfl, trivial⟩, hb5⟩ | exact ⟨_, rfl, rfl, hb5⟩
  simp only [Act.put, List.setIfInBounds_toArray, List.set_cons_zero, List.set_cons_succ]; (try simp only [List.nil_append]); (try simp only [List.cons_append]); (try simp only [id])
  refine Reg.pass_minor (by rfl) (fun wz hI hF => ?_) (fun r11 => ?_)
  · unfold Reg.One
    have d0 := req_load (k := k9) ((hI.block _ (lt_of_at hR2.out)).trans hR2.out) lB
    go_wp2_with fail
    first | exact ⟨_, rfl, rfl, Reg.Ext.refl _⟩ | exact ⟨_, rfl, ⟨(), rfl, trivial⟩, Reg.Ext.refl _⟩
  simp only [Act.put, List.setIfInBounds_toArray, List.set_cons_zero, List.set_cons_succ]; (try simp only [List.nil_append]); (try simp only [List.cons_append]); (try simp only [id])
  refine Reg.pass_minor (by rfl) (fun wz hI hF => ?_) (fun r12 => ?_)
  · unfold Reg.One
    go_wp2_with (go_at_call 13; go_must (refine (h3 _).mono ?_); rintro e w' ⟨rfl, hb5⟩)
    first | exact ⟨_, rfl, ⟨(), rfl, trivial⟩, hb5⟩ | exact ⟨_, rfl, rfl, hb5⟩
  simp only [Act.put, List.setIfInBounds_toArray, List.set_cons_zero, List.set_cons_succ]; (try simp only [List.nil_append]); (try simp only [List.cons_append]); (try simp only [id])
  repeat (refine' Reg.pass_is _ (by rfl) (fun wz => ?_) ?_; rotate_left; (go_simp; first | rfl | rw [if_neg (by omega)]); simp only [Act.put, List.setIfInBounds_toArray, List.set_cons_zero, List.set_cons_succ]; (try simp only [List.nil_append]); (try simp only [List.cons_append]); (try simp only [id]))
  refine Reg.pass_minor (by rfl) (fun wz hI hF => ?_) (fun r17 => ?_)
  · unfold Reg.One
    have d0 := req_load (k := k9) ((hI.block _ (lt_of_at hR1.out)).trans hR1.out) lA
    go_wp2_with fail
    first | exact ⟨_, rfl, rfl, Reg.Ext.refl _⟩ | exact ⟨_, rfl, ⟨(), rfl, trivial⟩, Reg.Ext.refl _⟩
  simp only [Act.put, List.setIfInBounds_toArray, List.set_cons_zero, List.set_cons_succ]; (try simp only [List.nil_append]); (try simp only [List.cons_append]); (try simp only [id])
  refine Reg.pass_minor (by rfl) (fun wz hI hF => ?_) (fun r18 => ?_)
  · unfold Reg.One
    have d0 := req_load (k := k9) ((hI.block _ (lt_of_at hR1.out)).trans hR1.out) lA
    go_wp2_with fail
    first | exact ⟨_, rfl, rfl, Reg.Ext.refl _⟩ | exact ⟨_, rfl, ⟨(), rfl, trivial⟩, Reg.Ext.refl _⟩
  simp only [Act.put, List.setIfInBounds_toArray, List.set_cons_zero, List.set_cons_succ]; (try simp only [List.nil_append]); (try simp only [List.cons_append]); (try simp only [id])
  refine Reg.pass_minor (by rfl) (fun wz hI hF => ?_) (fun r19 => ?_)
  · unfold Reg.One
    go_wp2_with (go_at_call 13; go_must (refine (h2 _).mono ?_); rintro e w' ⟨rfl, hb5⟩)
    first | exact ⟨_, rfl, ⟨(), rfl, trivial⟩, hb5⟩ | exact ⟨_, rfl, rfl, hb5⟩
  simp only [Act.put, List.setIfInBounds_toArray, List.set_cons_zero, List.set_cons_succ]; (try simp only [List.nil_append]); (try simp only [List.cons_append]); (try simp only [id])
  refine Reg.pass_end ?_
  intro w5 HI5 _ HF5
  clear HF5
  have hb5 := hb1.out.trans (HI5.mono hb1.out.size)
  dsimp only [List.drop]
  go_wp2_with (go_at_call 14; go_must (refine (h5 _).mono ?_); rintro e w' ⟨rfl, h5'⟩)
  have hb6 := hb5.trans (h5'.mono hb5.size)
  go_wp2_with (go_at_call 11; go_must (refine (h6 _).mono ?_); rintro e w' ⟨rfl, h6'⟩)
  go_ret
  exact ⟨rfl, hb6.trans (h6'.mono hb6.size)⟩

end Go.Proofs.Ythofobldpnoclaa
