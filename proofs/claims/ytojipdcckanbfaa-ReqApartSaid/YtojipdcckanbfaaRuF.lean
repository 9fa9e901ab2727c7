/-
  Own walks: when two requests are the same; the statement on requests with just what their kinds have.
-/
import Derived.Test.YtojipdcckanbfaaRuE
namespace Go.Proofs.Ytojipdcckanbfaa
open Go.RowKit Go.Lib

set_option maxRecDepth 1000000 in
set_option maxHeartbeats 4000000 in
theorem Same_fn (a b : Rq) (w : World) : Calls Try.prog 13 #[.agg (encR a).toArray, .agg (encR b).toArray] w fun e w' => e = .returned (.bool (decide (cleanR a = cleanR b))) ∧ Below w.heap.size w w' := by
  have zR := zE_req
  have lA := encR_len a
  have lB := encR_len b
  obtain ⟨k9, hk9⟩ : ∃ k, k = 9 := ⟨_, rfl⟩
  rw [← hk9] at zR lA lB
  replace hk9 := Lib.hid hk9
  obtain ⟨wA, hwA⟩ : ∃ wA, wA = (w.alloc (.cells (encR a).toArray 23)).alloc (.cells (encR b).toArray 23) := ⟨_, rfl⟩
  have hb1 : Hid (Below w.heap.size w wA) := by show Below _ _ _; rw [hwA]; exact ((Below.refl _ _).alloc (Nat.le_refl _) _).alloc (by simp) _
  have hR1 : Hid (wA.heap[w.heap.size]? = some (.cells (encR a).toArray 23 (0, 0))) := by show _ = _; rw [hwA]; exact heap_past (heap_alloc_new w _)
  have hR2 : Hid (wA.heap[w.heap.size + 1]? = some (.cells (encR b).toArray 23 (0, 0))) := by show _ = _; rw [hwA]; exact heap_alloc2_new w _ _
  have h1 := fun W => Clean_fn a W
  have h2 := fun W => Clean_fn b W
  have hq := fun W => req_eql (cleanR a) (cleanR b) W
  have hg := req_guard
  generalize decide (cleanR a = cleanR b) = q at *
  generalize encR (cleanR a) = cA at *
  generalize encR (cleanR b) = cB at *
  go_enter Try.func13, Try.ntmps13
  go_wp2_with fail
  rw [← hwA]
  refine Reg.region_mk 3 10 [[], [true], [false, false]] [1, 1, 1]
    [.minor Unit () (fun _ => .agg (encR a).toArray) (fun _ _ => True), .minor Unit () (fun _ => .agg cA.toArray) (fun _ _ => True), .minor Unit () (fun _ => .agg (encR b).toArray) (fun _ _ => True)]
    (fun W => Below wA.heap.size wA W) (fun _ _ => True) (fun a b => Below a.heap.size a b) (by kernel_rfl) (by kernel_rfl) rfl rfl (fun vs a b h hs => trivial) ?_ ?_ ?_ ?_ ?_ ?_
  · intro a b he hb; exact hb.trans (Below.mono he hb.size)
  · intro a b he hb; exact hb.trans (Below.mono he hb.size)
  · exact ⟨⟨fun _ _ _ _ _ => trivial, fun _ _ _ _ _ => trivial⟩, ⟨fun _ _ _ _ _ => trivial, fun _ _ _ _ _ => trivial⟩, ⟨fun _ _ _ _ _ => trivial, fun _ _ _ _ _ => trivial⟩, trivial⟩
  · exact ⟨rfl, rfl, rfl, Nat.le_refl _, fun _ _ => rfl⟩
  · trivial
  dsimp only [Reg.mk, List.zip, List.zipWith, List.take]
  refine Reg.pass_minor (by rfl) (fun wz hI hF => ?_) (fun r0 => ?_)
  · unfold Reg.One
    have d0 := req_load (k := k9) ((hI.block _ (lt_of_at hR1.out)).trans hR1.out) lA
    go_wp2_with fail
    first | exact ⟨_, rfl, rfl, Reg.Ext.refl _⟩ | exact ⟨_, rfl, ⟨(), rfl, trivial⟩, Reg.Ext.refl _⟩
  simp only [Act.put, List.setIfInBounds_toArray, List.set_cons_zero, List.set_cons_succ]; (try simp only [List.nil_append]); (try simp only [List.cons_append]); (try simp only [id])
  refine Reg.pass_minor (by rfl) (fun wz hI hF => ?_) (fun r1 => ?_)
  · unfold Reg.One
    go_wp2_with (go_at_call 12; go_must (refine (h1 _).mono ?_); rintro e w' ⟨rfl, hb5⟩)
    first | exact ⟨_, rfl, ⟨(), rfl, trivial⟩, hb5⟩ | exact ⟨_, rfl, rfl, hb5⟩
  simp only [Act.put, List.setIfInBounds_toArray, List.set_cons_zero, List.set_cons_succ]; (try simp only [List.nil_append]); (try simp only [List.cons_append]); (try simp only [id])
  refine Reg.pass_minor (by rfl) (fun wz hI hF => ?_) (fun r2 => ?_)
  · unfold Reg.One
    have d0 := req_load (k := k9) ((hI.block _ (lt_of_at hR2.out)).trans hR2.out) lB
    go_wp2_with fail
    first | exact ⟨_, rfl, rfl, Reg.Ext.refl _⟩ | exact ⟨_, rfl, ⟨(), rfl, trivial⟩, Reg.Ext.refl _⟩
  simp only [Act.put, List.setIfInBounds_toArray, List.set_cons_zero, List.set_cons_succ]; (try simp only [List.nil_append]); (try simp only [List.cons_append]); (try simp only [id])
  refine Reg.pass_end ?_
  intro w5 HI5 _ HF5
  clear HF5
  have hb5 := hb1.out.trans (HI5.mono hb1.out.size)
  dsimp only [List.drop]
  go_wp2_with (go_at_call 12; go_must (refine (h2 _).mono ?_); rintro e w' ⟨rfl, h5⟩)
  go_ret
  exact ⟨rfl, hb5.trans (h5.mono hb5.size)⟩

end Go.Proofs.Ytojipdcckanbfaa
