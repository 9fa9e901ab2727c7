/-
  Own walk: the statement on which jobs may be asked for.
-/
import Derived.Test.YtmlmehpcfgchgaaJbN
import Derived.Test.YtmlmehpcfgchgaaReg
namespace Go.Proofs.Ytmlmehpcfgchgaa
open Go.RowKit Go.Sort Go.Lib Go.Shelf Put

set_option maxRecDepth 1000000 in
set_option maxHeartbeats 4000000 in
theorem rights_walk (r : Rq) (s : Int) (w : World) : Calls Try.prog 3 #[.agg (encR r).toArray, .int .i64 s] w fun e w' => e = .returned (.bool true) ∧ Below w.heap.size w w' := by
  have hmix := mixedO
  have zR := zE_req
  have lR := encR_len r
  obtain ⟨k9, hk9⟩ : ∃ k, k = 9 := ⟨_, rfl⟩
  rw [← hk9] at zR lR
  replace hk9 := Lib.hid hk9
  have hb1 := (Below.refl w.heap.size w).alloc (Nat.le_refl _) (.cells (encR r).toArray 23)
  have hR1 := heap_alloc_new w (.cells (encR r).toArray 23)
  have h1 := fun W => Right_fn r W
  have h2 := fun W => right_fn r W
  have h3 := fun W => Alive_fn s W
  have h4 := fun W => awake_any W
  unfold aliveF at h3
  generalize rightF r = e1 at *
  have key : ∀ b1 b2 : Bool, decide (1 ≤ s) = b1 → decide (s ≤ 3) = b2 → Calls Try.prog 3 #[.agg (encR r).toArray, .int .i64 s] w fun e w' => e = .returned (.bool true) ∧ Below w.heap.size w w' := by
    intro b1 b2 d1 d2
    rw [d1, d2] at h3
    obtain ⟨wA, hwA⟩ : ∃ wA, wA = w.alloc (.cells (encR r).toArray 23) := ⟨_, rfl⟩
    rw [← hwA] at hb1 hR1
    replace hb1 := Lib.hid hb1
    replace hR1 := Lib.hid hR1
    cases b1 <;> cases b2
    · (try simp only [Bool.and_true] at h3)
      (try simp only [Bool.and_false] at h3)
      (try simp only [Bool.true_and] at h3)
      (try simp only [Bool.false_and] at h3)
      go_enter Try.func3, Try.ntmps3
      go_wp2_with fail
      rw [← hwA]
      refine Reg.region_mk 10 24 [[], [true], [false, false], [true, true, true], [true, true, true, true], [true, true, true, true, true], [true, true, true, true, true, true], [true, true, true, true, true, true, true], [true, true, true, true, true, true, false, false], [true, true, true, true, true, true, false, false, true]] [1, 1, 1, 1, 0, 0, 0, 1, 0, 0]
        [.minor Unit () (fun _ => .agg (encR r).toArray) (fun _ _ => True), .minor Unit () (fun _ => .int .i64 e1) (fun _ _ => True), .minor Unit () (fun _ => .agg (encR r).toArray) (fun _ _ => True), .minor Unit () (fun _ => .int .i64 e1) (fun _ _ => True), .pure, .pure, .pure, .minor Unit () (fun _ => .bool false) (fun _ _ => True), .pure, .pure]
        (fun W => Below wA.heap.size wA W) (fun _ _ => True) (fun a b => Below a.heap.size a b) (by kernel_rfl) (by kernel_rfl) rfl rfl (fun vs a b h hs => trivial) ?_ ?_ ?_ ?_ ?_ ?_
      · intro a b he hb; exact hb.trans (Below.mono he hb.size)
      · intro a b he hb; exact hb.trans (Below.mono he hb.size)
      · exact ⟨⟨fun _ _ _ _ _ => trivial, fun _ _ _ _ _ => trivial⟩, ⟨fun _ _ _ _ _ => trivial, fun _ _ _ _ _ => trivial⟩, ⟨fun _ _ _ _ _ => trivial, fun _ _ _ _ _ => trivial⟩, ⟨fun _ _ _ _ _ => trivial, fun _ _ _ _ _ => trivial⟩, trivial, trivial, trivial, ⟨fun _ _ _ _ _ => trivial, fun _ _ _ _ _ => trivial⟩, trivial, trivial, trivial⟩
      · exact ⟨rfl, rfl, rfl, Nat.le_refl _, fun _ _ => rfl⟩
      · trivial
      dsimp only [Reg.mk, List.zip, List.zipWith, List.take]
      refine Reg.pass_minor (by rfl) (fun wz hI hF => ?_) (fun r0 => ?_)
      · unfold Reg.One
        have d0 := (show Sem.run Try.prog (loadCellsFrom ⟨w.heap.size, 0, none⟩ 0 k9 #[]) wz = .ok (encR r).toArray wz from run_loadCellsFrom_list Try.prog wz _ _ k9 lR fun j u hj => by rw [Go.WideShapes.add_plain]; simpa using req_cells ((hI.block _ (Put.lt_of_heap hR1.out)).trans hR1.out) j u hj)
        go_wp2_with fail
        first | exact ⟨_, rfl, rfl, Reg.Ext.refl _⟩ | exact ⟨_, rfl, ⟨(), rfl, trivial⟩, Reg.Ext.refl _⟩
      simp only [Act.put, List.setIfInBounds_toArray, List.set_cons_zero, List.set_cons_succ]; (try simp only [List.nil_append]); (try simp only [List.cons_append]); (try simp only [id])
      refine Reg.pass_minor (by rfl) (fun wz hI hF => ?_) (fun r1 => ?_)
      · unfold Reg.One
        go_wp2_with (go_at_call 7; go_must (refine (h1 _).mono ?_); rintro e w' ⟨rfl, o, rfl⟩)
        first | exact ⟨_, rfl, ⟨(), rfl, trivial⟩, (Below.refl wz.heap.size wz).alloc (Nat.le_refl _) _⟩ | exact ⟨_, rfl, rfl, (Below.refl wz.heap.size wz).alloc (Nat.le_refl _) _⟩
      simp only [Act.put, List.setIfInBounds_toArray, List.set_cons_zero, List.set_cons_succ]; (try simp only [List.nil_append]); (try simp only [List.cons_append]); (try simp only [id])
      refine Reg.pass_minor (by rfl) (fun wz hI hF => ?_) (fun r2 => ?_)
      · unfold Reg.One
        have d0 := (show Sem.run Try.prog (loadCellsFrom ⟨w.heap.size, 0, none⟩ 0 k9 #[]) wz = .ok (encR r).toArray wz from run_loadCellsFrom_list Try.prog wz _ _ k9 lR fun j u hj => by rw [Go.WideShapes.add_plain]; simpa using req_cells ((hI.block _ (Put.lt_of_heap hR1.out)).trans hR1.out) j u hj)
        go_wp2_with fail
        first | exact ⟨_, rfl, rfl, Reg.Ext.refl _⟩ | exact ⟨_, rfl, ⟨(), rfl, trivial⟩, Reg.Ext.refl _⟩
      simp only [Act.put, List.setIfInBounds_toArray, List.set_cons_zero, List.set_cons_succ]; (try simp only [List.nil_append]); (try simp only [List.cons_append]); (try simp only [id])
      refine Reg.pass_minor (by rfl) (fun wz hI hF => ?_) (fun r3 => ?_)
      · unfold Reg.One
        go_wp2_with (go_at_call 8; go_must (refine (h2 _).mono ?_); rintro e w' ⟨rfl, o, rfl⟩)
        first | exact ⟨_, rfl, ⟨(), rfl, trivial⟩, (Below.refl wz.heap.size wz).alloc (Nat.le_refl _) _⟩ | exact ⟨_, rfl, rfl, (Below.refl wz.heap.size wz).alloc (Nat.le_refl _) _⟩
      simp only [Act.put, List.setIfInBounds_toArray, List.set_cons_zero, List.set_cons_succ]; (try simp only [List.nil_append]); (try simp only [List.cons_append]); (try simp only [id])
      repeat (refine' Reg.pass_is _ (by rfl) (fun wz => ?_) ?_; rotate_left; (go_simp; first | rfl | rw [if_neg (by omega)]); simp only [Act.put, List.setIfInBounds_toArray, List.set_cons_zero, List.set_cons_succ]; (try simp only [List.nil_append]); (try simp only [List.cons_append]); (try simp only [id]))
      refine Reg.pass_minor (by rfl) (fun wz hI hF => ?_) (fun r7 => ?_)
      · unfold Reg.One
        go_wp2_with (go_at_call 9; go_must (refine (h3 _).mono ?_); rintro e w' ⟨rfl, rfl⟩)
        first | exact ⟨_, rfl, rfl, Reg.Ext.refl _⟩ | exact ⟨_, rfl, ⟨(), rfl, trivial⟩, Reg.Ext.refl _⟩
      simp only [Act.put, List.setIfInBounds_toArray, List.set_cons_zero, List.set_cons_succ]; (try simp only [List.nil_append]); (try simp only [List.cons_append]); (try simp only [id])
      refine Reg.pass_is (.int .i64 s) (by rfl) (fun wz => ?_) ?_
      · go_simp
      simp only [Act.put, List.setIfInBounds_toArray, List.set_cons_zero, List.set_cons_succ]; (try simp only [List.nil_append]); (try simp only [List.cons_append]); (try simp only [id])
      refine Reg.pass_is (.bool false) (by rfl) (fun wz => ?_) ?_
      · go_simp
        (try rw [d1])
      simp only [Act.put, List.setIfInBounds_toArray, List.set_cons_zero, List.set_cons_succ]; (try simp only [List.nil_append]); (try simp only [List.cons_append]); (try simp only [id])
      refine Reg.pass_end ?_
      intro w5 HI5 _ HF5
      clear HF5
      have hb5 := hb1.out.trans (HI5.mono hb1.out.size)
      dsimp only [List.drop]
      go_wp2_with (go_at_call 10; go_must (refine (h4 _).mono ?_); rintro e w' ⟨rfl, h5⟩)
      go_ret
      exact ⟨rfl, hb5.trans (h5.mono hb5.size)⟩
    · (try simp only [Bool.and_true] at h3)
      (try simp only [Bool.and_false] at h3)
      (try simp only [Bool.true_and] at h3)
      (try simp only [Bool.false_and] at h3)
      go_enter Try.func3, Try.ntmps3
      go_wp2_with fail
      rw [← hwA]
      refine Reg.region_mk 10 24 [[], [true], [false, false], [true, true, true], [true, true, true, true], [true, true, true, true, true], [true, true, true, true, true, true], [true, true, true, true, true, true, true], [true, true, true, true, true, true, false, false], [true, true, true, true, true, true, false, false, true]] [1, 1, 1, 1, 0, 0, 0, 1, 0, 0]
        [.minor Unit () (fun _ => .agg (encR r).toArray) (fun _ _ => True), .minor Unit () (fun _ => .int .i64 e1) (fun _ _ => True), .minor Unit () (fun _ => .agg (encR r).toArray) (fun _ _ => True), .minor Unit () (fun _ => .int .i64 e1) (fun _ _ => True), .pure, .pure, .pure, .minor Unit () (fun _ => .bool false) (fun _ _ => True), .pure, .pure]
        (fun W => Below wA.heap.size wA W) (fun _ _ => True) (fun a b => Below a.heap.size a b) (by kernel_rfl) (by kernel_rfl) rfl rfl (fun vs a b h hs => trivial) ?_ ?_ ?_ ?_ ?_ ?_
      · intro a b he hb; exact hb.trans (Below.mono he hb.size)
      · intro a b he hb; exact hb.trans (Below.mono he hb.size)
      · exact ⟨⟨fun _ _ _ _ _ => trivial, fun _ _ _ _ _ => trivial⟩, ⟨fun _ _ _ _ _ => trivial, fun _ _ _ _ _ => trivial⟩, ⟨fun _ _ _ _ _ => trivial, fun _ _ _ _ _ => trivial⟩, ⟨fun _ _ _ _ _ => trivial, fun _ _ _ _ _ => trivial⟩, trivial, trivial, trivial, ⟨fun _ _ _ _ _ => trivial, fun _ _ _ _ _ => trivial⟩, trivial, trivial, trivial⟩
      · exact ⟨rfl, rfl, rfl, Nat.le_refl _, fun _ _ => rfl⟩
      · trivial
      dsimp only [Reg.mk, List.zip, List.zipWith, List.take]
      refine Reg.pass_minor (by rfl) (fun wz hI hF => ?_) (fun r0 => ?_)
      · unfold Reg.One
        have d0 := (show Sem.run Try.prog (loadCellsFrom ⟨w.heap.size, 0, none⟩ 0 k9 #[]) wz = .ok (encR r).toArray wz from run_loadCellsFrom_list Try.prog wz _ _ k9 lR fun j u hj => by rw [Go.WideShapes.add_plain]; simpa using req_cells ((hI.block _ (Put.lt_of_heap hR1.out)).trans hR1.out) j u hj)
        go_wp2_with fail
        first | exact ⟨_, rfl, rfl, Reg.Ext.refl _⟩ | exact ⟨_, rfl, ⟨(), rfl, trivial⟩, Reg.Ext.refl _⟩
      simp only [Act.put, List.setIfInBounds_toArray, List.set_cons_zero, List.set_cons_succ]; (try simp only [List.nil_append]); (try simp only [List.cons_append]); (try simp only [id])
      refine Reg.pass_minor (by rfl) (fun wz hI hF => ?_) (fun r1 => ?_)
      · unfold Reg.One
        go_wp2_with (go_at_call 7; go_must (refine (h1 _).mono ?_); rintro e w' ⟨rfl, o, rfl⟩)
        first | exact ⟨_, rfl, ⟨(), rfl, trivial⟩, (Below.refl wz.heap.size wz).alloc (Nat.le_refl _) _⟩ | exact ⟨_, rfl, rfl, (Below.refl wz.heap.size wz).alloc (Nat.le_refl _) _⟩
      simp only [Act.put, List.setIfInBounds_toArray, List.set_cons_zero, List.set_cons_succ]; (try simp only [List.nil_append]); (try simp only [List.cons_append]); (try simp only [id])
      refine Reg.pass_minor (by rfl) (fun wz hI hF => ?_) (fun r2 => ?_)
      · unfold Reg.One
        have d0 := (show Sem.run Try.prog (loadCellsFrom ⟨w.heap.size, 0, none⟩ 0 k9 #[]) wz = .ok (encR r).toArray wz from run_loadCellsFrom_list Try.prog wz _ _ k9 lR fun j u hj => by rw [Go.WideShapes.add_plain]; simpa using req_cells ((hI.block _ (Put.lt_of_heap hR1.out)).trans hR1.out) j u hj)
        go_wp2_with fail
        first | exact ⟨_, rfl, rfl, Reg.Ext.refl _⟩ | exact ⟨_, rfl, ⟨(), rfl, trivial⟩, Reg.Ext.refl _⟩
      simp only [Act.put, List.setIfInBounds_toArray, List.set_cons_zero, List.set_cons_succ]; (try simp only [List.nil_append]); (try simp only [List.cons_append]); (try simp only [id])
      refine Reg.pass_minor (by rfl) (fun wz hI hF => ?_) (fun r3 => ?_)
      · unfold Reg.One
        go_wp2_with (go_at_call 8; go_must (refine (h2 _).mono ?_); rintro e w' ⟨rfl, o, rfl⟩)
        first | exact ⟨_, rfl, ⟨(), rfl, trivial⟩, (Below.refl wz.heap.size wz).alloc (Nat.le_refl _) _⟩ | exact ⟨_, rfl, rfl, (Below.refl wz.heap.size wz).alloc (Nat.le_refl _) _⟩
      simp only [Act.put, List.setIfInBounds_toArray, List.set_cons_zero, List.set_cons_succ]; (try simp only [List.nil_append]); (try simp only [List.cons_append]); (try simp only [id])
      repeat (refine' Reg.pass_is _ (by rfl) (fun wz => ?_) ?_; rotate_left; (go_simp; first | rfl | rw [if_neg (by omega)]); simp only [Act.put, List.setIfInBounds_toArray, List.set_cons_zero, List.set_cons_succ]; (try simp only [List.nil_append]); (try simp only [List.cons_append]); (try simp only [id]))
      refine Reg.pass_minor (by rfl) (fun wz hI hF => ?_) (fun r7 => ?_)
      · unfold Reg.One
        go_wp2_with (go_at_call 9; go_must (refine (h3 _).mono ?_); rintro e w' ⟨rfl, rfl⟩)
        first | exact ⟨_, rfl, rfl, Reg.Ext.refl _⟩ | exact ⟨_, rfl, ⟨(), rfl, trivial⟩, Reg.Ext.refl _⟩
      simp only [Act.put, List.setIfInBounds_toArray, List.set_cons_zero, List.set_cons_succ]; (try simp only [List.nil_append]); (try simp only [List.cons_append]); (try simp only [id])
      refine Reg.pass_is (.int .i64 s) (by rfl) (fun wz => ?_) ?_
      · go_simp
      simp only [Act.put, List.setIfInBounds_toArray, List.set_cons_zero, List.set_cons_succ]; (try simp only [List.nil_append]); (try simp only [List.cons_append]); (try simp only [id])
      refine Reg.pass_is (.bool false) (by rfl) (fun wz => ?_) ?_
      · go_simp
        (try rw [d1])
      simp only [Act.put, List.setIfInBounds_toArray, List.set_cons_zero, List.set_cons_succ]; (try simp only [List.nil_append]); (try simp only [List.cons_append]); (try simp only [id])
      refine Reg.pass_end ?_
      intro w5 HI5 _ HF5
      clear HF5
      have hb5 := hb1.out.trans (HI5.mono hb1.out.size)
      dsimp only [List.drop]
      go_wp2_with (go_at_call 10; go_must (refine (h4 _).mono ?_); rintro e w' ⟨rfl, h5⟩)
      go_ret
      exact ⟨rfl, hb5.trans (h5.mono hb5.size)⟩
    · (try simp only [Bool.and_true] at h3)
      (try simp only [Bool.and_false] at h3)
      (try simp only [Bool.true_and] at h3)
      (try simp only [Bool.false_and] at h3)
      go_enter Try.func3, Try.ntmps3
      go_wp2_with fail
      rw [← hwA]
      refine Reg.region_mk 10 24 [[], [true], [false, false], [true, true, true], [true, true, true, true], [true, true, true, true, true], [true, true, true, true, true, true], [true, true, true, true, true, true, true], [true, true, true, true, true, true, false, false], [true, true, true, true, true, true, false, false, true]] [1, 1, 1, 1, 0, 0, 0, 1, 0, 0]
        [.minor Unit () (fun _ => .agg (encR r).toArray) (fun _ _ => True), .minor Unit () (fun _ => .int .i64 e1) (fun _ _ => True), .minor Unit () (fun _ => .agg (encR r).toArray) (fun _ _ => True), .minor Unit () (fun _ => .int .i64 e1) (fun _ _ => True), .pure, .pure, .pure, .minor Unit () (fun _ => .bool false) (fun _ _ => True), .pure, .pure]
        (fun W => Below wA.heap.size wA W) (fun _ _ => True) (fun a b => Below a.heap.size a b) (by kernel_rfl) (by kernel_rfl) rfl rfl (fun vs a b h hs => trivial) ?_ ?_ ?_ ?_ ?_ ?_
      · intro a b he hb; exact hb.trans (Below.mono he hb.size)
      · intro a b he hb; exact hb.trans (Below.mono he hb.size)
      · exact ⟨⟨fun _ _ _ _ _ => trivial, fun _ _ _ _ _ => trivial⟩, ⟨fun _ _ _ _ _ => trivial, fun _ _ _ _ _ => trivial⟩, ⟨fun _ _ _ _ _ => trivial, fun _ _ _ _ _ => trivial⟩, ⟨fun _ _ _ _ _ => trivial, fun _ _ _ _ _ => trivial⟩, trivial, trivial, trivial, ⟨fun _ _ _ _ _ => trivial, fun _ _ _ _ _ => trivial⟩, trivial, trivial, trivial⟩
      · exact ⟨rfl, rfl, rfl, Nat.le_refl _, fun _ _ => rfl⟩
      · trivial
      dsimp only [Reg.mk, List.zip, List.zipWith, List.take]
      refine Reg.pass_minor (by rfl) (fun wz hI hF => ?_) (fun r0 => ?_)
      · unfold Reg.One
        have d0 := (show Sem.run Try.prog (loadCellsFrom ⟨w.heap.size, 0, none⟩ 0 k9 #[]) wz = .ok (encR r).toArray wz from run_loadCellsFrom_list Try.prog wz _ _ k9 lR fun j u hj => by rw [Go.WideShapes.add_plain]; simpa using req_cells ((hI.block _ (Put.lt_of_heap hR1.out)).trans hR1.out) j u hj)
        go_wp2_with fail
        first | exact ⟨_, rfl, rfl, Reg.Ext.refl _⟩ | exact ⟨_, rfl, ⟨(), rfl, trivial⟩, Reg.Ext.refl _⟩
      simp only [Act.put, List.setIfInBounds_toArray, List.set_cons_zero, List.set_cons_succ]; (try simp only [List.nil_append]); (try simp only [List.cons_append]); (try simp only [id])
      refine Reg.pass_minor (by rfl) (fun wz hI hF => ?_) (fun r1 => ?_)
      · unfold Reg.One
        go_wp2_with (go_at_call 7; go_must (refine (h1 _).mono ?_); rintro e w' ⟨rfl, o, rfl⟩)
        first | exact ⟨_, rfl, ⟨(), rfl, trivial⟩, (Below.refl wz.heap.size wz).alloc (Nat.le_refl _) _⟩ | exact ⟨_, rfl, rfl, (Below.refl wz.heap.size wz).alloc (Nat.le_refl _) _⟩
      simp only [Act.put, List.setIfInBounds_toArray, List.set_cons_zero, List.set_cons_succ]; (try simp only [List.nil_append]); (try simp only [List.cons_append]); (try simp only [id])
      refine Reg.pass_minor (by rfl) (fun wz hI hF => ?_) (fun r2 => ?_)
      · unfold Reg.One
        have d0 := (show Sem.run Try.prog (loadCellsFrom ⟨w.heap.size, 0, none⟩ 0 k9 #[]) wz = .ok (encR r).toArray wz from run_loadCellsFrom_list Try.prog wz _ _ k9 lR fun j u hj => by rw [Go.WideShapes.add_plain]; simpa using req_cells ((hI.block _ (Put.lt_of_heap hR1.out)).trans hR1.out) j u hj)
        go_wp2_with fail
        first | exact ⟨_, rfl, rfl, Reg.Ext.refl _⟩ | exact ⟨_, rfl, ⟨(), rfl, trivial⟩, Reg.Ext.refl _⟩
      simp only [Act.put, List.setIfInBounds_toArray, List.set_cons_zero, List.set_cons_succ]; (try simp only [List.nil_append]); (try simp only [List.cons_append]); (try simp only [id])
      refine Reg.pass_minor (by rfl) (fun wz hI hF => ?_) (fun r3 => ?_)
      · unfold Reg.One
        go_wp2_with (go_at_call 8; go_must (refine (h2 _).mono ?_); rintro e w' ⟨rfl, o, rfl⟩)
        first | exact ⟨_, rfl, ⟨(), rfl, trivial⟩, (Below.refl wz.heap.size wz).alloc (Nat.le_refl _) _⟩ | exact ⟨_, rfl, rfl, (Below.refl wz.heap.size wz).alloc (Nat.le_refl _) _⟩
      simp only [Act.put, List.setIfInBounds_toArray, List.set_cons_zero, List.set_cons_succ]; (try simp only [List.nil_append]); (try simp only [List.cons_append]); (try simp only [id])
      repeat (refine' Reg.pass_is _ (by rfl) (fun wz => ?_) ?_; rotate_left; (go_simp; first | rfl | rw [if_neg (by omega)]); simp only [Act.put, List.setIfInBounds_toArray, List.set_cons_zero, List.set_cons_succ]; (try simp only [List.nil_append]); (try simp only [List.cons_append]); (try simp only [id]))
      refine Reg.pass_minor (by rfl) (fun wz hI hF => ?_) (fun r7 => ?_)
      · unfold Reg.One
        go_wp2_with (go_at_call 9; go_must (refine (h3 _).mono ?_); rintro e w' ⟨rfl, rfl⟩)
        first | exact ⟨_, rfl, rfl, Reg.Ext.refl _⟩ | exact ⟨_, rfl, ⟨(), rfl, trivial⟩, Reg.Ext.refl _⟩
      simp only [Act.put, List.setIfInBounds_toArray, List.set_cons_zero, List.set_cons_succ]; (try simp only [List.nil_append]); (try simp only [List.cons_append]); (try simp only [id])
      refine Reg.pass_is (.int .i64 s) (by rfl) (fun wz => ?_) ?_
      · go_simp
      simp only [Act.put, List.setIfInBounds_toArray, List.set_cons_zero, List.set_cons_succ]; (try simp only [List.nil_append]); (try simp only [List.cons_append]); (try simp only [id])
      refine Reg.pass_is (.bool true) (by rfl) (fun wz => ?_) ?_
      · go_simp
        (try rw [d1])
      simp only [Act.put, List.setIfInBounds_toArray, List.set_cons_zero, List.set_cons_succ]; (try simp only [List.nil_append]); (try simp only [List.cons_append]); (try simp only [id])
      refine Reg.pass_end ?_
      intro w5 HI5 _ HF5
      clear HF5
      have hb5 := hb1.out.trans (HI5.mono hb1.out.size)
      dsimp only [List.drop]
      go_wp2_with (go_at_call 10; go_must (refine (h4 _).mono ?_); rintro e w' ⟨rfl, h5⟩)
      go_ret
      exact ⟨rfl, hb5.trans (h5.mono hb5.size)⟩
    · (try simp only [Bool.and_true] at h3)
      (try simp only [Bool.and_false] at h3)
      (try simp only [Bool.true_and] at h3)
      (try simp only [Bool.false_and] at h3)
      go_enter Try.func3, Try.ntmps3
      go_wp2_with fail
      rw [← hwA]
      refine Reg.region_mk 10 24 [[], [true], [false, false], [true, true, true], [true, true, true, true], [true, true, true, true, true], [true, true, true, true, true, true], [true, true, true, true, true, true, true], [true, true, true, true, true, true, false, false], [true, true, true, true, true, true, false, false, true]] [1, 1, 1, 1, 0, 0, 0, 1, 0, 0]
        [.minor Unit () (fun _ => .agg (encR r).toArray) (fun _ _ => True), .minor Unit () (fun _ => .int .i64 e1) (fun _ _ => True), .minor Unit () (fun _ => .agg (encR r).toArray) (fun _ _ => True), .minor Unit () (fun _ => .int .i64 e1) (fun _ _ => True), .pure, .pure, .pure, .minor Unit () (fun _ => .bool true) (fun _ _ => True), .pure, .pure]
        (fun W => Below wA.heap.size wA W) (fun _ _ => True) (fun a b => Below a.heap.size a b) (by kernel_rfl) (by kernel_rfl) rfl rfl (fun vs a b h hs => trivial) ?_ ?_ ?_ ?_ ?_ ?_
      · intro a b he hb; exact hb.trans (Below.mono he hb.size)
      · intro a b he hb; exact hb.trans (Below.mono he hb.size)
      · exact ⟨⟨fun _ _ _ _ _ => trivial, fun _ _ _ _ _ => trivial⟩, ⟨fun _ _ _ _ _ => trivial, fun _ _ _ _ _ => trivial⟩, ⟨fun _ _ _ _ _ => trivial, fun _ _ _ _ _ => trivial⟩, ⟨fun _ _ _ _ _ => trivial, fun _ _ _ _ _ => trivial⟩, trivial, trivial, trivial, ⟨fun _ _ _ _ _ => trivial, fun _ _ _ _ _ => trivial⟩, trivial, trivial, trivial⟩
      · exact ⟨rfl, rfl, rfl, Nat.le_refl _, fun _ _ => rfl⟩
      · trivial
      dsimp only [Reg.mk, List.zip, List.zipWith, List.take]
      refine Reg.pass_minor (by rfl) (fun wz hI hF => ?_) (fun r0 => ?_)
      · unfold Reg.One
        have d0 := (show Sem.run Try.prog (loadCellsFrom ⟨w.heap.size, 0, none⟩ 0 k9 #[]) wz = .ok (encR r).toArray wz from run_loadCellsFrom_list Try.prog wz _ _ k9 lR fun j u hj => by rw [Go.WideShapes.add_plain]; simpa using req_cells ((hI.block _ (Put.lt_of_heap hR1.out)).trans hR1.out) j u hj)
        go_wp2_with fail
        first | exact ⟨_, rfl, rfl, Reg.Ext.refl _⟩ | exact ⟨_, rfl, ⟨(), rfl, trivial⟩, Reg.Ext.refl _⟩
      simp only [Act.put, List.setIfInBounds_toArray, List.set_cons_zero, List.set_cons_succ]; (try simp only [List.nil_append]); (try simp only [List.cons_append]); (try simp only [id])
      refine Reg.pass_minor (by rfl) (fun wz hI hF => ?_) (fun r1 => ?_)
      · unfold Reg.One
        go_wp2_with (go_at_call 7; go_must (refine (h1 _).mono ?_); rintro e w' ⟨rfl, o, rfl⟩)
        first | exact ⟨_, rfl, ⟨(), rfl, trivial⟩, (Below.refl wz.heap.size wz).alloc (Nat.le_refl _) _⟩ | exact ⟨_, rfl, rfl, (Below.refl wz.heap.size wz).alloc (Nat.le_refl _) _⟩
      simp only [Act.put, List.setIfInBounds_toArray, List.set_cons_zero, List.set_cons_succ]; (try simp only [List.nil_append]); (try simp only [List.cons_append]); (try simp only [id])
      refine Reg.pass_minor (by rfl) (fun wz hI hF => ?_) (fun r2 => ?_)
      · unfold Reg.One
        have d0 := (show Sem.run Try.prog (loadCellsFrom ⟨w.heap.size, 0, none⟩ 0 k9 #[]) wz = .ok (encR r).toArray wz from run_loadCellsFrom_list Try.prog wz _ _ k9 lR fun j u hj => by rw [Go.WideShapes.add_plain]; simpa using req_cells ((hI.block _ (Put.lt_of_heap hR1.out)).trans hR1.out) j u hj)
        go_wp2_with fail
        first | exact ⟨_, rfl, rfl, Reg.Ext.refl _⟩ | exact ⟨_, rfl, ⟨(), rfl, trivial⟩, Reg.Ext.refl _⟩
      simp only [Act.put, List.setIfInBounds_toArray, List.set_cons_zero, List.set_cons_succ]; (try simp only [List.nil_append]); (try simp only [List.cons_append]); (try simp only [id])
      refine Reg.pass_minor (by rfl) (fun wz hI hF => ?_) (fun r3 => ?_)
      · unfold Reg.One
        go_wp2_with (go_at_call 8; go_must (refine (h2 _).mono ?_); rintro e w' ⟨rfl, o, rfl⟩)
        first | exact ⟨_, rfl, ⟨(), rfl, trivial⟩, (Below.refl wz.heap.size wz).alloc (Nat.le_refl _) _⟩ | exact ⟨_, rfl, rfl, (Below.refl wz.heap.size wz).alloc (Nat.le_refl _) _⟩
      simp only [Act.put, List.setIfInBounds_toArray, List.set_cons_zero, List.set_cons_succ]; (try simp only [List.nil_append]); (try simp only [List.cons_append]); (try simp only [id])
      repeat (refine' Reg.pass_is _ (by rfl) (fun wz => ?_) ?_; rotate_left; (go_simp; first | rfl | rw [if_neg (by omega)]); simp only [Act.put, List.setIfInBounds_toArray, List.set_cons_zero, List.set_cons_succ]; (try simp only [List.nil_append]); (try simp only [List.cons_append]); (try simp only [id]))
      refine Reg.pass_minor (by rfl) (fun wz hI hF => ?_) (fun r7 => ?_)
      · unfold Reg.One
        go_wp2_with (go_at_call 9; go_must (refine (h3 _).mono ?_); rintro e w' ⟨rfl, rfl⟩)
        first | exact ⟨_, rfl, rfl, Reg.Ext.refl _⟩ | exact ⟨_, rfl, ⟨(), rfl, trivial⟩, Reg.Ext.refl _⟩
      simp only [Act.put, List.setIfInBounds_toArray, List.set_cons_zero, List.set_cons_succ]; (try simp only [List.nil_append]); (try simp only [List.cons_append]); (try simp only [id])
      refine Reg.pass_is (.int .i64 s) (by rfl) (fun wz => ?_) ?_
      · go_simp
      simp only [Act.put, List.setIfInBounds_toArray, List.set_cons_zero, List.set_cons_succ]; (try simp only [List.nil_append]); (try simp only [List.cons_append]); (try simp only [id])
      refine Reg.pass_is (.bool true) (by rfl) (fun wz => ?_) ?_
      · go_simp
        (try rw [d1])
      simp only [Act.put, List.setIfInBounds_toArray, List.set_cons_zero, List.set_cons_succ]; (try simp only [List.nil_append]); (try simp only [List.cons_append]); (try simp only [id])
      refine Reg.pass_end ?_
      intro w5 HI5 _ HF5
      clear HF5
      have hb5 := hb1.out.trans (HI5.mono hb1.out.size)
      dsimp only [List.drop]
      go_wp2_with (go_at_call 10; go_must (refine (h4 _).mono ?_); rintro e w' ⟨rfl, h5⟩)
      go_ret
      exact ⟨rfl, hb5.trans (h5.mono hb5.size)⟩
  exact key _ _ rfl rfl

end Go.Proofs.Ytmlmehpcfgchgaa
