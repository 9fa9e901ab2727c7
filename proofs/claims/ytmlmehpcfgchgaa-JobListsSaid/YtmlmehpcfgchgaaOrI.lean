/-
  Contracts of the program's comparisons.
-/
import Derived.Test.YtmlmehpcfgchgaaOrH
import Derived.Deep.RegionWith
import Derived.StillTailTactics
namespace Go.Proofs.Ytmlmehpcfgchgaa
open Go.RowKit Go.Lib Go.Sort

theorem cell_first (x y : Value) (t : Nat) (n : Nat) (W : World) (hn : n = W.heap.size) : (W.alloc (.cells #[x, y] t)).cell? ⟨n, 0, none⟩ = some x := by
  subst hn
  have h : (W.alloc (.cells #[x, y] t)).heap[W.heap.size]? = some (.cells #[x, y] t) := heap_alloc_new W _
  unfold World.cell?
  rw [h]
  rfl

theorem cell_second (x y : Value) (t : Nat) (n : Nat) (W : World) (hn : n = W.heap.size) : (W.alloc (.cells #[x, y] t)).cell? ⟨n, 1, none⟩ = some y := by
  subst hn
  have h : (W.alloc (.cells #[x, y] t)).heap[W.heap.size]? = some (.cells #[x, y] t) := heap_alloc_new W _
  unfold World.cell?
  rw [h]
  rfl

theorem two_new (w : World) (o1 o2 : Obj) : ((w.alloc o1).alloc o2).heap.size = w.heap.size + 2 ∧ ((w.alloc o1).alloc o2).heap[w.heap.size]? = some o1 ∧ ((w.alloc o1).alloc o2).heap[w.heap.size + 1]? = some o2 := by
  refine ⟨by simp, ?_, ?_⟩
  · rw [Below.heap_alloc _ _ _ (by simp)]; exact heap_alloc_new w o1
  · have := heap_alloc_new (w.alloc o1) o2
    rwa [show (w.alloc o1).heap.size = w.heap.size + 1 from by simp] at this

set_option maxRecDepth 100000 in
set_option maxHeartbeats 2000000 in
theorem Compare_fn (a b : Jb) (w : World) : Calls Try.prog 42 #[.agg (encJ a).toArray, .agg (encJ b).toArray] w fun e w' => e = .returned (.int .i64 (cmpJ a b)) ∧ Gr w w' := by
  rw [← cmp_both]
  have hg : ∀ o1 o2 o3 : Obj, Gr w (((w.alloc o1).alloc o2).drew.alloc o3) := fun o1 o2 o3 => ⟨1, #[o1] ++ #[o2] ++ #[o3], by
    rw [Go.Sort.alloc_eq_grow, Go.Sort.alloc_eq_grow, Go.Sort.alloc_eq_grow, ← Go.Sort.grow_grow, ← Go.Sort.grow_grow]; rfl⟩
  obtain ⟨x1, x2, x3, x4, x5, x6, x7, x8, x9, x0⟩ := a
  obtain ⟨y1, y2, y3, y4, y5, y6, y7, y8, y9, y0⟩ := b
  have hmix := (by kernel_rfl : Try.prog.follows .mixedOrders = true)
  unfold Jb.prio Jb.id
  simp only [encJ]
  have c1 := fun W => (cmpInt_fn y5 x5 W).mono fun e w1 h => (⟨h.1, h.2.symm⟩ : _ ∧ w1 = W)
  have c2 := fun W => (cmpInt_fn x1 y1 W).mono fun e w1 h => (⟨h.1, h.2.symm⟩ : _ ∧ w1 = W)
  have ho := fun (n : Nat) (W : World) (hn : n = W.heap.size) => or2_fn (cmpI y5 x5) (cmpI x1 y1) n 2 (W.alloc (.cells #[.int .i64 (cmpI y5 x5), .int .i64 (cmpI x1 y1)] 3)) (cell_first _ _ _ _ _ hn) (cell_second _ _ _ _ _ hn)
  generalize cmpI y5 x5 = r1 at *
  generalize cmpI x1 y1 = r2 at *
  generalize (if r1 = 0 then r2 else r1) = rr at *
  have HO := Lib.hid ho
  clear ho
  have C1 := Lib.hid c1
  have C2 := Lib.hid c2
  clear c1 c2
  go_enter Try.func42, Try.ntmps42
  go_wp2_with fail
  have H2 := two_new w (.cells #[.int .i64 x1, .int .i64 x2, .int .i64 x3, .int .i64 x4, .int .i64 x5, .int .i64 x6, .int .i64 x7, .int .i64 x8, .int .i64 x9, .int .u64 x0] 52) (.cells #[.int .i64 y1, .int .i64 y2, .int .i64 y3, .int .i64 y4, .int .i64 y5, .int .i64 y6, .int .i64 y7, .int .i64 y8, .int .i64 y9, .int .u64 y0] 52)
  have hg2 := fun o3 => hg (.cells #[.int .i64 x1, .int .i64 x2, .int .i64 x3, .int .i64 x4, .int .i64 x5, .int .i64 x6, .int .i64 x7, .int .i64 x8, .int .i64 x9, .int .u64 x0] 52) (.cells #[.int .i64 y1, .int .i64 y2, .int .i64 y3, .int .i64 y4, .int .i64 y5, .int .i64 y6, .int .i64 y7, .int .i64 y8, .int .i64 y9, .int .u64 y0] 52) o3
  clear hg
  generalize ((w.alloc (.cells #[.int .i64 x1, .int .i64 x2, .int .i64 x3, .int .i64 x4, .int .i64 x5, .int .i64 x6, .int .i64 x7, .int .i64 x8, .int .i64 x9, .int .u64 x0] 52)).alloc (.cells #[.int .i64 y1, .int .i64 y2, .int .i64 y3, .int .i64 y4, .int .i64 y5, .int .i64 y6, .int .i64 y7, .int .i64 y8, .int .i64 y9, .int .u64 y0] 52)) = wr at *
  obtain ⟨hsz, hA, hB⟩ := H2
  have lx1 : wr.drew.cell? ⟨w.heap.size, 0, none⟩ = some (.int .i64 x1) := by
    show wr.cell? _ = _
    unfold World.cell?
    rw [hA]; rfl
  have lx5 : wr.drew.cell? ⟨w.heap.size, 4, none⟩ = some (.int .i64 x5) := by
    show wr.cell? _ = _
    unfold World.cell?
    rw [hA]; rfl
  have ly1 : wr.drew.cell? ⟨w.heap.size + 1, 0, none⟩ = some (.int .i64 y1) := by
    show wr.cell? _ = _
    unfold World.cell?
    rw [hB]; rfl
  have ly5 : wr.drew.cell? ⟨w.heap.size + 1, 4, none⟩ = some (.int .i64 y5) := by
    show wr.cell? _ = _
    unfold World.cell?
    rw [hB]; rfl
  clear hA hB
  replace hsz := Lib.hid hsz
  replace hg2 := Lib.hid hg2
  refine wp_region_still_tail 10 hmix (by kernel_rfl) ?_
  simp only [List.take_succ_cons, List.take_zero, List.drop_succ_cons, List.drop_zero]
  change wpStill _ _ wr.drew _ _ _
  still_step
  still_step
  still_step
  still_step
  still_call (C1.out _)
  still_step
  still_step
  still_step
  still_step
  still_call (C2.out _)
  refine wpStill_nil ?_
  change wpList _ _ _ _ _ wr.drew
  generalize wr.drew = w2 at *
  go_wp2_with (go_at_call 44; refine (HO.out _ _ ?_).mono ?_; rotate_left; rintro e w' ⟨rfl, rfl⟩)
  · go_ret
    exact ⟨rfl, hg2.out _⟩
  · rfl

theorem Gr_trans {a b c : World} (h : Gr a b) (k : Gr b c) : Gr a c := by
  obtain ⟨q, os, rfl⟩ := h
  obtain ⟨q', os', rfl⟩ := k
  refine ⟨q + q', os ++ os', ?_⟩
  rw [← Go.Sort.grow_grow]
  simp [Go.Sort.grow, World.drewN, Nat.add_assoc]

theorem two_gr (w : World) (o1 o2 : Obj) : Gr w ((w.alloc o1).alloc o2) := ⟨0, #[o1] ++ #[o2], by
  rw [Go.Sort.alloc_eq_grow, Go.Sort.alloc_eq_grow, ← Go.Sort.grow_grow]; rfl⟩

end Go.Proofs.Ytmlmehpcfgchgaa
