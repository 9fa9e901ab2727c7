/-
  Own walks: the reply that has nine given numbers, by the program.
-/
import Derived.Test.YtpdnppncdfialaaRyH
namespace Go.Proofs.Ytpdnppncdfialaa
open Go.RowKit Go.Lib

theorem whole_cells {w : World} {b : Nat} {x7 x8 x9 : Int} (h : RyAt w b ⟨0, 0, 0, 0, 0, 0, x7, x8, x9⟩) (x1 x2 x3 : Int) : RyAt (((w.setCell ⟨b, 0, none⟩ (.int .i64 x1)).setCell ⟨b, 1, none⟩ (.int .i64 x2)).setCell ⟨b, 2, none⟩ (.int .i64 x3)).drew b ⟨x1, x2, x3, 0, 0, 0, x7, x8, x9⟩ := by
  have h1 : RyAt (w.setCell ⟨b, 0, none⟩ (.int .i64 x1)) b ⟨x1, 0, 0, 0, 0, 0, x7, x8, x9⟩ := h.put 0 _ rfl
  clear h
  generalize w.setCell ⟨b, 0, none⟩ (.int .i64 x1) = W at *
  have h2 : RyAt (W.setCell ⟨b, 1, none⟩ (.int .i64 x2)) b ⟨x1, x2, 0, 0, 0, 0, x7, x8, x9⟩ := h1.put 1 _ rfl
  clear h1
  generalize W.setCell ⟨b, 1, none⟩ (.int .i64 x2) = V at *
  exact h2.put 2 _ rfl
theorem whole_cells2 {w : World} {b : Nat} {x1 x2 x3 x7 x8 x9 : Int} (h : RyAt w b ⟨x1, x2, x3, 0, 0, 0, x7, x8, x9⟩) (x4 x5 x6 : Int) : RyAt (((w.setCell ⟨b, 3, none⟩ (.int .i64 x4)).setCell ⟨b, 4, none⟩ (.int .i64 x5)).setCell ⟨b, 5, none⟩ (.int .i64 x6)).drew b ⟨x1, x2, x3, x4, x5, x6, x7, x8, x9⟩ := by
  have h1 : RyAt (w.setCell ⟨b, 3, none⟩ (.int .i64 x4)) b ⟨x1, x2, x3, x4, 0, 0, x7, x8, x9⟩ := h.put 3 _ rfl
  clear h
  generalize w.setCell ⟨b, 3, none⟩ (.int .i64 x4) = W at *
  have h2 : RyAt (W.setCell ⟨b, 4, none⟩ (.int .i64 x5)) b ⟨x1, x2, x3, x4, x5, 0, x7, x8, x9⟩ := h1.put 4 _ rfl
  clear h1
  generalize W.setCell ⟨b, 4, none⟩ (.int .i64 x5) = V at *
  exact h2.put 5 _ rfl

set_option maxRecDepth 100000 in
set_option maxHeartbeats 8000000 in
theorem whole_fn (r : Ry) (w : World) : Calls Try.prog 22 #[.agg (cellsY r)] w fun e w' => e = .returned (.agg (encY r).toArray) ∧ Below w.heap.size w w' := by
  have ht := fun W => Three_fn r.a r.b r.c W
  obtain ⟨wA, hwA⟩ : ∃ wA, wA = (w.alloc (.cells (cellsY r) 40)).alloc (.cells (encY zeroY).toArray 24) := ⟨_, rfl⟩
  have hbA : Hid (Below w.heap.size w wA) := by show Below _ _ _; rw [hwA]; exact ((Below.refl _ _).alloc (Nat.le_refl _) _).alloc (by simp) _
  have hsA : wA.heap.size = w.heap.size + 2 := by rw [hwA]; simp
  have hJA : wA.heap[w.heap.size]? = some (.cells (cellsY r) 40 (0, 0)) := by rw [hwA]; exact heap_past (heap_alloc_new w _)
  have hRA : RyAt wA (w.heap.size + 1) zeroY := by rw [hwA]; exact heap_alloc2_new w _ _
  replace hsA := Lib.hid hsA
  obtain ⟨x1, x2, x3, x4, x5, x6, x7, x8, x9⟩ := r
  have p6 : wA.cell? ⟨w.heap.size, 6, none⟩ = some (.int .i64 x7) := by simp [World.cell?, hJA, cellsY]
  have p7 : wA.cell? ⟨w.heap.size, 7, none⟩ = some (.int .i64 x8) := by simp [World.cell?, hJA, cellsY]
  have p8 : wA.cell? ⟨w.heap.size, 8, none⟩ = some (.int .i64 x9) := by simp [World.cell?, hJA, cellsY]
  rw [hwA] at p6 p7 p8
  simp only [cellsY, encY, zeroY] at *
  go_enter Try.func22, Try.ntmps22
  go_wp2_with fail
  go_at_call 12
  refine (ht _).mono ?_
  rw [← hwA]
  rintro e w2 ⟨rfl, hb2⟩
  clear ht p6 p7 p8
  obtain ⟨w3, hw3⟩ : ∃ w3, w3 = w2.alloc (.cells #[.int .i64 0, .int .i64 0, .int .i64 0, .int .i64 0, .int .i64 0, .int .i64 0, .int .i64 x7, .int .i64 x8, .int .i64 x9] 24) := ⟨_, rfl⟩
  have hb3 : Below wA.heap.size wA w3 := by rw [hw3]; exact hb2.alloc (by have := hb2.size; omega) _
  have hJ3 : w3.heap[w.heap.size]? = some (.cells (cellsY ⟨x1, x2, x3, x4, x5, x6, x7, x8, x9⟩) 40 (0, 0)) := (hb3.block _ (lt_of_at hJA)).trans hJA
  have hR3 : RyAt w3 (w.heap.size + 1) zeroY := hRA.below hb3 (lt_of_at hRA)
  have hT3 : RyAt w3 w2.heap.size ⟨0, 0, 0, 0, 0, 0, x7, x8, x9⟩ := by rw [hw3]; exact heap_alloc_new w2 _
  have hs2 : Hid (wA.heap.size ≤ w2.heap.size) := hb2.size
  have j0 : w3.cell? ⟨w.heap.size, 0, none⟩ = some (.int .i64 x1) := by simp [World.cell?, hJ3, cellsY]
  have j1 : w3.cell? ⟨w.heap.size, 1, none⟩ = some (.int .i64 x2) := by simp [World.cell?, hJ3, cellsY]
  have j2 : w3.cell? ⟨w.heap.size, 2, none⟩ = some (.int .i64 x3) := by simp [World.cell?, hJ3, cellsY]
  have t0 := hT3.at 0 (.int .i64 0) rfl
  have t1 := hT3.at 1 (.int .i64 0) rfl
  have t2 := hT3.at 2 (.int .i64 0) rfl
  have f0 := hT3.free 0
  have f1 := hT3.free 1
  have f2 := hT3.free 2
  have hne : ¬ w.heap.size = w2.heap.size := by have := lt_of_at hJA; have := hs2.out; omega
  replace hne := Lib.hid hne
  replace hJ3 := Lib.hid hJ3
  replace hR3 := Lib.hid hR3
  replace hT3 := Lib.hid hT3
  replace hb3 := Lib.hid hb3
  clear hb2 hJA hRA
  go_wp2_with fail
  rw [← hw3]
  replace hw3 := Lib.hid hw3
  replace hwA := Lib.hid hwA
  go_region
  have hs3 : w.heap.size + 2 ≤ w2.heap.size := by have := hs2.out; have := hsA.out; omega
  obtain ⟨w4, hw4⟩ : ∃ w4, w4 = (((w3.setCell ⟨w2.heap.size, 0, none⟩ (.int .i64 x1)).setCell ⟨w2.heap.size, 1, none⟩ (.int .i64 x2)).setCell ⟨w2.heap.size, 2, none⟩ (.int .i64 x3)).drew := ⟨_, rfl⟩
  have hT4 : RyAt w4 w2.heap.size ⟨x1, x2, x3, 0, 0, 0, x7, x8, x9⟩ := by rw [hw4]; exact whole_cells hT3.out x1 x2 x3
  have hR4 : RyAt w4 (w.heap.size + 1) zeroY := by
    rw [hw4]
    exact ((hR3.out.other (by omega)).other (by omega)).other (by omega)
  have hJ4 : w4.heap[w.heap.size]? = some (.cells (cellsY ⟨x1, x2, x3, x4, x5, x6, x7, x8, x9⟩) 40 (0, 0)) := by
    rw [hw4]
    refine (Below.heap_setCell _ _ _ _ hne.out).trans ((Below.heap_setCell _ _ _ _ hne.out).trans ((Below.heap_setCell _ _ _ _ hne.out).trans hJ3.out))
  have hb4 : Hid (Below w.heap.size w w4) := by
    show Below _ _ _
    rw [hw4]
    exact (belowCy (belowCy (belowCy (hbA.out.trans (hb3.out.mono (by have := hsA.out; omega))) (by omega) 0 _) (by omega) 1 _) (by omega) 2 _).drew
  rw [← hw4]
  clear hw4 j0 j1 j2 t0 t1 t2 f0 f1 f2
  have j3 : w4.cell? ⟨w.heap.size, 3, none⟩ = some (.int .i64 x4) := by simp [World.cell?, hJ4, cellsY]
  have j4 : w4.cell? ⟨w.heap.size, 4, none⟩ = some (.int .i64 x5) := by simp [World.cell?, hJ4, cellsY]
  have j5 : w4.cell? ⟨w.heap.size, 5, none⟩ = some (.int .i64 x6) := by simp [World.cell?, hJ4, cellsY]
  have t3 := hT4.at 3 (.int .i64 0) rfl
  have t4 := hT4.at 4 (.int .i64 0) rfl
  have t5 := hT4.at 5 (.int .i64 0) rfl
  have f3 := hT4.free 3
  have f4 := hT4.free 4
  have f5 := hT4.free 5
  replace hR4 := Lib.hid hR4
  replace hT4 := Lib.hid hT4
  replace hJ4 := Lib.hid hJ4
  go_wp2_with fail
  go_region
  obtain ⟨w6, hw6⟩ : ∃ w6, w6 = (((w4.setCell ⟨w2.heap.size, 3, none⟩ (.int .i64 x4)).setCell ⟨w2.heap.size, 4, none⟩ (.int .i64 x5)).setCell ⟨w2.heap.size, 5, none⟩ (.int .i64 x6)).drew := ⟨_, rfl⟩
  have hT6 : RyAt w6 w2.heap.size ⟨x1, x2, x3, x4, x5, x6, x7, x8, x9⟩ := by rw [hw6]; exact whole_cells2 hT4.out x4 x5 x6
  have hR6 : RyAt w6 (w.heap.size + 1) zeroY := by
    rw [hw6]
    exact ((hR4.out.other (by omega)).other (by omega)).other (by omega)
  have hb6 : Hid (Below w.heap.size w w6) := by
    show Below _ _ _
    rw [hw6]
    exact (belowCy (belowCy (belowCy hb4.out (by omega) 3 _) (by omega) 4 _) (by omega) 5 _).drew
  rw [← hw6]
  clear hw6 j3 j4 j5 t3 t4 t5 f3 f4 f5
  have zR := zE_ry
  obtain ⟨k9, hk9⟩ : ∃ k, k = 9 := ⟨_, rfl⟩
  rw [← hk9] at zR
  replace hk9 := Lib.hid hk9
  have ld := load_box (k := k9) hT6 (by rw [hk9.out]; rfl)
  obtain ⟨hst, hR7⟩ := hR6.store ⟨x1, x2, x3, x4, x5, x6, x7, x8, x9⟩
  have hb7 : Hid (Below w.heap.size w (w6.setRow (w.heap.size + 1) (encY ⟨x1, x2, x3, x4, x5, x6, x7, x8, x9⟩).toArray)) := belowSy hb6.out (by omega) _
  have hlY : (encY ⟨x1, x2, x3, x4, x5, x6, x7, x8, x9⟩).length = k9 := by rw [hk9.out]; rfl
  have heY : Hid (#[.int .i64 x1, .int .i64 x2, .int .i64 x3, .int .i64 x4, .int .i64 x5, .int .i64 x6, .int .i64 x7, .int .i64 x8, .int .i64 x9] = (encY ⟨x1, x2, x3, x4, x5, x6, x7, x8, x9⟩).toArray) := rfl
  have hR7' : Hid ((w6.setRow (w.heap.size + 1) (encY ⟨x1, x2, x3, x4, x5, x6, x7, x8, x9⟩).toArray).heap[w.heap.size + 1]? = some (.cells (encY ⟨x1, x2, x3, x4, x5, x6, x7, x8, x9⟩).toArray 24 (0, 0))) := hR7
  clear hR6 hT6 hR7
  have hl9 := Lib.hid (encY_len ⟨x1, x2, x3, x4, x5, x6, x7, x8, x9⟩)
  generalize encY ⟨x1, x2, x3, x4, x5, x6, x7, x8, x9⟩ = cY at *
  go_wp2_with fail
  (try simp only [Exit.inBlock, Exit.then])
  refine ret_row rfl rfl rfl hR7'.out Try.underlying24 rfl ?_ ⟨by rw [heY.out], hb7.out⟩
  rw [List.size_toArray, hl9.out]
  kernel_rfl

theorem specT : TellSpec where
  job := Job_fn
  fail := Fail_fn
  three := Three_fn

end Go.Proofs.Ytpdnppncdfialaa
