/-
  Own walks: the reply that tells of a job, and the one that has given numbers, by the program.
-/
import Derived.Test.YtpdnppncdfialaaRyG
namespace Go.Proofs.Ytpdnppncdfialaa
open Go.RowKit Go.Lib

/-- A reply that lies in a block. -/
def RyAt (w : World) (b : Nat) (r : Ry) : Prop := w.heap[b]? = some (.cells (encY r).toArray 24 (0, 0))
theorem RyAt.at {w : World} {b : Nat} {r : Ry} (h : RyAt w b r) (j : Nat) (u : Value) (hj : (encY r)[j]? = some u) : w.cell? ⟨b, j, none⟩ = some u := by
  simp [World.cell?, show w.heap[b]? = _ from h, hj]
theorem RyAt.free {w : World} {b : Nat} {r : Ry} (h : RyAt w b r) (j : Nat) : w.frozen? ⟨b, j, none⟩ = false := by simp [World.frozen?, show w.heap[b]? = _ from h]
theorem RyAt.below {w w' : World} {b B : Nat} {r : Ry} (h : RyAt w b r) (hb : Below B w w') (hB : b < B) : RyAt w' b r := (hb.block b hB).trans h
theorem RyAt.store {w : World} {b : Nat} {r : Ry} (h : RyAt w b r) (x : Ry) : Sem.run Try.prog (storeCells ⟨b, 0, none⟩ (encY x) 0) w = .ok () (w.setRow b (encY x).toArray) ∧ RyAt (w.setRow b (encY x).toArray) b x := by
  refine ⟨?_, setRow_heap w b _ _ _ _ h⟩
  have hst := run_storeCells_at Try.prog b 0 24 (encY x) 0 (encY r).toArray w h (by simp [encY]) (encY_one x)
  simp only [Nat.add_zero] at hst
  rw [hst]
  rfl
theorem RyAt.put {w : World} {b : Nat} {r r' : Ry} (h : RyAt w b r) (j : Nat) (v : Value) (he : (encY r).toArray.setIfInBounds j v = (encY r').toArray) : RyAt (w.setCell ⟨b, j, none⟩ v) b r' := by
  have := heap_put (i := j) h v
  rw [he] at this
  exact this
theorem RyAt.other {w : World} {b g j : Nat} {v : Value} {r : Ry} (h : RyAt w b r) (hg : b ≠ g) : RyAt (w.setCell ⟨g, j, none⟩ v) b r := (Below.heap_setCell _ _ _ _ hg).trans h
theorem belowCy {B g : Nat} {w0 w : World} (hb : Below B w0 w) (hBg : B ≤ g) (j : Nat) (u : Value) : Below B w0 (w.setCell ⟨g, j, none⟩ u) := hb.trans ((Only.setCell g j w u).below hBg)
theorem belowSy {B g : Nat} {w0 w : World} (hb : Below B w0 w) (hBg : B ≤ g) (cs : Array Value) : Below B w0 (w.setRow g cs) := hb.trans ((⟨rfl, rfl, rfl, by simp, fun k hk => setRow_other w g k _ hk⟩ : Only g w (w.setRow g cs)).below hBg)
theorem RyAt.lt {w : World} {b : Nat} {r : Ry} (h : RyAt w b r) : b < w.heap.size := lt_of_at h

theorem job_cells5 {w : World} {b : Nat} {x3 x5 : Int} (h : RyAt w b ⟨0, 0, 0, 0, 0, 0, x3, x5, 0⟩) (x1 x6 x7 x8 x9 : Int) : RyAt (((((w.setCell ⟨b, 1, none⟩ (.int .i64 x1)).setCell ⟨b, 2, none⟩ (.int .i64 x6)).setCell ⟨b, 3, none⟩ (.int .i64 x7)).setCell ⟨b, 4, none⟩ (.int .i64 x8)).setCell ⟨b, 5, none⟩ (.int .i64 x9)).drew b ⟨0, x1, x6, x7, x8, x9, x3, x5, 0⟩ := by
  have h1 : RyAt (w.setCell ⟨b, 1, none⟩ (.int .i64 x1)) b ⟨0, x1, 0, 0, 0, 0, x3, x5, 0⟩ := h.put 1 _ rfl
  have h2 : RyAt ((w.setCell ⟨b, 1, none⟩ (.int .i64 x1)).setCell ⟨b, 2, none⟩ (.int .i64 x6)) b ⟨0, x1, x6, 0, 0, 0, x3, x5, 0⟩ := h1.put 2 _ rfl
  clear h h1
  generalize (w.setCell ⟨b, 1, none⟩ (.int .i64 x1)).setCell ⟨b, 2, none⟩ (.int .i64 x6) = W at *
  have h3 : RyAt (W.setCell ⟨b, 3, none⟩ (.int .i64 x7)) b ⟨0, x1, x6, x7, 0, 0, x3, x5, 0⟩ := h2.put 3 _ rfl
  have h4 : RyAt ((W.setCell ⟨b, 3, none⟩ (.int .i64 x7)).setCell ⟨b, 4, none⟩ (.int .i64 x8)) b ⟨0, x1, x6, x7, x8, 0, x3, x5, 0⟩ := h3.put 4 _ rfl
  clear h2 h3
  generalize (W.setCell ⟨b, 3, none⟩ (.int .i64 x7)).setCell ⟨b, 4, none⟩ (.int .i64 x8) = V at *
  exact h4.put 5 _ rfl

set_option maxRecDepth 100000 in
set_option maxHeartbeats 8000000 in
theorem Job_fn (j : Jb) (w : World) : Calls Try.prog 10 #[.agg (encJ j).toArray] w fun e w' => e = .returned (.agg (encY (jobY j)).toArray) ∧ Below w.heap.size w w' := by
  have hw := fun W => wants_fn j W
  have ht := fun W => Three_fn j.2.2.1 j.2.2.2.2.1 0 W
  have lJ := encJ_len j
  have zJ := zE_job
  obtain ⟨k10, hk10⟩ : ∃ k, k = 10 := ⟨_, rfl⟩
  rw [← hk10] at lJ zJ
  replace hk10 := Lib.hid hk10
  obtain ⟨wA, hwA⟩ : ∃ wA, wA = (w.alloc (.cells (encJ j).toArray 35)).alloc (.cells (encY zeroY).toArray 24) := ⟨_, rfl⟩
  have hbA : Hid (Below w.heap.size w wA) := by show Below _ _ _; rw [hwA]; exact ((Below.refl _ _).alloc (Nat.le_refl _) _).alloc (by simp) _
  have hsA : wA.heap.size = w.heap.size + 2 := by rw [hwA]; simp
  have hJA : wA.heap[w.heap.size]? = some (.cells (encJ j).toArray 35 (0, 0)) := by rw [hwA]; exact heap_past (heap_alloc_new w _)
  have hRA : RyAt wA (w.heap.size + 1) zeroY := by rw [hwA]; exact heap_alloc2_new w _ _
  have ld := load_box (k := k10) hJA lJ
  rw [hwA] at ld
  replace hsA := Lib.hid hsA
  obtain ⟨x1, x2, x3, x4, x5, x6, x7, x8, x9, x0⟩ := j
  simp only [encJ, encY, zeroY, jobY] at *
  go_enter Try.func10, Try.ntmps10
  go_wp2_with fail
  go_at_call 24
  refine (hw _).mono ?_
  rw [← hwA]
  rintro e w1 ⟨rfl, hb1⟩
  clear hw ld
  go_wp2_with fail
  go_at_call 12
  refine (ht _).mono ?_
  rintro e w2 ⟨rfl, hb2⟩
  clear ht
  obtain ⟨w3, hw3⟩ : ∃ w3, w3 = w2.alloc (.cells #[.int .i64 0, .int .i64 0, .int .i64 0, .int .i64 0, .int .i64 0, .int .i64 0, .int .i64 x3, .int .i64 x5, .int .i64 0] 24) := ⟨_, rfl⟩
  have hb3 : Below wA.heap.size wA w3 := by rw [hw3]; exact (hb1.trans (hb2.mono hb1.size)).alloc (by have := hb1.size; have := hb2.size; omega) _
  have hJ3 : w3.heap[w.heap.size]? = some (.cells (encJ (x1, x2, x3, x4, x5, x6, x7, x8, x9, x0)).toArray 35 (0, 0)) := (hb3.block _ (lt_of_at hJA)).trans hJA
  have hR3 : RyAt w3 (w.heap.size + 1) zeroY := hRA.below hb3 (lt_of_at hRA)
  have hT3 : RyAt w3 w2.heap.size ⟨0, 0, 0, 0, 0, 0, x3, x5, 0⟩ := by rw [hw3]; exact heap_alloc_new w2 _
  have hs2 : Hid (wA.heap.size ≤ w2.heap.size) := by show _ ≤ _; have := hb1.size; have := hb2.size; omega
  have j0 : w3.cell? ⟨w.heap.size, 0, none⟩ = some (.int .i64 x1) := by simp [World.cell?, hJ3, encJ]
  have j5 : w3.cell? ⟨w.heap.size, 5, none⟩ = some (.int .i64 x6) := by simp [World.cell?, hJ3, encJ]
  have j6 : w3.cell? ⟨w.heap.size, 6, none⟩ = some (.int .i64 x7) := by simp [World.cell?, hJ3, encJ]
  have j7 : w3.cell? ⟨w.heap.size, 7, none⟩ = some (.int .i64 x8) := by simp [World.cell?, hJ3, encJ]
  have j8 : w3.cell? ⟨w.heap.size, 8, none⟩ = some (.int .i64 x9) := by simp [World.cell?, hJ3, encJ]
  have t1 := hT3.at 1 (.int .i64 0) rfl
  have t2 := hT3.at 2 (.int .i64 0) rfl
  have t3 := hT3.at 3 (.int .i64 0) rfl
  have t4 := hT3.at 4 (.int .i64 0) rfl
  have t5 := hT3.at 5 (.int .i64 0) rfl
  have f1 := hT3.free 1
  have f2 := hT3.free 2
  have f3 := hT3.free 3
  have f4 := hT3.free 4
  have f5 := hT3.free 5
  have hne : ¬ w.heap.size = w2.heap.size := by have := lt_of_at hJA; have := hs2.out; omega
  replace hJ3 := Lib.hid hJ3
  replace hR3 := Lib.hid hR3
  replace hT3 := Lib.hid hT3
  replace hb3 := Lib.hid hb3
  clear hb1 hb2 hJA hRA
  go_wp2_with fail
  rw [← hw3]
  replace hw3 := Lib.hid hw3
  replace hwA := Lib.hid hwA
  go_region
  obtain ⟨w6, hw6⟩ : ∃ w6, w6 = (((((w3.setCell ⟨w2.heap.size, 1, none⟩ (.int .i64 x1)).setCell ⟨w2.heap.size, 2, none⟩ (.int .i64 x6)).setCell ⟨w2.heap.size, 3, none⟩ (.int .i64 x7)).setCell ⟨w2.heap.size, 4, none⟩ (.int .i64 x8)).setCell ⟨w2.heap.size, 5, none⟩ (.int .i64 x9)).drew := ⟨_, rfl⟩
  have hs3 : w.heap.size + 2 ≤ w2.heap.size := by have := hs2.out; have := hsA.out; omega
  have hT6 : RyAt w6 w2.heap.size ⟨0, x1, x6, x7, x8, x9, x3, x5, 0⟩ := by
    rw [hw6]
    exact job_cells5 hT3.out x1 x6 x7 x8 x9
  have hR6 : RyAt w6 (w.heap.size + 1) zeroY := by
    rw [hw6]
    exact ((((hR3.out.other (by omega)).other (by omega)).other (by omega)).other (by omega)).other (by omega)
  have hb6 : Hid (Below w.heap.size w w6) := by
    show Below _ _ _
    rw [hw6]
    exact (belowCy (belowCy (belowCy (belowCy (belowCy (hbA.out.trans (hb3.out.mono (by have := hsA.out; omega))) (by omega) 1 _) (by omega) 2 _) (by omega) 3 _) (by omega) 4 _) (by omega) 5 _).drew
  rw [← hw6]
  clear hw6
  have zR := zE_ry
  obtain ⟨k9, hk9⟩ : ∃ k, k = 9 := ⟨_, rfl⟩
  rw [← hk9] at zR
  replace hk9 := Lib.hid hk9
  have ld := load_box (k := k9) hT6 (by rw [hk9.out]; rfl)
  obtain ⟨hst, hR7⟩ := hR6.store ⟨0, x1, x6, x7, x8, x9, x3, x5, 0⟩
  have hb7 : Hid (Below w.heap.size w (w6.setRow (w.heap.size + 1) (encY ⟨0, x1, x6, x7, x8, x9, x3, x5, 0⟩).toArray)) := belowSy hb6.out (by omega) _
  have hlY : (encY ⟨0, x1, x6, x7, x8, x9, x3, x5, 0⟩).length = k9 := by rw [hk9.out]; rfl
  have heY : Hid (#[.int .i64 0, .int .i64 x1, .int .i64 x6, .int .i64 x7, .int .i64 x8, .int .i64 x9, .int .i64 x3, .int .i64 x5, .int .i64 0] = (encY ⟨0, x1, x6, x7, x8, x9, x3, x5, 0⟩).toArray) := rfl
  have hR7' : Hid ((w6.setRow (w.heap.size + 1) (encY ⟨0, x1, x6, x7, x8, x9, x3, x5, 0⟩).toArray).heap[w.heap.size + 1]? = some (.cells (encY ⟨0, x1, x6, x7, x8, x9, x3, x5, 0⟩).toArray 24 (0, 0))) := hR7
  clear hR6 hT6 hR7
  have hl9 := Lib.hid (encY_len ⟨0, x1, x6, x7, x8, x9, x3, x5, 0⟩)
  generalize encY ⟨0, x1, x6, x7, x8, x9, x3, x5, 0⟩ = cY at *
  go_wp2_with fail
  (try simp only [Exit.inBlock, Exit.then])
  refine ret_row rfl rfl rfl hR7'.out Try.underlying24 rfl ?_ ⟨by rw [heY.out], hb7.out⟩
  rw [List.size_toArray, hl9.out]
  kernel_rfl
end Go.Proofs.Ytpdnppncdfialaa
