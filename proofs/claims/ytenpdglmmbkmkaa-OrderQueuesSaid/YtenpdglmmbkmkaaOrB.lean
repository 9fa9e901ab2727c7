/-
  Own walks: the chapter's example, and the statement on two jobs, over what is asked of Compare and Less.
-/
import Derived.Test.YtenpdglmmbkmkaaOrA
namespace Go.Proofs.Ytenpdglmmbkmkaa
open Go.RowKit Go.Lib Go.Sort

/-- Draws and new blocks alone. -/
def Gr (w w' : World) : Prop := ∃ q os', w' = grow (w.drewN q) os'
theorem Gr.below {w w' : World} (h : Gr w w') : Below w.heap.size w w' := by
  obtain ⟨q, os, rfl⟩ := h
  exact ⟨rfl, rfl, rfl, by simp, fun k hk => by rw [heap_grow_old _ os (by simpa using hk)]; rfl⟩
theorem Gr.refl (w : World) : Gr w w := ⟨0, #[], by rw [grow_empty]; rfl⟩

/-- What is asked of the program's comparisons. -/
structure OrdSpec : Prop where
  cmp : ∀ (a b : Jb) (w : World), Calls Try.prog 8 #[.agg (encJ a).toArray, .agg (encJ b).toArray] w fun e w' => e = .returned (.int .i64 (cmpJ a b)) ∧ Gr w w'
  less : ∀ (a b : Jb) (w : World), Calls Try.prog 9 #[.agg (encJ a).toArray, .agg (encJ b).toArray] w fun e w' => e = .returned (.bool (aheadJ a b)) ∧ Gr w w'

/-- A block of its own that holds a job. -/
theorem job_block (w : World) (j : Jb) : ∀ (W : World), Below (w.heap.size + 1) (w.alloc (.cells (encJ j).toArray 24)) W → ∀ i v, (encJ j)[i]? = some v → W.cell? ⟨w.heap.size, i, none⟩ = some v := by
  intro W hb i v hi
  have h0 : (w.alloc (.cells (encJ j).toArray 24)).heap[w.heap.size]? = some (.cells (encJ j).toArray 24 (0, 0)) := heap_alloc_new w _
  have h1 : W.heap[w.heap.size]? = _ := (hb.block _ (by omega)).trans h0
  simp [World.cell?, h1, hi]

set_option maxRecDepth 100000 in
set_option maxHeartbeats 1000000 in
theorem awake_any (S : OrdSpec) (w : World) : Calls Try.prog 10 #[] w fun e w' => e = .returned (.bool true) ∧ Below w.heap.size w w' := by
  have l1 := fun W => S.less (2, 0, 0, 0, 5, 0, 0, 0, 0, 0) (3, 0, 0, 0, 5, 0, 0, 0, 0, 0) W
  have l2 := fun W => S.less (2, 0, 0, 0, 5, 0, 0, 0, 0, 0) (1, 0, 0, 0, 4, 0, 0, 0, 0, 0) W
  have l3 := fun W => S.less (2, 0, 0, 0, 5, 0, 0, 0, 0, 0) (2, 0, 0, 0, 5, 0, 0, 0, 0, 0) W
  rw [show aheadJ (2, 0, 0, 0, 5, 0, 0, 0, 0, 0) (3, 0, 0, 0, 5, 0, 0, 0, 0, 0) = true by decide] at l1
  rw [show aheadJ (2, 0, 0, 0, 5, 0, 0, 0, 0, 0) (1, 0, 0, 0, 4, 0, 0, 0, 0, 0) = true by decide] at l2
  rw [show aheadJ (2, 0, 0, 0, 5, 0, 0, 0, 0, 0) (2, 0, 0, 0, 5, 0, 0, 0, 0, 0) = false by decide] at l3
  simp only [encJ] at l1 l2 l3
  have hb0 : Below w.heap.size w (w.alloc (.cells (encJ (2, 0, 0, 0, 5, 0, 0, 0, 0, 0)).toArray 24)) := (Below.refl _ _).alloc (Nat.le_refl _) _
  have jb := job_block w (2, 0, 0, 0, 5, 0, 0, 0, 0, 0)
  simp only [encJ] at jb hb0
  have hsz : (w.alloc (.cells #[.int .i64 2, .int .i64 0, .int .i64 0, .int .i64 0, .int .i64 5, .int .i64 0, .int .i64 0, .int .i64 0, .int .i64 0, .int .u64 0] 24)).heap.size = w.heap.size + 1 := by simp
  obtain ⟨w1, hw1⟩ : ∃ w1, w1 = w.alloc (.cells #[.int .i64 2, .int .i64 0, .int .i64 0, .int .i64 0, .int .i64 5, .int .i64 0, .int .i64 0, .int .i64 0, .int .i64 0, .int .u64 0] 24) := ⟨_, rfl⟩
  go_enter Try.func10, Try.ntmps10
  go_wp2_with fail
  go_at_call 9
  refine (l1 _).mono ?_
  clear l1
  rintro e w2 ⟨rfl, h2⟩
  rw [← hw1] at hb0 jb hsz h2
  have g2 := h2.below
  rw [hsz] at g2
  have c2 := jb w2 g2
  have k0 := c2 0 _ rfl
  have k1 := c2 1 _ rfl
  have k2 := c2 2 _ rfl
  have k3 := c2 3 _ rfl
  have k4 := c2 4 _ rfl
  have k5 := c2 5 _ rfl
  have k6 := c2 6 _ rfl
  have k7 := c2 7 _ rfl
  have k8 := c2 8 _ rfl
  have k9 := c2 9 _ rfl
  clear c2
  go_wp2_with fail
  go_at_call 9
  refine (l2 _).mono ?_
  clear l2 k0 k1 k2 k3 k4 k5 k6 k7 k8 k9
  rintro e w3 ⟨rfl, h3⟩
  have g3 : Below (w.heap.size + 1) w1 w3 := g2.trans (h3.below.mono (by have := g2.size; omega))
  have c2 := jb w3 g3
  have k0 := c2 0 _ rfl
  have k1 := c2 1 _ rfl
  have k2 := c2 2 _ rfl
  have k3 := c2 3 _ rfl
  have k4 := c2 4 _ rfl
  have k5 := c2 5 _ rfl
  have k6 := c2 6 _ rfl
  have k7 := c2 7 _ rfl
  have k8 := c2 8 _ rfl
  have k9 := c2 9 _ rfl
  clear c2
  go_wp2_with fail
  go_at_call 9
  refine (l3 _).mono ?_
  clear l3 k0 k1 k2 k3 k4 k5 k6 k7 k8 k9
  rintro e w4 ⟨rfl, h4⟩
  have g4 : Below (w.heap.size + 1) w1 w4 := g3.trans (h4.below.mono (by have := g3.size; omega))
  have hfin : Below w.heap.size w w4 := hb0.trans (g4.mono (by omega))
  clear g2 g3 g4 h2 h3 h4 jb
  go_wp2_with fail
  go_ret
  exact ⟨rfl, hfin⟩

end Go.Proofs.Ytenpdglmmbkmkaa
