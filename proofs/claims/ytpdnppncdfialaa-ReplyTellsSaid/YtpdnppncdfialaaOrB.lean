/-
  Own walks: the chapter's example, and the statement on two jobs, over what is asked of Compare and Less.
-/
import Derived.Test.YtpdnppncdfialaaOrA
namespace Go.Proofs.Ytpdnppncdfialaa
open Go.RowKit Go.Lib Go.Sort

/-- Draws and new blocks alone. -/
def Gr (w w' : World) : Prop := ∃ q os', w' = grow (w.drewN q) os'
theorem Gr.below {w w' : World} (h : Gr w w') : Below w.heap.size w w' := by
  obtain ⟨q, os, rfl⟩ := h
  exact ⟨rfl, rfl, rfl, by simp, fun k hk => by rw [heap_grow_old _ os (by simpa using hk)]; rfl⟩
theorem Gr.refl (w : World) : Gr w w := ⟨0, #[], by rw [grow_empty]; rfl⟩

/-- A block of its own that holds a job. -/
theorem job_block (w : World) (j : Jb) : ∀ (W : World), Below (w.heap.size + 1) (w.alloc (.cells (encJ j).toArray 35)) W → ∀ i v, (encJ j)[i]? = some v → W.cell? ⟨w.heap.size, i, none⟩ = some v := by
  intro W hb i v hi
  have h0 : (w.alloc (.cells (encJ j).toArray 35)).heap[w.heap.size]? = some (.cells (encJ j).toArray 35 (0, 0)) := heap_alloc_new w _
  have h1 : W.heap[w.heap.size]? = _ := (hb.block _ (by omega)).trans h0
  simp [World.cell?, h1, hi]

end Go.Proofs.Ytpdnppncdfialaa
