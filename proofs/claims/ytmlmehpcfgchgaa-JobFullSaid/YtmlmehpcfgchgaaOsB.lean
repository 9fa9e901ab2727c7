/-
  Contract of the program's Behind.
-/
import Derived.Test.YtmlmehpcfgchgaaOsA
namespace Go.Proofs.Ytmlmehpcfgchgaa
open Go.RowKit Go.Lib Go.Sort

theorem setRow_new (W : World) (a b : Array Value) (T : TypeId) : (W.alloc (.cells a T)).setRow W.heap.size b = W.alloc (.cells b T) := by
  have h1 : ∀ o, W.alloc o = { W with heap := W.heap.push o } := fun o => rfl
  rw [h1, h1]
  unfold World.setRow
  have h2 : ∀ f : Obj → Obj, (W.heap.push (.cells a T)).modify W.heap.size f = W.heap.push (f (.cells a T)) := fun f => by
    refine Array.ext (by simp) fun i h1 h2 => ?_
    rw [Array.getElem_modify]
    by_cases e : W.heap.size = i
    · subst e; simp
    · have : i < W.heap.size := by simp at h2; omega
      simp [e, Array.getElem_push, this]
  simp only [h2]

/-- What lies in a block that holds a job. -/
theorem job_cells {W : World} {p : Nat} {x : Jb} (h : W.heap[p]? = some (.cells (encJ x).toArray 52 (0, 0))) : ∀ j u, (encJ x)[j]? = some u → W.cell? ⟨p, j, none⟩ = some u := by
  intro j u hj
  simp [World.cell?, h, hj]

/-- A run of stores that fills a block that has just been made. -/
theorem store_new (W : World) (n : Nat) (cs zs : List Value) (T : TypeId) (hn : n = W.heap.size) (hl : cs.length = zs.length) (h1 : ∀ v ∈ cs, v.oneCell' = true) :
    Sem.run Try.prog (storeCells ⟨n, 0, none⟩ cs 0) (W.alloc (.cells zs.toArray T)) = .ok () (W.alloc (.cells cs.toArray T)) := by
  subst hn
  have hst := run_storeCells_at Try.prog W.heap.size 0 T cs 0 zs.toArray (W.alloc (.cells zs.toArray T)) (heap_alloc_new W _) (by simp [hl]) h1
  simp only [Nat.add_zero] at hst
  rw [hst]
  congr 1
  have e : ((zs.toArray.toList.take 0 ++ cs ++ zs.toArray.toList.drop (0 + cs.length)).toArray) = cs.toArray := by simp [hl]
  rw [e]
  exact setRow_new W _ _ T

end Go.Proofs.Ytmlmehpcfgchgaa
