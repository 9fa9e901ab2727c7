/-
  Own words (any program): cells of a block stored into; a result that is a row of cells in a block of its own. Nothing of a program is said here but its table of types.
-/
import Derived.Test.YtdlfbkiihkhmmaaChecked
import Derived.WalkKit
import Derived.Laws.Rows
namespace Go.Proofs.Ytdlfbkiihkhmmaa
set_option maxRecDepth 8000
open Go.RowKit

/-- A cell of a block, stored into. -/
theorem heap_put {w : World} {g i : Nat} {cs : Array Value} {t : TypeId} {fr : Nat × Nat} (h : w.heap[g]? = some (.cells cs t fr)) (v : Value) : (w.setCell ⟨g, i, none⟩ v).heap[g]? = some (.cells (cs.setIfInBounds i v) t fr) := by
  simp [World.setCell, Array.getElem?_modify, h]
theorem heap_past {w : World} {g : Nat} {o o' : Obj} (h : w.heap[g]? = some o) : (w.alloc o').heap[g]? = some o := by
  have hlt : g < w.heap.size := by
    rcases Nat.lt_or_ge g w.heap.size with h1 | h1
    · exact h1
    · rw [Array.getElem?_eq_none h1] at h; cases h
  exact (Go.heap_alloc_old w o' hlt).trans h

def rowT (d : TypeDesc) : Bool := match d with | .struct _ | .array _ _ => true | _ => false
/-- A result that is a row of cells in a block of its own. -/
theorem ret_row {fn : Func} {K : Ending → World → Prop} {a : Act} {w : World} {p : Tmp} {ty : TypeId} {g : Nat} {t : TypeId} {cs : Array Value} {fr : Nat × Nat} {d : TypeDesc} (h : fn.results = #[.cell p ty]) (hd0 : a.defers = [])
    (hp : a.tmps.getD p undef = .pointer (some ⟨g, 0, none⟩)) (hg : w.heap[g]? = some (.cells cs t fr))
    (hu : Try.prog.underlying ty = some d) (hd : rowT d = true) (hi : (Try.prog.info? ty).map (·.size) = some cs.size)
    (hK : K (.returned (.agg cs)) w) : bodyPost Try.prog fn K .ret a w := bodyPost_ret (results_cell_row h a.tmps w g t cs fr d hp hg hu (by cases d <;> first | rfl | cases hd) hi) hd0 hK

theorem lt_of_at {w : World} {g : Nat} {o : Obj} (h : w.heap[g]? = some o) : g < w.heap.size := by
  rcases Nat.lt_or_ge g w.heap.size with h1 | h1
  · exact h1
  · rw [Array.getElem?_eq_none h1] at h; cases h

theorem setRow_new (W : World) (a b : Array Value) (T : TypeId) : (W.alloc (.cells a T)).setRow W.heap.size b = W.alloc (.cells b T) := by
  have h1 : ∀ o, W.alloc o = { W with heap := W.heap.push o } := fun o => rfl
  rw [h1, h1]
  unfold World.setRow
  have h2 : ∀ f : Obj → Obj, (W.heap.push (.cells a T)).modify W.heap.size f = W.heap.push (f (.cells a T)) := fun f => by
    refine Array.ext (by simp) fun i h1 h2 => ?_
    rw [Array.getElem_modify]
    by_cases e : W.heap.size = i
    · subst e; simp
    · have : i < W.heap.size := by simp at h2; omega
      simp [e, Array.getElem_push, this]
  simp only [h2]

/-- A run of stores that fills a block that has just been made. -/
theorem store_new (W : World) (n : Nat) (cs zs : List Value) (T : TypeId) (hn : n = W.heap.size) (hl : cs.length = zs.length) (h1 : ∀ v ∈ cs, v.oneCell' = true) :
    Sem.run Try.prog (storeCells ⟨n, 0, none⟩ cs 0) (W.alloc (.cells zs.toArray T)) = .ok () (W.alloc (.cells cs.toArray T)) := by
  subst hn
  have hst := run_storeCells_at Try.prog W.heap.size 0 T cs 0 zs.toArray (W.alloc (.cells zs.toArray T)) (heap_alloc_new W _) (by simp [hl]) h1
  simp only [Nat.add_zero] at hst
  rw [hst]
  congr 1
  have e : ((zs.toArray.toList.take 0 ++ cs ++ zs.toArray.toList.drop (0 + cs.length)).toArray) = cs.toArray := by simp [hl]
  rw [e]
  exact setRow_new W _ _ T

end Go.Proofs.Ytdlfbkiihkhmmaa
