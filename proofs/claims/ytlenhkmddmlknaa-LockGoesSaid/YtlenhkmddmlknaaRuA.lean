/-
  Own walks: the program's locks: lane, Every, Needs, Is, Reads, and the statement's own table of them.
-/
import Derived.WalkKit
import Derived.WalkSpells
import Derived.WalkLawsBesides
import Derived.Lib.Hide
import Derived.Lib.MinMax
import Derived.Test.YtlenhkmddmlknaaChecked
import Derived.Laws.Rows
import Derived.Test.YtlenhkmddmlknaaRow
import Derived.Test.YtlenhkmddmlknaaCel
namespace Go.Proofs.Ytlenhkmddmlknaa
set_option maxRecDepth 8000
open Go.RowKit Go.Lib

def enO (x : Int) : List Value := [.int .i64 x]

/-- A new block of numbers is a list of them. -/
theorem nums_new (w : World) (b : Nat) (l : List Int) (hb : b = w.heap.size) (hl : l.length ≤ 1000) : RowAt enO 1 (w.alloc (.cells (l.flatMap enO).toArray 3)) (.slice (some ⟨b, 0, none⟩) l.length l.length) l := by
  subst hb
  have hlen : (l.flatMap enO).length = l.length := by
    clear hl
    induction l with
    | nil => rfl
    | cons a l ih => rw [List.flatMap_cons, List.length_append, ih, List.length_cons]; simp [enO]; omega
  have hnew := heap_alloc_new w (.cells (l.flatMap enO).toArray 3)
  refine ⟨_, _, rfl, Nat.le_refl _, by unfold maxLen; omega, fun hp => ⟨w.heap.size, 0, rfl, by simp, fun i s j u hi hj => ?_⟩⟩
  have hj0 : j = 0 := by
    have := (List.getElem?_eq_some_iff.1 hj).1
    simp [enO] at this
    exact this
  subst hj0
  have key : ∀ (l : List Int) (i : Nat), l[i]? = some s → (l.flatMap enO)[i]? = some u := by
    intro l
    induction l with
    | nil => intro i hi; simp at hi
    | cons a l ih =>
      intro i hi
      rcases i with _ | i
      · simp at hi
        subst hi
        simpa [enO] using hj
      · have := ih i (by simpa using hi)
        simpa [List.flatMap_cons, enO] using this
  have h2 := key l i hi
  simp only [World.cell?, hnew, Nat.zero_add, Nat.mul_one, Nat.add_zero]
  simpa using h2

/-- Which locks a lane has. -/
def laneV (a b c : Bool) : Value := .agg #[.bool a, .bool b, .bool c]
def inL (l : List Int) (j : Int) : Bool := decide (j ∈ l)

/-- Three cells of a block that can be stored into. -/
structure Three (w : World) (g : Nat) : Prop where
  h : w.heap[g]? = some (.cells #[.bool false, .bool false, .bool false] 36 (0, 0))
theorem Three.below {w w' : World} {g B : Nat} (h : Three w g) (hb : Below B w w') (hg : g < B) : Three w' g := ⟨(hb.block g hg).trans h.h⟩
theorem Three.cell {w : World} {g : Nat} (h : Three w g) : (w.cell? ⟨g, 0, none⟩ = some (.bool false) ∧ w.cell? ⟨g, 1, none⟩ = some (.bool false) ∧ w.cell? ⟨g, 2, none⟩ = some (.bool false)) ∧ w.frozen? ⟨g, 0, none⟩ = false ∧ w.frozen? ⟨g, 1, none⟩ = false ∧ w.frozen? ⟨g, 2, none⟩ = false := by
  have := h.h
  refine ⟨⟨?_, ?_, ?_⟩, ?_, ?_, ?_⟩ <;> simp [World.cell?, World.frozen?, this]
theorem Three.put {w : World} {g : Nat} (h : Three w g) (a b c : Bool) : (((w.setCell ⟨g, 0, none⟩ (.bool a)).setCell ⟨g, 1, none⟩ (.bool b)).setCell ⟨g, 2, none⟩ (.bool c)).heap[g]? = some (.cells #[.bool a, .bool b, .bool c] 36 (0, 0)) :=
  heap_put (heap_put (heap_put h.h _) _) _
theorem three_new (w : World) : Three (w.alloc (.cells #[.bool false, .bool false, .bool false] 36)) w.heap.size := ⟨heap_alloc_new w _⟩

end Go.Proofs.Ytlenhkmddmlknaa
