/-
  Own walks: the program's locks: lane, Every, Needs, Is, Reads, and the statement's own table of them.
-/
import Derived.WalkKit
import Derived.WalkSpells
import Derived.WalkLawsBesides
import Derived.Lib.Hide
import Derived.Lib.MinMax
import Derived.Test.YtdlfbkiihkhmmaaChecked
import Derived.Laws.Rows
import Derived.Test.YtdlfbkiihkhmmaaRow
import Derived.Test.YtdlfbkiihkhmmaaCel
namespace Go.Proofs.Ytdlfbkiihkhmmaa
set_option maxRecDepth 8000
open Go.RowKit Go.Lib

def enO (x : Int) : List Value := [.int .i64 x]

/-- A new block of numbers is a list of them. -/
theorem nums_new (w : World) (b : Nat) (l : List Int) (hb : b = w.heap.size) (hl : l.length ≤ 1000) : RowAt enO 1 (w.alloc (.cells (l.flatMap enO).toArray 3)) (.slice (some ⟨b, 0, none⟩) l.length l.length) l := by
  subst hb
  have hlen : (l.flatMap enO).length = l.length := by
    clear hl
    induction l with
    | nil => rfl
    | cons a l ih => rw [List.flatMap_cons, List.length_append, ih, List.length_cons]; simp [enO]; omega
  have hnew := heap_alloc_new w (.cells (l.flatMap enO).toArray 3)
  refine ⟨_, _, rfl, Nat.le_refl _, by unfold maxLen; omega, fun hp => ⟨w.heap.size, 0, rfl, by simp, fun i s j u hi hj => ?_⟩⟩
  have hj0 : j = 0 := by
    have := (List.getElem?_eq_some_iff.1 hj).1
    simp [enO] at this
    exact this
  subst hj0
  have key : ∀ (l : List Int) (i : Nat), l[i]? = some s → (l.flatMap enO)[i]? = some u := by
    intro l
    induction l with
    | nil => intro i hi; simp at hi
    | cons a l ih =>
      intro i hi
      rcases i with _ | i
      · simp at hi
        subst hi
        simpa [enO] using hj
      · have := ih i (by simpa using hi)
        simpa [List.flatMap_cons, enO] using this
  have h2 := key l i hi
  simp only [World.cell?, hnew, Nat.zero_add, Nat.mul_one, Nat.add_zero]
  simpa using h2

/-- Which locks a lane has. -/
def laneV (a b c : Bool) : Value := .agg #[.bool a, .bool b, .bool c]
def inL (l : List Int) (j : Int) : Bool := decide (j ∈ l)

end Go.Proofs.Ytdlfbkiihkhmmaa
