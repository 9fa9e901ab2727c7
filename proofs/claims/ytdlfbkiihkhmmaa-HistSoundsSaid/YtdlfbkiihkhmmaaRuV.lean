/-
  Own walks: a lane as an argument; the statement on the next lock and how many there are.
-/
import Derived.Test.YtdlfbkiihkhmmaaRuN
import Derived.Laws.IdiomArrays
import Derived.ProofKit
import Derived.OpenShut
namespace Go.Proofs.Ytdlfbkiihkhmmaa
set_option maxRecDepth 8000
open Go.RowKit Go.Lib
open Go.ChangeShapes Go.WideShapes Go.ChangeAt Go.Deep

/-- An array of three truths by value. -/
theorem lane_of {H : Type} {enc : TypeId × Value → H} {P : Program} {w : World} {base : Nat} {t e : TypeId} {v : Value} {d : DataW H} {ps : List MemPlace} (ht : P.underlying t = some (.array 3 e)) (he : P.underlying e = some .bool) (hce : P.cellsOf e = 1) (hct : P.cellsOf t = 3)
    (hval : Value.okWide P w .any base t v) (hd : DataW.Trod enc P w 0 (fun _ => true) true t v d ps) : ∃ a b c : Bool, v = .agg #[.bool a, .bool b, .bool c] := by
  have h1 : ∃ cs, v = .agg cs ∧ cs.size = 3 := by
    simp only [Value.okWide, ht] at hval
    obtain ⟨cs, h1, h2, _⟩ := hval
    exact ⟨cs, h1, by rw [h2]; first | exact hct | rfl⟩
  obtain ⟨cs, rfl, hsz⟩ := h1
  obtain ⟨fuel, hf⟩ := hd
  obtain ⟨l⟩ := cs
  match l, hsz with
  | [c0, c1, c2], _ =>
    obtain ⟨y0, y1, y2, n, _, t0, t1, t2⟩ := trod_array3 ht hce hf
    obtain ⟨x0, e0, _⟩ := DataW.trod_bool he t0
    obtain ⟨x1, e1, _⟩ := DataW.trod_bool he t1
    obtain ⟨x2, e2, _⟩ := DataW.trod_bool he t2
    simp at e0 e1 e2
    subst e0 e1 e2
    exact ⟨x0, x1, x2, rfl⟩

end Go.Proofs.Ytdlfbkiihkhmmaa
