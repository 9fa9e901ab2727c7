/-
  Own words (any program): an argument that is a slice of structs of one-cell fields, as a list of one's own type. Nothing of a program is said here.
-/
import Derived.Test.YtdlfbkiihkhmmaaStOf
namespace Go.Proofs.Ytdlfbkiihkhmmaa
set_option maxRecDepth 8000
open Go.ChangeShapes Go.WideShapes Go.ChangeAt Go.RowKit Go.Deep

theorem RowAt.unmap {α : Type} {enc : α → List Value} {sz : Nat} {w : World} {v : Value} {l : List α} (h : RowAt id sz w v (l.map enc)) : RowAt enc sz w v l := by
  obtain ⟨ao, cap, rfl, q1, q2, q3⟩ := h
  rw [List.length_map] at q1 q3 ⊢
  refine ⟨ao, cap, rfl, q1, q2, fun hp => ?_⟩
  obtain ⟨b, off, e, hlt, hc⟩ := q3 hp
  exact ⟨b, off, e, hlt, fun i s j u hi hj => hc i (enc s) j u (by rw [List.getElem?_map, hi]; rfl) hj⟩
theorem map_of {α : Type} {enc : α → List Value} {p : α → Prop} (l : List (List Value)) (h : ∀ s ∈ l, ∃ x : α, enc x = s ∧ p x) : ∃ l' : List α, l'.map enc = l ∧ ∀ x ∈ l', p x := by
  induction l with
  | nil => exact ⟨[], rfl, fun x hx => by cases hx⟩
  | cons s l ih =>
    obtain ⟨l', e1, h1⟩ := ih fun t ht => h t (List.mem_cons_of_mem _ ht)
    obtain ⟨x, e2, h2⟩ := h s (List.mem_cons_self ..)
    refine ⟨x :: l', by rw [List.map_cons, e1, e2], fun y hy => ?_⟩
    rcases List.mem_cons.1 hy with rfl | hy
    · exact h2
    · exact h1 y hy
/-- A slice of structs, each of which is one of one's own. -/
theorem rows_of {α H : Type} {enc : TypeId × Value → H} {P : Program} {w : World} {base : Nat} {t e : TypeId} {fs : Array Field} {v : Value} {d : DataW H} {ps : List MemPlace} (ht : P.underlying t = some (.slice e)) (he : P.underlying e = some (.struct fs))
    (hone : oneCellFields P fs = true) (hc : P.cellsOf e = fs.size) (h0 : 0 < fs.size) (hval : Value.okWide P w .any base t v) (hd : DataW.Trod enc P w 0 (fun _ => true) true t v d ps) (f : α → List Value) (p : α → Prop)
    (hf : ∀ s : List Value, s.length = fs.size → (∀ (j : Nat) (g : Field) (u : Value), fs[j]? = some g → s[j]? = some u → ∃ (n : Nat) (y : DataW H × List MemPlace), DataW.trod enc P w 0 (fun _ => true) true n g.type [u] = some y) → ∃ x : α, f x = s ∧ p x) :
    ∃ l : List α, RowAt f fs.size w v l ∧ ∀ x ∈ l, p x := by
  obtain ⟨l, hr, hl⟩ := structs_of ht he hone hc h0 hval hd
  obtain ⟨l', e, hp⟩ := map_of (enc := f) (p := p) l fun s hs => hf s (hl s hs).1 (hl s hs).2
  subst e
  exact ⟨l', hr.unmap, hp⟩

end Go.Proofs.Ytdlfbkiihkhmmaa
