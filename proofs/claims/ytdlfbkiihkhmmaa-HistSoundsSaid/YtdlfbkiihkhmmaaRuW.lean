/-
  Own words (any program): an argument that is a slice of rows of cells (arrays, say); a slice of arrays of three truths.
-/
import Derived.Test.YtdlfbkiihkhmmaaRow
import Derived.Test.YtdlfbkiihkhmmaaRuV
import Derived.Test.YtdlfbkiihkhmmaaStMap
namespace Go.Proofs.Ytdlfbkiihkhmmaa
set_option maxRecDepth 8000
open Go.ChangeShapes Go.WideShapes Go.ChangeAt Go.RowKit Go.Deep

theorem elems_of {H : Type} {enc : TypeId × Value → H} {P : Program} {w : World} {base : Nat} {t e : TypeId} {k : Nat} {p : List Value → Prop} {v : Value} {d : DataW H} {ps : List MemPlace} (ht : P.underlying t = some (.slice e))
    (hc : P.cellsOf e = k) (h0 : 0 < k) (hel : ∀ nn cs x, DataW.trod enc P w 0 (fun _ => true) true nn e cs = some x → cs.length = P.cellsOf e → p cs) (hval : Value.okWide P w .any base t v) (hd : DataW.Trod enc P w 0 (fun _ => true) true t v d ps) :
    ∃ l : List (List Value), RowAt id k w v l ∧ ∀ s ∈ l, s.length = k ∧ p s := by
  obtain ⟨a0, len, cap, rfl⟩ := okWide_slice ht hval
  obtain ⟨fuel, hf⟩ := hd
  rcases open_slice ht hf with ⟨hcs, _⟩ | ⟨a, len', cap', m, nn, D, Pl, hcs, _, hl, hm, hmm, _, hi⟩
  · simp [Value.cells] at hcs
    obtain ⟨rfl, rfl, rfl⟩ := hcs
    exact ⟨[], RowAt.nil w, fun s hs => by cases hs⟩
  · simp [Value.cells] at hcs
    obtain ⟨rfl, rfl, rfl⟩ := hcs
    simp only [if_true] at hmm
    have hrow : ∀ i, i < len → ∃ cs : List Value, cs.length = k ∧ (∀ j, j < cs.length → w.cell? ((a.add (i * k)).add j) = cs[j]?) ∧ p cs := by
      intro i hil
      obtain ⟨cs', hc', ht'⟩ := hi i (by omega)
      obtain ⟨_, hcl, hat⟩ := World.cells?_some hc'
      have h2 := hel nn _ _ ht' hcl
      have h1 := hcl.trans hc
      rw [hc] at hat hcl
      exact ⟨cs', h1, fun j hj => hat j (by omega), h2⟩
    have hpick : ∃ f : Nat → List Value, ∀ i, i < len → (f i).length = k ∧ (∀ j, j < (f i).length → w.cell? ((a.add (i * k)).add j) = (f i)[j]?) ∧ p (f i) := by
      refine ⟨fun i => if h : i < len then Classical.choose (hrow i h) else [], fun i hil => ?_⟩
      simp only [dif_pos hil]
      exact Classical.choose_spec (hrow i hil)
    obtain ⟨f, hf'⟩ := hpick
    refine ⟨(List.range len).map f, ⟨some a, cap, by simp, by simpa using hl, hm, fun hp => ?_⟩, fun s hs => ?_⟩
    · have hp : 0 < len := by simpa using hp
      obtain ⟨b, off, spot⟩ := a
      have hfirst := (hf' 0 hp).2.1 0 (by rw [(hf' 0 hp).1]; exact h0)
      obtain ⟨u0, hu0⟩ : ∃ u, (f 0)[0]? = some u := ⟨_, List.getElem?_eq_getElem (by rw [(hf' 0 hp).1]; exact h0)⟩
      rw [hu0] at hfirst
      have hspot : spot = none := by simpa [Addr.add] using World.cell?_spot hfirst
      subst hspot
      refine ⟨b, off, rfl, ?_, fun i s j u hi2 hj => ?_⟩
      · rw [Go.WideShapes.add_plain, Go.WideShapes.add_plain] at hfirst
        exact World.block_lt_of_cell? w ⟨b, _, none⟩ hfirst
      · rw [List.getElem?_map] at hi2
        obtain ⟨i', hi', rfl⟩ := Option.map_eq_some_iff.1 hi2
        obtain ⟨hil, rfl⟩ := List.getElem?_eq_some_iff.1 hi'
        rw [List.length_range] at hil
        rw [List.getElem_range] at hj
        have hj2 : (f i)[j]? = some u := hj
        have := (hf' i hil).2.1 j (List.getElem?_eq_some_iff.1 hj2).1
        rw [Go.WideShapes.add_plain, Go.WideShapes.add_plain, hj2, Nat.add_assoc] at this
        exact this
    · obtain ⟨i, hi2, rfl⟩ := List.mem_map.1 hs
      have := hf' i (by simpa using hi2)
      exact ⟨this.1, this.2.2⟩


end Go.Proofs.Ytdlfbkiihkhmmaa
