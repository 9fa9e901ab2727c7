/-
  Own words (any program): what can be read of an argument that is a slice of structs whose fields are a cell each. Nothing of a program is said here.
-/
import Derived.Test.YtdlfbkiihkhmmaaRow
namespace Go.Proofs.Ytdlfbkiihkhmmaa
set_option maxRecDepth 8000
open Go.ChangeShapes Go.WideShapes Go.ChangeAt Go.RowKit Go.Deep

/-- A slice of structs as rows of values, and that each value is one of its field's type. -/
theorem structs_of {H : Type} {enc : TypeId × Value → H} {P : Program} {w : World} {base : Nat} {t e : TypeId} {fs : Array Field} {v : Value} {d : DataW H} {ps : List MemPlace} (ht : P.underlying t = some (.slice e)) (he : P.underlying e = some (.struct fs))
    (hone : oneCellFields P fs = true) (hc : P.cellsOf e = fs.size) (h0 : 0 < fs.size) (hval : Value.okWide P w .any base t v) (hd : DataW.Trod enc P w 0 (fun _ => true) true t v d ps) :
    ∃ l : List (List Value), RowAt id fs.size w v l ∧ ∀ s ∈ l, s.length = fs.size ∧ ∀ (j : Nat) (f : Field) (u : Value), fs[j]? = some f → s[j]? = some u → ∃ (n : Nat) (y : DataW H × List MemPlace), DataW.trod enc P w 0 (fun _ => true) true n f.type [u] = some y := by
  obtain ⟨a0, len, cap, rfl⟩ := okWide_slice ht hval
  obtain ⟨fuel, hf⟩ := hd
  rcases open_slice_fields ht he hone hc hf with ⟨hcs, _⟩ | ⟨a, len', cap', m, D, Pl, hcs, _, hl, hm, hmm, _, hi⟩
  · simp [Value.cells] at hcs
    obtain ⟨rfl, rfl, rfl⟩ := hcs
    exact ⟨[], RowAt.nil w, fun s hs => by cases hs⟩
  · simp [Value.cells] at hcs
    obtain ⟨rfl, rfl, rfl⟩ := hcs
    simp only [if_true] at hmm
    have hpick : ∃ f : Nat → Nat → Value, ∀ i, i < len → ∀ j g, fs[j]? = some g → w.cell? (a.add (i * fs.size + j)) = some (f i j) ∧ ∃ (n : Nat) (y : DataW H × List MemPlace), DataW.trod enc P w 0 (fun _ => true) true n g.type [f i j] = some y := by
      refine ⟨fun i j => (w.cell? (a.add (i * fs.size + j))).getD undef, fun i hil j g hg => ?_⟩
      obtain ⟨ys, n, _, _, _, hfs⟩ := hi i (by omega)
      obtain ⟨u, y, c, _, t0⟩ := hfs j g hg
      dsimp only
      simp only [c, Option.getD_some, true_and]
      exact ⟨n, y, t0⟩
    obtain ⟨f, hf'⟩ := hpick
    have hfj : ∀ j, j < fs.size → ∃ g, fs[j]? = some g := fun j hj => ⟨_, Array.getElem?_eq_getElem hj⟩
    refine ⟨(List.range len).map fun i => (List.range fs.size).map (f i), ⟨some a, cap, by simp, by simpa using hl, hm, fun hp => ?_⟩, fun s hs => ?_⟩
    · have hp : 0 < len := by simpa using hp
      obtain ⟨g0, hg0⟩ := hfj 0 h0
      obtain ⟨b, off, spot⟩ := a
      have hspot : spot = none := by simpa [Addr.add] using World.cell?_spot (hf' 0 hp 0 g0 hg0).1
      subst hspot
      refine ⟨b, off, rfl, ?_, fun i s j u hi hj => ?_⟩
      · have := (hf' 0 hp 0 g0 hg0).1
        rw [Go.WideShapes.add_plain] at this
        exact World.block_lt_of_cell? w ⟨b, _, none⟩ this
      · rw [List.getElem?_map] at hi
        obtain ⟨i', hi', rfl⟩ := Option.map_eq_some_iff.1 hi
        obtain ⟨hil, rfl⟩ := List.getElem?_eq_some_iff.1 hi'
        rw [List.length_range] at hil
        rw [List.getElem_range] at hj
        have hj2 : ((List.range fs.size).map (f i))[j]? = some u := hj
        rw [List.getElem?_map] at hj2
        obtain ⟨j', hj', rfl⟩ := Option.map_eq_some_iff.1 hj2
        obtain ⟨hjl, rfl⟩ := List.getElem?_eq_some_iff.1 hj'
        rw [List.length_range] at hjl
        rw [List.getElem_range]
        obtain ⟨g, hg⟩ := hfj j hjl
        have := (hf' i hil j g hg).1
        rw [Go.WideShapes.add_plain] at this
        exact this
    · obtain ⟨i, hi2, rfl⟩ := List.mem_map.1 hs
      refine ⟨by simp, fun j g u hg hu => ?_⟩
      rw [List.getElem?_map] at hu
      obtain ⟨j', hj', rfl⟩ := Option.map_eq_some_iff.1 hu
      obtain ⟨hjl, rfl⟩ := List.getElem?_eq_some_iff.1 hj'
      rw [List.getElem_range]
      exact (hf' i (by simpa using hi2) _ g hg).2

/-- A struct by value, its fields a cell each: its cells, and that each is one of its field's type. -/
theorem struct_of {H : Type} {enc : TypeId × Value → H} {P : Program} {w : World} {base : Nat} {t : TypeId} {fs : Array Field} {v : Value} {d : DataW H} {ps : List MemPlace} (ht : P.underlying t = some (.struct fs))
    (hone : oneCellFields P fs = true) (hc : P.cellsOf t = fs.size) (hval : Value.okWide P w .any base t v) (hd : DataW.Trod enc P w 0 (fun _ => true) true t v d ps) :
    ∃ s : List Value, v = .agg s.toArray ∧ s.length = fs.size ∧ ∀ (j : Nat) (f : Field) (u : Value), fs[j]? = some f → s[j]? = some u → ∃ (n : Nat) (y : DataW H × List MemPlace), DataW.trod enc P w 0 (fun _ => true) true n f.type [u] = some y := by
  obtain ⟨cs, rfl, hsz⟩ := okWide_struct ht hval
  obtain ⟨fuel, hf⟩ := hd
  obtain ⟨cs⟩ := cs
  have hlen : cs.length = fs.size := by simpa [hc] using hsz
  refine ⟨cs, rfl, hlen, fun j f u hj hu => ?_⟩
  obtain ⟨ys, n, _, hy, hlen2, hyl, hfs⟩ := DataW.trod_struct ht hf
  obtain ⟨ho, hk⟩ := hone_of hone j f hj
  have h1 := hfs j f hj
  have hjl : j < cs.length := (List.getElem?_eq_some_iff.1 hu).1
  rw [ho, hk] at h1
  have e : ((Value.agg ⟨cs⟩).cells.toList.drop j).take 1 = [u] := by
    simp only [Value.cells]
    rw [List.drop_eq_getElem_cons (by simpa using hjl)]
    have := (List.getElem?_eq_some_iff.1 hu).2
    simp [this]
  rw [e] at h1
  have hys : ys[j]? = some (ys[j]'(by omega)) := List.getElem?_eq_getElem (by omega)
  exact ⟨n, _, h1.trans hys⟩

end Go.Proofs.Ytdlfbkiihkhmmaa
