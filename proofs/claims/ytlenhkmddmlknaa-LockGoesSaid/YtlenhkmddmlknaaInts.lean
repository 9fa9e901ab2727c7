/-
  Own helper: what can be read of an argument that is a list of whole numbers. Nothing of a program is said here.
-/
import Derived.WalkKit
import Derived.ProofKit
import Derived.OpenShut
namespace Go.Proofs.Ytlenhkmddmlknaa
set_option maxRecDepth 8000
open Go.ChangeShapes Go.WideShapes Go.ChangeAt Go.RowKit

/-- What can be read of an argument that is a list of numbers. -/
structure IntsAt (w : World) (v : Value) (zs : List Int) : Prop where
  shape : ∃ ao cap, v = .slice ao zs.length cap ∧ zs.length ≤ cap ∧ cap ≤ maxLen ∧ (zs ≠ [] → ∃ b off, ao = some ⟨b, off, none⟩ ∧ b < w.heap.size ∧ ∀ i, i < zs.length → w.cell? ⟨b, off + i, none⟩ = some (.int .i64 (zs.getD i 0)))
  fits : ∀ z ∈ zs, -9223372036854775808 ≤ z ∧ z ≤ 9223372036854775807

theorem ints_of {H : Type} {enc : TypeId × Value → H} {P : Program} {w : World} {base : Nat} {t e : TypeId} {v : Value} {d : DataW H} {ps : List MemPlace} (ht : P.underlying t = some (.slice e)) (he : P.underlying e = some (.int .i64)) (hc : P.cellsOf e = 1)
    (hval : Value.okWide P w .any base t v) (hd : DataW.Trod enc P w 0 (fun _ => true) true t v d ps) : ∃ l, IntsAt w v l := by
  obtain ⟨a0, len, cap, rfl⟩ := okWide_slice ht hval
  obtain ⟨fuel, hf⟩ := hd
  rcases open_ints ht he hc hf with ⟨hcs, _⟩ | ⟨a, len', cap', zs, hcs, _, hl, hm, hz, _, hcell, hw⟩
  · simp [Value.cells] at hcs
    obtain ⟨rfl, rfl, rfl⟩ := hcs
    exact ⟨[], ⟨none, 0, rfl, Nat.le_refl _, Nat.zero_le _, fun h => (h rfl).elim⟩, fun z hz => by cases hz⟩
  · simp [Value.cells] at hcs
    obtain ⟨rfl, rfl, rfl⟩ := hcs
    simp only [if_true] at hz
    have hlen : (zs.take len).length = len := by rw [List.length_take]; omega
    refine ⟨zs.take len, ⟨some a, cap, by rw [hlen], by rw [hlen]; exact hl, hm, fun hne => ?_⟩, fun z hzm => bounds_i64 (hw z (List.mem_of_mem_take hzm))⟩
    have hpos : 0 < len := by
      rcases Nat.eq_zero_or_pos len with h | h
      · subst h; simp at hne
      · exact h
    obtain ⟨b, off, rfl, hcb⟩ := ints_at hcell (by omega)
    refine ⟨b, off, rfl, World.block_lt_of_cell? w ⟨b, off, none⟩ (by have := hcb 0 (by omega); exact this), fun i hi => ?_⟩
    rw [hlen] at hi
    rw [hcb i (by omega)]
    simp [List.getD, List.getElem?_take, hi]

theorem getD_of {α : Type} {l : List α} {k : Nat} {d : α} (h : k < l.length) : l.getD k d = l[k] := by simp [List.getD, h]
theorem IntsAt.get {w : World} {v : Value} {zs : List Int} (h : IntsAt w v zs) (i : Nat) (hi : i < zs.length) : -9223372036854775808 ≤ zs.getD i 0 ∧ zs.getD i 0 ≤ 9223372036854775807 := by
  rw [getD_of hi]; exact h.fits _ (List.getElem_mem _)

theorem take_getD {zs : List Int} {n i : Nat} (hi : i < n) : (zs.take n).getD i 0 = zs.getD i 0 := by simp [List.getD, List.getElem?_take, hi]
theorem take_more {zs : List Int} {k : Nat} (h : k < zs.length) : zs.take (k + 1) = zs.take k ++ [zs.getD k 0] := by
  rw [List.take_succ_eq_append_getElem h, getD_of h]

/-- The first n numbers, as a list of its own. -/
theorem IntsAt.cut {w : World} {ao : Option Addr} {zs : List Int} {m cap n : Nat} (h : IntsAt w (.slice ao m cap) zs) (hn : n ≤ zs.length) : IntsAt w (.slice ao n cap) (zs.take n) := by
  obtain ⟨⟨ao', cap', e, h1, h2, h3⟩, h4⟩ := h
  have hl : (zs.take n).length = n := by rw [List.length_take]; omega
  cases e
  refine ⟨⟨_, _, by rw [hl], by omega, h2, fun hne => ?_⟩, fun z hz => h4 z (List.mem_of_mem_take hz)⟩
  obtain ⟨b, off, e, hb, hc⟩ := h3 (by intro e; subst e; simp at hne)
  refine ⟨b, off, e, hb, fun i hi => ?_⟩
  rw [hl] at hi
  rw [take_getD hi]
  exact hc i (by omega)

end Go.Proofs.Ytlenhkmddmlknaa
