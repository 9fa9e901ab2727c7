/-
  Own helper: what can be read of an argument that is a list of uint64. Nothing of a program is said here.
-/
import Derived.Test.YtpjmogakimelaaaInts
namespace Go.Proofs.Ytpjmogakimelaaa
open Go.ChangeShapes Go.WideShapes Go.ChangeAt Go.RowKit

/-- What can be read of an argument that is a list of numbers without sign. -/
structure NatsAt (w : World) (v : Value) (zs : List Nat) : Prop where
  shape : ∃ ao cap, v = .slice ao zs.length cap ∧ zs.length ≤ cap ∧ cap ≤ maxLen ∧ (zs ≠ [] → ∃ b off, ao = some ⟨b, off, none⟩ ∧ b < w.heap.size ∧ ∀ i, i < zs.length → w.cell? ⟨b, off + i, none⟩ = some (.int .u64 (zs.getD i 0 : Nat)))
  fits : ∀ z ∈ zs, z < 18446744073709551616

theorem nats_of {H : Type} {enc : TypeId × Value → H} {P : Program} {w : World} {base : Nat} {t e : TypeId} {v : Value} {d : DataW H} {ps : List MemPlace} (ht : P.underlying t = some (.slice e)) (he : P.underlying e = some (.int .u64)) (hc : P.cellsOf e = 1)
    (hval : Value.okWide P w .any base t v) (hd : DataW.Trod enc P w 0 (fun _ => true) true t v d ps) : ∃ l, NatsAt w v l := by
  obtain ⟨a0, len, cap, rfl⟩ := okWide_slice ht hval
  obtain ⟨fuel, hf⟩ := hd
  rcases open_ints ht he hc hf with ⟨hcs, _⟩ | ⟨a, len', cap', zs, hcs, _, hl, hm, hz, _, hcell, hw⟩
  · simp [Value.cells] at hcs
    obtain ⟨rfl, rfl, rfl⟩ := hcs
    exact ⟨[], ⟨none, 0, rfl, Nat.le_refl _, Nat.zero_le _, fun h => (h rfl).elim⟩, fun z hz => by cases hz⟩
  · simp [Value.cells] at hcs
    obtain ⟨rfl, rfl, rfl⟩ := hcs
    simp only [if_true] at hz
    have hlen : ((zs.take len).map Int.toNat).length = len := by rw [List.length_map, List.length_take]; omega
    refine ⟨(zs.take len).map Int.toNat, ⟨some a, cap, by rw [hlen], by rw [hlen]; exact hl, hm, fun hne => ?_⟩, fun z hzm => ?_⟩
    · have hpos : 0 < len := by
        rcases Nat.eq_zero_or_pos len with h | h
        · subst h; simp at hne
        · exact h
      obtain ⟨b, off, rfl, hcb⟩ := ints_at hcell (by omega)
      refine ⟨b, off, rfl, World.block_lt_of_cell? w ⟨b, off, none⟩ (by have := hcb 0 (by omega); exact this), fun i hi => ?_⟩
      rw [hlen] at hi
      rw [hcb i (by omega)]
      have hb := bounds_u64 (hw (zs[i]'(by omega)) (List.getElem_mem _))
      have e1 : zs.getD i 0 = zs[i]'(by omega) := getD_of (by omega)
      have e2 : ((zs.take len).map Int.toNat).getD i 0 = (zs[i]'(by omega)).toNat := by
        rw [getD_of (by rw [hlen]; exact hi)]
        simp
      rw [e1, e2]
      congr 2
      omega
    · obtain ⟨y, hy, rfl⟩ := List.mem_map.1 hzm
      have := bounds_u64 (hw y (List.mem_of_mem_take hy))
      omega

theorem NatsAt.get {w : World} {v : Value} {zs : List Nat} (h : NatsAt w v zs) (i : Nat) : zs.getD i 0 < 18446744073709551616 := by
  by_cases hi : i < zs.length
  · rw [getD_of hi]; exact h.fits _ (List.getElem_mem _)
  · simp [List.getD, List.getElem?_eq_none (Nat.le_of_not_lt hi)]
theorem take_getD' {zs : List Nat} {n i : Nat} (hi : i < n) : (zs.take n).getD i 0 = zs.getD i 0 := by simp [List.getD, List.getElem?_take, hi]
theorem take_more' {zs : List Nat} {k : Nat} (h : k < zs.length) : zs.take (k + 1) = zs.take k ++ [zs.getD k 0] := by
  rw [List.take_succ_eq_append_getElem h, getD_of h]
/-- The first n numbers, as a list of its own. -/
theorem NatsAt.cut {w : World} {ao : Option Addr} {zs : List Nat} {m cap n : Nat} (h : NatsAt w (.slice ao m cap) zs) (hn : n ≤ zs.length) : NatsAt w (.slice ao n cap) (zs.take n) := by
  obtain ⟨⟨ao', cap', e, h1, h2, h3⟩, h4⟩ := h
  have hl : (zs.take n).length = n := by rw [List.length_take]; omega
  cases e
  refine ⟨⟨_, _, by rw [hl], by omega, h2, fun hne => ?_⟩, fun z hz => h4 z (List.mem_of_mem_take hz)⟩
  obtain ⟨b, off, e, hb, hc⟩ := h3 (by intro e; subst e; simp at hne)
  refine ⟨b, off, e, hb, fun i hi => ?_⟩
  rw [hl] at hi
  rw [take_getD' hi]
  exact hc i (by omega)
/-- A row of the call's own, read so. -/
theorem nats_row {w : World} {base : Nat} {e : TypeId} {v : Value} {zs : List Nat} (h : w.ownsRow base e 1 v zs.length (zs.map fun (z : Nat) => Value.int .u64 (z : Int))) (hf : ∀ z ∈ zs, z < 18446744073709551616) : NatsAt w v zs := by
  refine ⟨?_, hf⟩
  have h0 := h
  rcases h.2 with ⟨rfl, hn⟩ | ⟨g, cap, cur, rfl, hg, hh, hnc, hm, _⟩
  · refine ⟨none, 0, by rw [hn], by omega, by decide, fun hne => ?_⟩
    exact absurd (List.eq_nil_of_length_eq_zero hn) hne
  · refine ⟨_, cap, rfl, hnc, hm, fun _ => ⟨g, 0, rfl, (Array.getElem?_eq_some_iff.1 hh).1, fun i hi => ?_⟩⟩
    rw [Nat.zero_add, World.ownsRow.cellAt h0 i (by omega), List.getElem?_map, getD_of hi]
    simp [hi]

end Go.Proofs.Ytpjmogakimelaaa
