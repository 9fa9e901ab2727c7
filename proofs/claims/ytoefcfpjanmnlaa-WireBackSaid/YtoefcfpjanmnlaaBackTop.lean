/-
  The statement that what was put is read as it was, for whatever list of numbers.
-/
import Derived.Test.YtoefcfpjanmnlaaBack
import Derived.ProofKit
import Derived.OpenShut
namespace Go.Proofs.Ytoefcfpjanmnlaa
open Go.ChangeShapes Go.WideShapes Go.ChangeAt Go.RowKit

theorem ints_of {H : Type} {enc : TypeId × Value → H} {P : Program} {w : World} {base : Nat} {t e : TypeId} {v : Value} {d : DataW H} {ps : List MemPlace} (ht : P.underlying t = some (.slice e)) (he : P.underlying e = some (.int .i64)) (hc : P.cellsOf e = 1)
    (hval : Value.okWide P w .any base t v) (hd : DataW.Trod enc P w 0 (fun _ => true) true t v d ps) : ∃ l, IntsAt w v l := by
  obtain ⟨a0, len, cap, rfl⟩ := okWide_slice ht hval
  obtain ⟨fuel, hf⟩ := hd
  rcases open_ints ht he hc hf with ⟨hcs, _⟩ | ⟨a, len', cap', zs, hcs, _, hl, hm, hz, _, hcell, hw⟩
  · simp [Value.cells] at hcs
    obtain ⟨rfl, rfl, rfl⟩ := hcs
    exact ⟨[], ⟨none, 0, rfl, Nat.le_refl _, Nat.zero_le _, fun h => (h rfl).elim⟩, fun z hz => by cases hz⟩
  · simp [Value.cells] at hcs
    obtain ⟨rfl, rfl, rfl⟩ := hcs
    simp only [if_true] at hz
    have hlen : (zs.take len).length = len := by rw [List.length_take]; omega
    refine ⟨zs.take len, ⟨some a, cap, by rw [hlen], by rw [hlen]; exact hl, hm, fun hne => ?_⟩, fun z hzm => bounds_i64 (hw z (List.mem_of_mem_take hzm))⟩
    have hpos : 0 < len := by
      rcases Nat.eq_zero_or_pos len with h | h
      · subst h; simp at hne
      · exact h
    obtain ⟨b, off, rfl, hcb⟩ := ints_at hcell (by omega)
    refine ⟨b, off, rfl, World.block_lt_of_cell? w ⟨b, off, none⟩ (by have := hcb 0 (by omega); exact this), fun i hi => ?_⟩
    rw [hlen] at hi
    rw [hcb i (by omega)]
    simp [List.getD, List.getElem?_take, hi]

theorem back_walk (zs : List Int) (v : Value) (a1 : Bool) (s : ByteArray) (w : World) (h : IntsAt w v zs) (hs : s.size ≤ maxLen) :
    Calls Try.prog 4 #[v, .bool a1, .string s] w fun e w' => e = .returned (.bool true) ∧ Below w.heap.size w w' := by
  obtain ⟨⟨ao, cap, rfl, hlc, hcm, hcells⟩, hfit⟩ := h
  by_cases h0 : zs = []
  · subst h0
    exact back_zero s w ao cap a1 hs
  · obtain ⟨b, off, rfl, hbw, hcell⟩ := hcells h0
    have hget : ∀ i, i < zs.length → -9223372036854775808 ≤ zs.getD i 0 ∧ zs.getD i 0 ≤ 9223372036854775807 := fun i hi => by
      rw [getD_lt hi]; exact hfit _ (List.getElem_mem _)
    by_cases h40 : 40 < zs.length
    · have hl : (zs.take 40).length = 40 := by rw [List.length_take]; omega
      have e : ∀ i, i < 40 → (zs.take 40).getD i 0 = zs.getD i 0 := fun i hi => by simp [List.getD, List.getElem?_take, hi]
      exact back_big s w (zs.take 40) b off zs.length cap a1 hl h40 hlc (by unfold maxLen at hcm; omega) hbw (fun i hi => by rw [e i hi]; exact hcell i (by omega)) (fun i hi => by rw [e i hi]; exact hget i (by omega)) hs
    · exact back_mid s w zs b off cap a1 (by omega) hbw hcell hget hs

end Go.Proofs.Ytoefcfpjanmnlaa
