/-
  Own words: bytes as rows of one cell, as arguments, and as what can be read.
-/
import Derived.Test.YtpdnppncdfialaaLit
import Derived.Test.YtpdnppncdfialaaRow
import Derived.ProofKit
import Derived.OpenShut
namespace Go.Proofs.Ytpdnppncdfialaa
open Go.ChangeShapes Go.WideShapes Go.ChangeAt Go.RowKit

def encB (c : UInt8) : List Value := [.int .u8 (c.toNat : Int)]
theorem bv_flat (l : List UInt8) : bv l = l.flatMap encB := by
  induction l with
  | nil => rfl
  | cons a l ih => rw [List.flatMap_cons, ← ih]; rfl

/-- Bytes of the call's own as a row. -/
theorem BOwn.row {w : World} {base : Nat} {v : Value} {l : List UInt8} (h : BOwn w base v l) : RowAt encB 1 w v l := RowAt.of_own h (fun _ => rfl) (bv_flat l) rfl

/-- A row of bytes, of which there is one, can be read. -/
theorem row_bread {w : World} {v : Value} {l : List UInt8} (h : RowAt encB 1 w v l) (hp : 0 < l.length) : BRead w v l := by
  obtain ⟨ao, cap, rfl, h1, h2, h3⟩ := h
  obtain ⟨b, off, rfl, hb, hc⟩ := h3 hp
  refine .inr ⟨b, off, cap, rfl, fun i hi => ?_⟩
  have := hc i l[i] 0 _ (List.getElem?_eq_getElem hi) rfl
  simp only [Nat.mul_one, Nat.add_zero] at this
  rw [this]
  simp [List.getD, hi]

/-- No bytes, wherever they lie, as a string. -/
theorem conv_zero (w : World) (ao : Option Addr) (cap : Nat) : (convert 25 9 (.slice ao 0 cap)).run Try.prog w = .ok (.string (str [])) w := by
  cases ao with
  | none => exact run_convert_bytes_nil w 25 5 Try.underlying25 Try.underlying5 0 cap 9 Try.underlying9
  | some a =>
    have hl : (loadCells a 0).run Try.prog w = .ok #[] w := by
      have := run_loadCells_list (P := Try.prog) w a [] (fun j v hj => by simp at hj)
      simpa using this
    rw [run_convert_bytes_string w 25 9 5 (some a) 0 cap Try.underlying25 Try.underlying5 Try.underlying9]
    simp [Conv.bytesToString, hl, Sem.run_bind, Result.andThen, str]
    rfl
/-- A row of bytes as a string. -/
theorem conv_row {w : World} {v : Value} {l : List UInt8} (h : RowAt encB 1 w v l) : (convert 25 9 v).run Try.prog w = .ok (.string (str l)) w := by
  rcases Nat.eq_zero_or_pos l.length with h0 | hp
  · have hl := List.eq_nil_of_length_eq_zero h0
    subst hl
    obtain ⟨ao, cap, rfl, _⟩ := h
    exact conv_zero w ao cap
  · exact conv_read (row_bread h hp)

/-- An argument that is a slice of bytes. -/
theorem bytes_of {H : Type} {enc : TypeId × Value → H} {P : Program} {w : World} {base : Nat} {t e : TypeId} {v : Value} {d : DataW H} {ps : List MemPlace} (ht : P.underlying t = some (.slice e)) (he : P.underlying e = some (.int .u8)) (hc : P.cellsOf e = 1)
    (hval : Value.okWide P w .any base t v) (hd : DataW.Trod enc P w 0 (fun _ => true) true t v d ps) : ∃ l : List UInt8, RowAt encB 1 w v l := by
  obtain ⟨a0, len, cap, rfl⟩ := okWide_slice ht hval
  obtain ⟨fuel, hf⟩ := hd
  rcases open_ints ht he hc hf with ⟨hcs, _⟩ | ⟨a, len', cap', zs, hcs, _, hl, hm, hz, _, hcell, hw⟩
  · simp [Value.cells] at hcs
    obtain ⟨rfl, rfl, rfl⟩ := hcs
    exact ⟨[], RowAt.nil w⟩
  · simp [Value.cells] at hcs
    obtain ⟨rfl, rfl, rfl⟩ := hcs
    simp only [if_true] at hz
    have hlen : ((zs.take len).map fun z => UInt8.ofNat z.toNat).length = len := by rw [List.length_map, List.length_take]; omega
    refine ⟨(zs.take len).map fun z => UInt8.ofNat z.toNat, some a, cap, by rw [hlen], by rw [hlen]; exact hl, hm, fun hp => ?_⟩
    rw [hlen] at hp
    obtain ⟨b, off, sp⟩ := a
    have h0 := hcell 0 (by omega)
    have hsp : sp = none := by simpa [Addr.add] using World.cell?_spot h0
    subst hsp
    refine ⟨b, off, rfl, ?_, fun i s j u hi hj => ?_⟩
    · rw [Go.WideShapes.add_plain] at h0
      exact World.block_lt_of_cell? w ⟨b, _, none⟩ h0
    · have hil : i < len := by
        have := (List.getElem?_eq_some_iff.1 hi).1
        omega
      have hi' : i < zs.length := by omega
      rw [List.getElem?_map, List.getElem?_take, if_pos hil, List.getElem?_eq_getElem hi'] at hi
      have hs : UInt8.ofNat (zs[i].toNat) = s := by simpa using hi
      have hj0 : j = 0 := by
        have := (List.getElem?_eq_some_iff.1 hj).1
        simp [encB] at this
        exact this
      subst hj0
      have hu : u = .int .u8 (s.toNat : Int) := by simpa [encB] using hj.symm
      have h1 := hcell i hi'
      rw [show zs.getD i 0 = zs[i] by simp [List.getD, hi']] at h1
      rw [Go.WideShapes.add_plain] at h1
      have hb := bounds_u8 (hw zs[i] (List.getElem_mem _))
      rw [hu, ← hs]
      simp only [Nat.mul_one, Nat.add_zero]
      rw [h1]
      congr 2
      have : (UInt8.ofNat zs[i].toNat).toNat = zs[i].toNat := by simp; omega
      rw [this]
      omega

end Go.Proofs.Ytpdnppncdfialaa
