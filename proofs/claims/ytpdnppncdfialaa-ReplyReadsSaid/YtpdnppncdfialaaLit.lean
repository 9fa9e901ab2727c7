/-
  Own helpers: bytes that can be read, wherever they lie; a literal of one byte and its mark.
-/
import Derived.Test.YtpdnppncdfialaaWireB
import Derived.Test.YtpdnppncdfialaaReg
namespace Go.Proofs.Ytpdnppncdfialaa
open Go.RowKit

/-- What a cell holds it goes on to hold. -/
def Keeps (w w' : World) : Prop := ∀ a v, w.cell? a = some v → w'.cell? a = some v

theorem Keeps.of_ext {w w' : World} (h : Reg.Ext w w') : Keeps w w' := fun a v hv => by
  rw [Below.cell h (World.block_lt_of_cell? w a hv)]; exact hv

/-- A slice of bytes that reads as l. -/
def BRead (w : World) (v : Value) (l : List UInt8) : Prop :=
  (v = .slice none 0 0 ∧ l = []) ∨ ∃ b off cap, v = .slice (some ⟨b, off, none⟩) l.length cap ∧ ∀ i, i < l.length → w.cell? ⟨b, off + i, none⟩ = some (.int .u8 ((l.map fun c : UInt8 => (c.toNat : Int)).getD i 0))

theorem BRead.keeps {w w' : World} {v : Value} {l : List UInt8} (h : BRead w v l) (hk : Keeps w w') : BRead w' v l := by
  rcases h with h | ⟨b, off, cap, hv, hc⟩
  · exact Or.inl h
  · exact Or.inr ⟨b, off, cap, hv, fun i hi => hk _ _ (hc i hi)⟩

theorem BOwn.read {w : World} {base : Nat} {v : Value} {l : List UInt8} (h : BOwn w base v l) : BRead w v l := by
  obtain ⟨h1, h2⟩ := h
  rcases h2 with ⟨rfl, h0⟩ | ⟨g, cap, cur, rfl, hg, hh, hn, hm, hs, ht⟩
  · exact Or.inl ⟨rfl, List.eq_nil_of_length_eq_zero h0⟩
  · refine Or.inr ⟨g, 0, cap, rfl, fun i hi => ?_⟩
    have hx := World.ownsRow.cells (v := .slice (some ⟨g, 0, none⟩) l.length cap) (n := l.length) (xs := bv l) ⟨h1, .inr ⟨g, cap, cur, rfl, hg, hh, hn, hm, hs, ht⟩⟩ rfl i (.int .u8 (l[i].toNat : Int)) (by simp [bv, hi])
    rw [Addr.add_lit] at hx
    rw [hx]
    simp [List.getD, hi]

theorem conv_read {w : World} {v : Value} {l : List UInt8} (h : BRead w v l) : (convert 25 9 v).run Try.prog w = .ok (.string (str l)) w := by
  rcases h with ⟨rfl, rfl⟩ | ⟨b, off, cap, rfl, hc⟩
  · exact run_convert_bytes_nil w 25 5 Try.underlying25 Try.underlying5 0 0 9 Try.underlying9
  · have := run_convert_bytes_arg (P := Try.prog) w 25 5 Try.underlying25 Try.underlying5 b off l.length cap (l.map fun c : UInt8 => (c.toNat : Int)) (by simp) hc 9 Try.underlying9
    rw [this]
    congr 2
    unfold strOfNums str
    congr 2
    rw [List.map_map]
    conv => rhs; rw [← List.map_id l]
    apply List.map_congr_left
    intro c _
    simp

/-- The literal of one byte, marked or not. -/
def litRow : Array Value := #[.int .u8 120]
def LitAt (B : Nat) (w : World) (g : Nat) : Prop := B ≤ g ∧ (w.heap[g]? = some (.cells litRow 5 (0, 0)) ∨ w.heap[g]? = some (.cells litRow 5 (1, 2)))
def litVal (g : Nat) : Value := .slice (some ⟨g, 0, none⟩) 1 1

/-- At most such literals have been marked. -/
structure Marked (B : Nat) (w w' : World) : Prop where
  os : w'.os = w.os
  tape : w'.tape = w.tape
  output : w'.output = w.output
  size : w'.heap.size = w.heap.size
  block : ∀ k : Nat, w'.heap[k]? = w.heap[k]? ∨ (B ≤ k ∧ w.heap[k]? = some (.cells litRow 5 (0, 0)) ∧ w'.heap[k]? = some (.cells litRow 5 (1, 2)))

theorem Marked.below {B : Nat} {w w' : World} (h : Marked B w w') : Below B w w' :=
  ⟨h.os, h.tape, h.output, Nat.le_of_eq h.size.symm, fun k hk => by rcases h.block k with e | ⟨hb, _⟩; exact e; omega⟩

theorem Marked.keeps {B : Nat} {w w' : World} (h : Marked B w w') : Keeps w w' := fun a v hv => by
  rcases h.block a.block with e | ⟨_, e1, e2⟩
  · rw [World.cell?_of_block e]; exact hv
  · simp only [World.cell?, e1, e2] at hv ⊢; exact hv

theorem LitAt.marked {B : Nat} {w w' : World} {g : Nat} (h : LitAt B w g) (hm : Marked B w w') : LitAt B w' g := by
  refine ⟨h.1, ?_⟩
  rcases hm.block g with e | ⟨_, _, e2⟩
  · rw [e]; exact h.2
  · exact Or.inr e2

theorem LitAt.ext {B : Nat} {w w' : World} {g : Nat} (h : LitAt B w g) (he : Reg.Ext w w') : LitAt B w' g := by
  have hlt : g < w.heap.size := by rcases h.2 with e | e <;> exact (Array.getElem?_eq_some_iff.1 e).1
  refine ⟨h.1, ?_⟩
  rw [Below.block he g hlt]; exact h.2

theorem LitAt.buf {B : Nat} {w : World} {g : Nat} (h : LitAt B w g) (base : Nat) : BBuf w base (litVal g) [120] := by
  refine Or.inr ⟨⟨g, 0, none⟩, rfl, rfl, fun j u hj => ?_⟩
  have hj0 : j = 0 := by
    have := (List.getElem?_eq_some_iff.1 hj).1
    simp [bv] at this; exact this
  subst hj0
  have hu : u = .int .u8 120 := by simpa [bv] using hj.symm
  subst hu
  rw [Addr.add_lit]
  rcases h.2 with e | e <;> simp [World.cell?, e, litRow]

theorem LitAt.read {B : Nat} {w : World} {g : Nat} (h : LitAt B w g) : BRead w (litVal g) [120] := by
  refine Or.inr ⟨g, 0, 1, rfl, fun i hi => ?_⟩
  have : i = 0 := by simpa using hi
  subst this
  rcases h.2 with e | e <;> simp [World.cell?, e, litRow]

/-- The mark is laid. -/
theorem run_mark {B : Nat} {w : World} {g : Nat} (h : LitAt B w g) : ∃ w', (convert 25 25 (litVal g)).run Try.prog w = .ok (litVal g) w' ∧ Marked B w w' ∧ LitAt B w' g := by
  have hlt : g < w.heap.size := by rcases h.2 with e | e <;> exact (Array.getElem?_eq_some_iff.1 e).1
  have hsh : w.shape? g = some (5, 1) := by rcases h.2 with e | e <;> simp [World.shape?, e, litRow]
  refine ⟨w.freeze ⟨g, 1, none⟩ 1, ?_, ?_⟩
  · simp [convert, litVal, run_underlying Try.underlying25, run_underlying Try.underlying5, markStringish, hsh]
  · have hb : ∀ k : Nat, k ≠ g → (w.freeze ⟨g, 1, none⟩ 1).heap[k]? = w.heap[k]? := by
      intro k hk
      simp [World.freeze, Array.getElem?_modify, Ne.symm hk]
    have hg : (w.freeze ⟨g, 1, none⟩ 1).heap[g]? = some (.cells litRow 5 (1, 2)) := by
      rcases h.2 with e | e <;> simp [World.freeze, Array.getElem?_modify, e]
    refine ⟨⟨rfl, rfl, rfl, by simp [World.freeze], fun k => ?_⟩, h.1, Or.inr hg⟩
    by_cases hk : k = g
    · subst hk
      rcases h.2 with e | e
      · exact Or.inr ⟨h.1, e, hg⟩
      · exact Or.inl (by rw [hg, e])
    · exact Or.inl (hb k hk)

end Go.Proofs.Ytpdnppncdfialaa
