/-
  Own walks: the heap's exchange, up and down.
-/
import Derived.Test.YtenpdglmmbkmkaaSbB
import Derived.Test.YtenpdglmmbkmkaaHpM
import Derived.Shelf.SlSortFuncK.HeapSortK
namespace Go.Proofs.Ytenpdglmmbkmkaa
open Go.RowKit Go.Sort Go.Lib Go.Shelf

/-- What is asked of a comparison. -/
def LessOk {α : Type} (P : Program) (f : Nat) (enc : α → List Value) (lt : α → α → Bool) : Prop :=
  ∀ (x y : α) (W : World), Calls P f #[.agg (enc x).toArray, .agg (enc y).toArray] W fun e w' => e = .returned (.bool (lt x y)) ∧ ∃ q os', w' = grow (W.drewN q) os'

section
variable {α : Type} [Inhabited α] {enc : α → List Value} {lt : α → α → Bool} {w : World} {p g off cap : Nat} {d d0 : Array α}

/-- Where a queue's row lies, and where the queue itself. -/
structure HpAt (enc : α → List Value) (k : Nat) (w : World) (p g off cap n : Nat) (d0 : Array α) : Prop where
  holds : HoldsK enc k w g off d0
  size : d0.size = n
  glt : g < w.heap.size
  plt : p < w.heap.size
  ne : p ≠ g
  cell : w.cell? ⟨p, 0, none⟩ = some (.slice (some ⟨g, off, none⟩) n cap)

theorem HpAt.far {k q n : Nat} {os : Array Obj} (h : HpAt enc k w p g off cap n d0) : ∀ n' os', (grow ((sortWorldK enc k w g off q d os).drewN n') os').cell? ⟨p, 0, none⟩ = some (.slice (some ⟨g, off, none⟩) n cap) := fun n' os' => by
  rw [sortWorldK_grown_c, cell?_sortWorldK_other enc k w g off _ d _ ⟨p, 0, none⟩ h.ne h.plt]
  exact h.cell
theorem HpAt.far0 {k q n : Nat} {os : Array Obj} (h : HpAt enc k w p g off cap n d0) : (sortWorldK enc k w g off q d os).cell? ⟨p, 0, none⟩ = some (.slice (some ⟨g, off, none⟩) n cap) := by
  rw [cell?_sortWorldK_other enc k w g off _ d _ ⟨p, 0, none⟩ h.ne h.plt]
  exact h.cell

/-- What a comparison of two elements asks, in every world that it may come in. -/
theorem less_class {k q n f : Nat} {os : Array Obj} (hE : EncOk enc k) (hL : LessOk Try.prog f enc lt) (h : HpAt enc k w p g off cap n d0) (hs : d.size = n) {x y : Nat} (hx : x < n) (hy : y < n) :
    (∀ n' os', grow ((sortWorldK enc k w g off q d os).drewN n') os' = sortWorldK enc k w g off (q + n') d (os ++ os')) ∧
    (∀ n' os', Sem.run Try.prog (loadCellsFrom ⟨g, off + x * k, none⟩ 0 k #[]) (grow ((sortWorldK enc k w g off q d os).drewN n') os') = .ok (enc d[x]!).toArray (grow ((sortWorldK enc k w g off q d os).drewN n') os')) ∧
    (∀ n' os', Sem.run Try.prog (loadCellsFrom ⟨g, off + y * k, none⟩ 0 k #[]) (grow ((sortWorldK enc k w g off q d os).drewN n') os') = .ok (enc d[y]!).toArray (grow ((sortWorldK enc k w g off q d os).drewN n') os')) ∧
    (∀ n' os', Calls Try.prog f #[.agg (enc d[x]!).toArray, .agg (enc d[y]!).toArray] (grow ((sortWorldK enc k w g off q d os).drewN n') os') fun e w' => e = .returned (.bool (lt d[x]! d[y]!)) ∧ ∃ q' os'', w' = grow ((grow ((sortWorldK enc k w g off q d os).drewN n') os').drewN q') os'') := by
  have hcls : ∀ n' os', grow ((sortWorldK enc k w g off q d os).drewN n') os' = sortWorldK enc k w g off (q + n') d (os ++ os') := fun n' os' => sortWorldK_grown_c enc k w g off q n' d os os'
  have hHc : ∀ n' os', HoldsK enc k (grow ((sortWorldK enc k w g off q d os).drewN n') os') g off d := fun n' os' => by rw [hcls]; exact holdsK_sortWorldK_c enc k w g off d0 d _ _ h.holds h.glt (by rw [hs, h.size])
  exact ⟨hcls, fun n' os' => load_row (hHc n' os') hE (by omega), fun n' os' => load_row (hHc n' os') hE (by omega), fun n' os' => hL _ _ _⟩

def SwpPost (enc : α → List Value) (k : Nat) (w : World) (g off : Nat) (r : Array α) (os : Array Obj) (e : Ending) (w' : World) : Prop := e = .returned (.tuple #[]) ∧ ∃ q', w' = sortWorldK enc k w g off q' r os

set_option maxHeartbeats 4000000 in
set_option maxRecDepth 1000000 in
theorem qswap_fn (k : Nat) (zE : ∀ w, Sem.run Try.prog (Go.sizeOf 24) w = .ok k w) (n x y q : Nat) (os : Array Obj) (hE : EncOk enc k) (h : HpAt enc k w p g off cap n d0) (hs : d.size = n) (hx : x < n) (hy : y < n) :
    Calls Try.prog 28 #[.pointer (some ⟨p, 0, none⟩), .int .i64 x, .int .i64 y] (sortWorldK enc k w g off q d os) (SwpPost enc k w g off (swp d x y) os) := by
  have hmix := mixedS
  obtain ⟨lx, ly, s1, s2, hnx⟩ := swap_class (q := q) (os := os) hE h.holds (hs.trans h.size.symm) h.glt (x := x) (y := y) (by omega) (by omega)
  have hc1 := h.far0 (d := d) (q := q) (os := os)
  have hc : (sortWorldK enc k w g off q d os).drew.cell? ⟨p, 0, none⟩ = some (.slice (some ⟨g, off, none⟩) n cap) := hc1
  clear h hc1
  have lA : (enc d[x]!).length = k := hE.len _
  have lB : (enc d[y]!).length = k := hE.len _
  obtain ⟨cA, hcA⟩ : ∃ c, c = enc d[x]! := ⟨_, rfl⟩
  obtain ⟨cB, hcB⟩ : ∃ c, c = enc d[y]! := ⟨_, rfl⟩
  rw [← hcA] at lx s2 lA hnx
  rw [← hcB] at ly s1 s2 lB hnx
  clear hcA hcB
  generalize sortWorldK enc k w g off q d os = wq at *
  have jx : (x : Int) < (n : Int) := by omega
  have jy : (y : Int) < (n : Int) := by omega
  go_enter Try.func28, Try.ntmps28
  go_wp2_with fail
  go_region
  rw [hnx.out]
  go_wp2_with fail
  go_end0
  exact ⟨rfl, q + 1, rfl⟩

def HeapPost (enc : α → List Value) (k : Nat) (w : World) (g off n : Nat) (lt : α → α → Bool) (d : Array α) (e : Ending) (w' : World) : Prop :=
  e = .returned (.tuple #[]) ∧ ∃ q' os' d', w' = sortWorldK enc k w g off q' d' os' ∧ d'.size = n ∧ Hp.Heap lt n d' ∧ d'.toList.Perm d.toList

end
end Go.Proofs.Ytenpdglmmbkmkaa
