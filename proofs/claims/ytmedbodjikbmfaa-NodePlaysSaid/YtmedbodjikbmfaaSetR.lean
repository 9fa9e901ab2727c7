/-
  Lists of 64 truths of the call's own.
-/
import Derived.Test.YtmedbodjikbmfaaSetH
namespace Go.Proofs.Ytmedbodjikbmfaa
open Go.RowKit

/-- The first k truths of f, as values. -/
def tv (f : Nat → Bool) (k : Nat) : List Value := (List.range k).map fun i => .bool (f i)
theorem tv_length (f : Nat → Bool) (k : Nat) : (tv f k).length = k := by simp [tv]
theorem tv_succ (f : Nat → Bool) (k : Nat) : tv f (k + 1) = tv f k ++ [.bool (f k)] := by simp [tv, List.range_succ]
theorem tv_get (f : Nat → Bool) {k i : Nat} (h : i < k) : (tv f k)[i]? = some (.bool (f i)) := by simp [tv, h]

theorem infoT : (Try.prog.info? 4).map (fun i => (i.zero, i.size, i.bytes)) = some (some (.bool false), 1, 1) := by kernel_rfl

theorem info_of {α : Type} [DecidableEq α] {o : Option TypeInfo} {z : Value} {n m : Nat} (h : o.map (fun i => (i.zero, i.size, i.bytes)) = some (some z, n, m)) : ∃ i, o = some i ∧ i.zero = some z ∧ i.size = n ∧ i.bytes = m := by
  cases o with
  | none => cases h
  | some i => simp at h; exact ⟨i, rfl, h.1, h.2.1, h.2.2⟩

/-- A list of n truths of the call's own. -/
def Own64 (w : World) (base : Nat) (v : Value) (f : Nat → Bool) : Prop := w.ownsRow base 4 1 v 64 (tv f 64)

theorem tv_congr {f g : Nat → Bool} (k : Nat) (h : ∀ i, i < k → f i = g i) : tv f k = tv g k := by
  unfold tv
  apply List.map_congr_left
  intro i hi
  rw [h i (List.mem_range.1 hi)]
theorem tv_set (f g : Nat → Bool) (k n : Nat) (h : ∀ i, i < n → g i = if i = k then g k else f i) : (tv f n).set k (.bool (g k)) = tv g n := by
  apply List.ext_getElem?
  intro i
  rw [List.getElem?_set, tv_length]
  by_cases hi : i < n
  · rw [tv_get _ hi, tv_get _ hi]
    by_cases hk : k = i
    · subst hk; simp [hi]
    · simp [hk]
      rw [h i hi, if_neg (fun e => hk e.symm)]
  · rw [List.getElem?_eq_none (by rw [tv_length]; omega), List.getElem?_eq_none (by rw [tv_length]; omega)]
    by_cases hk : k = i
    · subst hk; simp [hi]
    · simp [hk]

theorem Own64.form {w : World} {base : Nat} {v : Value} {f : Nat → Bool} (h : Own64 w base v f) : ∃ g cap, v = .slice (some ⟨g, 0, none⟩) 64 cap ∧ base ≤ g ∧ g < w.heap.size := by
  rcases h.2 with ⟨_, h0⟩ | ⟨g, cap, cur, rfl, hg, hh, _⟩
  · simp at h0
  · exact ⟨g, cap, rfl, hg, by have := Array.getElem?_eq_some_iff.1 hh; exact this.1⟩

theorem Own64.cell {w : World} {base g cap k : Nat} {f : Nat → Bool} (h : Own64 w base (.slice (some ⟨g, 0, none⟩) 64 cap) f) (hk : k < 64) : w.cell? ⟨g, k, none⟩ = some (.bool (f k)) := by
  rw [World.ownsRow.cellAt h k (by omega), tv_get _ hk]
theorem Own64.cells {w : World} {base g cap : Nat} {f : Nat → Bool} (h : Own64 w base (.slice (some ⟨g, 0, none⟩) 64 cap) f) : Cells64 w g 0 f := by
  intro i hi
  rw [Nat.zero_add]
  exact h.cell hi
/-- A place of it, written. -/
theorem Own64.put {w : World} {base g cap k : Nat} {f h : Nat → Bool} (ho : Own64 w base (.slice (some ⟨g, 0, none⟩) 64 cap) f) (x : Bool) (hx : h k = x) (hh : ∀ i, i < 64 → h i = if i = k then h k else f i) :
    Own64 (w.setCell ⟨g, k, none⟩ (.bool x)) base (.slice (some ⟨g, 0, none⟩) 64 cap) h := by
  have := (World.ownsRow.stored ho k (.bool x)).1
  rw [← hx, tv_set f h k 64 hh] at this
  rw [← hx]
  exact this
/-- A place of another block, written. -/
theorem Own64.other {w : World} {base g cap b k : Nat} {f : Nat → Bool} {x : Value} (ho : Own64 w base (.slice (some ⟨g, 0, none⟩) 64 cap) f) (hne : g ≠ b) : Own64 (w.setCell ⟨b, k, none⟩ x) base (.slice (some ⟨g, 0, none⟩) 64 cap) f :=
  ownsRow_block ho fun j hj => by cases hj; exact heap_setCell_other w ⟨b, k, none⟩ g x (fun e => hne (by simpa using e))
theorem Own64.congr {w : World} {base : Nat} {v : Value} {f h : Nat → Bool} (ho : Own64 w base v f) (hh : ∀ i, i < 64 → f i = h i) : Own64 w base v h := by
  unfold Own64 at ho ⊢
  rw [← tv_congr 64 hh]
  exact ho
theorem Own64.below {w w' : World} {base B : Nat} {v : Value} {f : Nat → Bool} (h : Own64 w base v f) (hb : Below B w w') (hv : ∀ g, v.ownBlock = some g → g < B) : Own64 w' base v f := ownsRow_below h hb hv

theorem Own64.mono {w : World} {base base' : Nat} {v : Value} {f : Nat → Bool} (h : Own64 w base v f) (hb : base' ≤ base) : Own64 w base' v f := ownsRow_mono h hb

end Go.Proofs.Ytmedbodjikbmfaa
