/-
  Own walks: Advance.
-/
import Derived.Test.YtbnpeicmbbgboaaPfO
namespace Go.Proofs.Ytbnpeicmbbgboaa
set_option maxRecDepth 8000
open Go.RowKit Go.Sort Go.Lib

/-- What Advance tells, and makes. -/
def AdvR (now t e now' dv : Int) : Prop :=
  ((t < now ∨ 1099511627776 < t) ∧ e = 5 ∧ now' = now ∧ dv = 0) ∨ (¬ (t < now ∨ 1099511627776 < t) ∧ t = now ∧ e = 0 ∧ now' = now ∧ dv = 0) ∨ (¬ (t < now ∨ 1099511627776 < t) ∧ t ≠ now ∧ e = 0 ∧ now' = t ∧ dv = 1)
theorem AdvR.uniq {now t e now' dv e2 now2 dv2 : Int} (h : AdvR now t e now' dv) (h' : AdvR now t e2 now2 dv2) : e = e2 ∧ now' = now2 ∧ dv = dv2 := by
  unfold AdvR at h h'
  omega

section
variable {w : World} {p g : Nat} {L : List (Int × Int)} {ver now : Int} {f : Int → Int}

theorem delete0 {cap : Nat} (k : Nat) (ho : w.ownsRow 0 49 2 (.slice (some ⟨g, 0, none⟩) L.length cap) L.length (prV L)) (hl : L.length ≤ 1000) (hk : k ≤ L.length) :
    Calls Try.prog 54 #[.slice (some ⟨g, 0, none⟩) L.length cap, .int .i64 0, .int .i64 k] w fun e w' => e = .returned (.slice (some ⟨g, 0, none⟩) (L.length - k) cap) ∧ w'.ownsRow 0 49 2 (.slice (some ⟨g, 0, none⟩) (L.length - k) cap) (L.length - k) (prV (L.drop k)) ∧ Off g g w w' := by
  have h := delete_any 0 k ho hl (Nat.zero_le _) hk
  rw [List.take_zero, List.nil_append, List.length_drop] at h
  exact h

/-- The first step's time is changed. -/
theorem PW_setA (t : Int) (h : PW w p g L ver) (hi : 0 < L.length) : PW (w.setCell ⟨g, 0, none⟩ (.int .i64 t)) p g (L.set 0 (t, tV L 0)) ver := by
  obtain ⟨cap, F⟩ := h.facts
  refine ⟨cap, ?_, ?_⟩
  · rw [List.length_set, Below.heap_setCell w ⟨g, 0, none⟩ _ p F.pg]
    exact F.obj
  · have h1 := (F.own.stored 0 (.int .i64 t)).1
    rw [prV_set, List.length_set]
    have e : ((prV L).set 0 (.int .i64 t)).set 1 (.int .i64 (tV L 0)) = (prV L).set 0 (.int .i64 t) := by
      have hg := (prV_get (get_tAV hi)).2
      obtain ⟨hlt, hv⟩ := List.getElem?_eq_some_iff.1 hg
      rw [List.set_comm _ _ (by decide)]
      have h2 : (prV L).set 1 (.int .i64 (tV L 0)) = prV L := by
        have hv' : (prV L)[1]'(by simpa using hlt) = .int .i64 (tV L 0) := by simpa using hv
        rw [← hv']
        exact List.set_getElem_self _
      rw [h2]
    show World.ownsRow _ 0 _ 2 _ _ (((prV L).set 0 (.int .i64 t)).set 1 (.int .i64 (tV L 0)))
    rw [e]
    exact h1

def SDel (w : World) (g : Nat) (L : List (Int × Int)) (k cap : Nat) : List Value → World → Prop
  | [], W => Below w.heap.size w W
  | _ :: _, W => W.ownsRow 0 49 2 (.slice (some ⟨g, 0, none⟩) (L.length - k) cap) (L.length - k) (prV (L.drop k)) ∧ Off g g w W
theorem SDel.ext {w : World} {g : Nat} {L : List (Int × Int)} {k cap : Nat} : ∀ (vs : List Value) (W W' : World), Reg.Ext W W' → SDel w g L k cap vs W → SDel w g L k cap vs W' := by
  intro vs W W' he h
  cases vs with
  | nil => exact Below.trans h (he.mono (Below.size h))
  | cons v vs => exact ⟨pf_own_kept h.1 he, h.2.then_below he⟩

/-- What Advance makes. -/
def AdvPost (w : World) (p g : Nat) (L : List (Int × Int)) (ver now : Int) (f : Int → Int) (t : Int) (e : Ending) (w' : World) : Prop :=
  ∃ (r dv now' : Int) (L' : List (Int × Int)), e = .returned (.int .i64 r) ∧ AdvR now t r now' dv ∧ PW w' p g L' (ver + dv) ∧ Can L' now' f ∧ Off p g w w' ∧ L'.length ≤ L.length

end

end Go.Proofs.Ytbnpeicmbbgboaa
