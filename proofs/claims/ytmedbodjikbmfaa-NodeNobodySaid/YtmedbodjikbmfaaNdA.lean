/-
  Own words and walks: the document's table of nodes in memory, and what is asked of it: in, claim, give, turn.
-/
import Derived.Test.YtmedbodjikbmfaaSetHas
import Derived.Test.YtmedbodjikbmfaaSetD
import Derived.WalkKit
import Derived.WalkSpells
import Derived.WalkLawsBesides
import Derived.Deep.DeepMust
import Derived.Lib.Hide
import Derived.Lib.MinMax
namespace Go.Proofs.Ytmedbodjikbmfaa
open Go.RowKit Go.Lib

def nV (l : List Int) : List Value := l.map (Value.int .i64)
theorem nV_set (l : List Int) (i : Nat) (v : Int) : nV (l.set i v) = (nV l).set i (.int .i64 v) := by simp [nV, List.map_set]
theorem nV_get {l : List Int} {i : Nat} (hi : i < l.length) : (nV l)[i]? = some (.int .i64 (l.getD i 0)) := by simp [nV, hi]

/-- As it was, but for one block. -/
structure OffB (h : Nat) (w w' : World) : Prop where
  os : w'.os = w.os
  tape : w'.tape = w.tape
  output : w'.output = w.output
  size : w'.heap.size = w.heap.size
  block : ∀ k, k ≠ h → w'.heap[k]? = w.heap[k]?
theorem OffB.refl (h : Nat) (w : World) : OffB h w w := ⟨rfl, rfl, rfl, rfl, fun _ _ => rfl⟩
theorem OffB.setCell {h j : Nat} {w w' : World} {v : Value} (ho : OffB h w w') : OffB h w (w'.setCell ⟨h, j, none⟩ v) :=
  ⟨ho.os, ho.tape, ho.output, by simpa using ho.size, fun k hk => by rw [Below.heap_setCell w' ⟨h, j, none⟩ v k hk]; exact ho.block k hk⟩
theorem OffB.trans {h : Nat} {w w' w'' : World} (a : OffB h w w') (b : OffB h w' w'') : OffB h w w'' :=
  ⟨b.os.trans a.os, b.tape.trans a.tape, b.output.trans a.output, b.size.trans a.size, fun k hk => (b.block k hk).trans (a.block k hk)⟩
theorem OffB.below {B h : Nat} {w w' : World} (a : OffB h w w') (hB : B ≤ h) : Below B w w' := ⟨a.os, a.tape, a.output, Nat.le_of_eq a.size.symm, fun k hk => a.block k (by omega)⟩

/-- The document's table in memory: its block q, its states' block h. -/
def NW (w : World) (q h : Nat) (l : List Int) : Prop :=
  ∃ cap, w.heap[q]? = some (.cells #[.slice (some ⟨h, 0, none⟩) l.length cap] 32 (0, 0)) ∧ w.ownsRow 0 3 1 (.slice (some ⟨h, 0, none⟩) l.length cap) l.length (nV l)

structure NFacts (w : World) (q h : Nat) (l : List Int) (cap : Nat) : Prop where
  obj : w.heap[q]? = some (.cells #[.slice (some ⟨h, 0, none⟩) l.length cap] 32 (0, 0))
  own : w.ownsRow 0 3 1 (.slice (some ⟨h, 0, none⟩) l.length cap) l.length (nV l)
  c0 : w.cell? ⟨q, 0, none⟩ = some (.slice (some ⟨h, 0, none⟩) l.length cap)
  ql : q < w.heap.size
  hl : h < w.heap.size
  qh : q ≠ h

section
variable {w w' : World} {q h : Nat} {l : List Int}

theorem NW.facts (hw : NW w q h l) : ∃ cap, NFacts w q h l cap := by
  obtain ⟨cap, h1, h2⟩ := hw
  have hql : q < w.heap.size := by
    rcases Nat.lt_or_ge q w.heap.size with h' | h'
    · exact h'
    · rw [Array.getElem?_eq_none h'] at h1; cases h1
  have hhl := (h2.lt h rfl).2
  refine ⟨cap, h1, h2, by simp [World.cell?, h1], hql, hhl, fun e => ?_⟩
  subst e
  rcases h2.2 with ⟨e0, _⟩ | ⟨g', cap', cur, e0, _, hg, _⟩
  · cases e0
  · cases e0
    rw [h1] at hg
    injection hg with hg
    injection hg with _ h3
    exact absurd h3 (by decide)
theorem NFacts.cell {cap i : Nat} (F : NFacts w q h l cap) (hi : i < l.length) : w.cell? ⟨h, i, none⟩ = some (.int .i64 (l.getD i 0)) := by
  have c0 := F.own.cells (g := h) rfl i _ (nV_get hi)
  rw [Go.WideShapes.add_plain] at c0
  simpa using c0
/-- One node's state is changed. -/
theorem NW_set (i : Nat) (v : Int) (hw : NW w q h l) : NW (w.setCell ⟨h, i, none⟩ (.int .i64 v)) q h (l.set i v) := by
  obtain ⟨cap, F⟩ := hw.facts
  refine ⟨cap, ?_, ?_⟩
  · rw [List.length_set, Below.heap_setCell w ⟨h, i, none⟩ _ q F.qh]
    exact F.obj
  · rw [List.length_set, nV_set]
    exact (F.own.stored i (.int .i64 v)).1
theorem getD_set (l : List Int) (i m : Nat) (v : Int) : (l.set i v).getD m 0 = if m = i ∧ i < l.length then v else l.getD m 0 := by
  simp only [List.getD_eq_getElem?_getD, List.getElem?_set]
  by_cases e : i = m
  · subst e
    by_cases hi : i < l.length
    · simp [hi]
    · simp [hi]
  · rw [if_neg e, if_neg (by omega)]

theorem hasL_any (u : Nat) (hu : u < 18446744073709551616) (n : Int) (w : World) (hn : -9223372036854775808 ≤ n ∧ n ≤ 9223372036854775807) :
    Calls Try.prog 36 #[.int .u64 u, .int .i64 n] w fun e w' => e = .returned (.bool (hasF u n)) ∧ w = w' := by
  have hc := has_fn u hu n w hn
  go_enter Try.func36, Try.ntmps36
  go_wp2_with (go_at_call 34; go_must (refine hc.mono ?_); rintro e w' ⟨rfl, rfl⟩)
  go_ret
  exact ⟨rfl, rfl⟩

/-- Are all nodes of a set there, in one of two states? -/
def InP (l : List Int) (u : Nat) (a b : Int) (m : Nat) : Prop := ∀ i, i < m → u.testBit i = true → i < l.length ∧ (l.getD i 0 = a ∨ l.getD i 0 = b)
/-- What is told of that. -/
def InPost (l : List Int) (u : Nat) (a b : Int) (w : World) (e : Ending) (w' : World) : Prop := w = w' ∧ ((InP l u a b 64 ∧ e = .returned (.bool true)) ∨ (¬ InP l u a b 64 ∧ e = .returned (.bool false)))

set_option maxRecDepth 100000 in
set_option maxHeartbeats 2000000 in
theorem in_any (u : Nat) (hu : u < 18446744073709551616) (a b : Int) (hw : NW w q h l) (_hl : l.length ≤ 64) :
    Calls Try.prog 35 #[.pointer (some ⟨q, 0, none⟩), .int .u64 u, .int .i64 a, .int .i64 b] w (InPost l u a b w) := by
  obtain ⟨cap, F⟩ := hw.facts
  have c0 := F.c0
  go_enter Try.func35, Try.ntmps35
  go_wp2_with fail
  go_loopw [9] (fun ii wr => ∃ (i : Nat), i ≤ 64 ∧ ii = .int .i64 i ∧ InP l u a b i ∧ wr = w) (fun ii _ => 64 - (intOf ii).toNat)
  case atStart => exact ⟨0, Nat.zero_le _, rfl, fun i hi => by omega, rfl⟩
  case round =>
    obtain ⟨i, hi, rfl, hin, rfl⟩ := hrel
    by_cases hlt : i < 64
    · have hh := hasL_any u hu i wr (by omega)
      rw [hasF_nat hlt] at hh
      have hw2 : IntKind.i64.wrap ((i : Int) + 1) = (i : Int) + 1 := IntWalk.i64_in _ (by omega)
      have b1 : (0 : Int) ≤ i := by omega
      have hbad : Hid (¬ (u.testBit i = true → i < l.length ∧ (l.getD i 0 = a ∨ l.getD i 0 = b)) → InPost l u a b wr (.returned (.bool false)) wr) := fun hx => ⟨rfl, .inr ⟨fun hP => hx (hP i hlt), rfl⟩⟩
      have hgood : Hid ((u.testBit i = true → i < l.length ∧ (l.getD i 0 = a ∨ l.getD i 0 = b)) → InP l u a b (i + 1)) := fun hx j hj hb => by
        rcases Nat.lt_or_ge j i with h3 | h3
        · exact hin j h3 hb
        · have : j = i := by omega
          subst this; exact hx hb
      clear hin
      by_cases ht : u.testBit i = true
      · rw [ht] at hh
        by_cases hil : i < l.length
        · have cc := F.cell hil
          have b2 : (i : Int) < (l.length : Int) := by omega
          have d1 : decide ((l.length : Int) ≤ (i : Int)) = false := decide_eq_false (by omega)
          obtain ⟨x, hx⟩ : ∃ x, x = l.getD i 0 := ⟨_, rfl⟩
          rw [← hx] at cc hbad hgood
          by_cases ea : x = a
          · have hg := hgood.out fun _ => ⟨hil, .inl ea⟩
            subst ea
            have n1 : (x != x) = false := by simp
            replace hg := Lib.hid hg
            replace hx := Lib.hid hx
            clear hbad hgood F hw
            go_wp2_with (go_at_call 36; go_must (refine hh.mono ?_); rintro e w5 ⟨rfl, rfl⟩)
            go_roundw
            case rel => exact ⟨i + 1, by omega, by go_num, hg.out, trivial⟩
            case measure => simp [intOf]; omega
          · have n1 : (x != a) = true := by simp [bne, ea]
            by_cases eb : x = b
            · have hg := hgood.out fun _ => ⟨hil, .inr eb⟩
              subst eb
              have n2 : (x != x) = false := by simp
              replace hg := Lib.hid hg
              replace hx := Lib.hid hx
              replace ea := Lib.hid ea
              clear hbad hgood F hw
              go_wp2_with (go_at_call 36; go_must (refine hh.mono ?_); rintro e w5 ⟨rfl, rfl⟩)
              go_roundw
              case rel => exact ⟨i + 1, by omega, by go_num, hg.out, trivial⟩
              case measure => simp [intOf]; omega
            · have n2 : (x != b) = true := by simp [bne, eb]
              have hg := hbad.out fun hy => by
                rcases (hy ht).2 with h3 | h3
                · exact ea h3
                · exact eb h3
              replace hg := Lib.hid hg
              replace hx := Lib.hid hx
              replace ea := Lib.hid ea
              replace eb := Lib.hid eb
              clear hbad hgood F hw
              go_wp2_with (go_at_call 36; go_must (refine hh.mono ?_); rintro e w5 ⟨rfl, rfl⟩)
              go_ret
              exact hg.out
        · have d1 : decide ((l.length : Int) ≤ (i : Int)) = true := decide_eq_true (by omega)
          have hg := hbad.out fun hy => hil (hy ht).1
          replace hg := Lib.hid hg
          clear hbad hgood F hw
          go_wp2_with (go_at_call 36; go_must (refine hh.mono ?_); rintro e w5 ⟨rfl, rfl⟩)
          go_ret
          exact hg.out
      · have ht' : u.testBit i = false := by simpa using ht
        rw [ht'] at hh
        have hg := hgood.out fun hy => absurd hy ht
        replace hg := Lib.hid hg
        clear hbad hgood F hw
        go_wp2_with (go_at_call 36; go_must (refine hh.mono ?_); rintro e w5 ⟨rfl, rfl⟩)
        go_roundw
        case rel => exact ⟨i + 1, by omega, by go_num, hg.out, trivial⟩
        case measure => simp [intOf]; omega
    · obtain rfl : i = 64 := by omega
      have hg : Hid (InPost l u a b wr (.returned (.bool true)) wr) := ⟨rfl, .inl ⟨hin, rfl⟩⟩
      clear hin F hw
      go_wp2_with fail
      go_ret
      exact hg.out
end

end Go.Proofs.Ytmedbodjikbmfaa
