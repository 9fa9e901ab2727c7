/-
  Own law: a range over a function value that has arguments laid first (a method value, 'for x := range s.Each { .. }'), whose loop is never left early: what has come lies in the invariant. Nothing of a program is said here.
-/
import Derived.RangeFuncBox
import Derived.RangeFuncLeaves
import Derived.Shelf.Abstract
namespace Go.Proofs.Ytpjmogakimelaaa
open Go.RowKit

section
variable {F : Fence} {n : Nat} {P : Program} {α : Type}

/-- How a round is left: it goes on; what is no cells lies as it lay. -/
def Goes (I : List α → World → Prop) (xs : List α) (W : World) : Exit → Act → World → Prop
  | .normal, _, W' => KeepsOthers W W' ∧ I xs W'
  | _, _, _ => False

/-- The function calls yield at each of xs in turn, whatever its rounds keep (J), as long as they say 'more'. -/
def GivesAll (F : Fence) (n : Nat) (P : Program) (gf : Nat) (first : Array Value) (encs : α → Array Value) (xs : List α) : Prop :=
  ∀ (l : Nat) (J : List α → World → Prop) (W : World),
    (∀ pre x W1, J pre W1 → pre ++ [x] <+: xs → YieldAt F (n - 1) P l (encs x) W1 fun e W' => e = .returned (.bool true) ∧ J (pre ++ [x]) W') →
    J [] W → CallsIn F n P gf (first ++ #[.func (.yield l) #[] #[]]) W fun e W' => (∃ v, e = .returned v) ∧ J xs W'

theorem wpIn_range_all {g : Operand} {ps : Array Tmp} {assign body : Code} {Q : Exit → Act → World → Prop} {a : Act} {w : World}
    (hro : F.round = none) (h1 : F.depth.isSome = true → 1 ≤ n) {gf : Nat} {first : Array Value} (hg : a.eval g = .func (.func gf) first #[]) (hFg : F.fn gf) (eg : ∀ args w, (callFunc gf args).run P w = .ok (.enter gf args) w)
    {encs : α → Array Value} {xs : List α} (hps : ∀ x, (encs x).size = ps.size) (hall : GivesAll F (n - 1) P gf first encs xs)
    (I : List α → World → Prop) (hI : OwnFrom w.heap.size I) (h0 : I [] w) (a₁ : α → Act)
    (hassign : ∀ (l : Nat) (x : α) (W : World) (K : Act → World → Prop), K (a₁ x) W →
      assign.wpIn (F.inRound l) (n - 1 - 1) P (Exit.then K (fun _ _ _ => False)) { tmps := (ps.zip (encs x)).foldl (fun t (p, v) => t.setIfInBounds p v) a.tmps, defers := [] } W)
    (hbody : ∀ (l : Nat) (pre : List α) (x : α) (W : World), I pre W → pre ++ [x] <+: xs → body.wpIn (F.inRound l) (n - 1 - 1) P (Goes I (pre ++ [x]) W) (a₁ x) W)
    (hdone : ∀ (D : Nat) (W : World), w.heap.size ≤ D → I xs W → W.heap[D]? = some (.deferred (some [])) → Q .normal { a with defers := { target := .collected D, args := #[] } :: a.defers } W) :
    (Code.rangeFunc g ps assign body).wpIn F n P Q a w := by
  refine wpIn_rangeFunc fun fn hfn => ?_
  rw [hro]
  obtain ⟨L, hL⟩ : ∃ L, L = w.heap.size + 1 := ⟨_, rfl⟩
  obtain ⟨R, hR⟩ : ∃ R : LoopState → Loop, R = fun st => { state := st, pending := none, fn, tmps := a.tmps, params := ps, assign, body, defers := w.heap.size } := ⟨_, rfl⟩
  have hstart := run_enterLoop_outer (P := P) (w := w) fn a.tmps ps assign body
  obtain ⟨W1, hW1⟩ : ∃ W1, W1 = (w.alloc (.deferred (some []))).alloc (.loop (R .ready)) := ⟨_, rfl⟩
  have hstart2 : (Instr.enterLoop fn a.tmps ps assign body none).run P w = .ok (L, [{ target := .collected w.heap.size, args := #[] }]) W1 := by rw [hstart, hW1, hL, hR]
  -- what holds between two rounds: the invariant, the record, the block of the rounds' own deferred calls
  let J : List α → World → Prop := fun pre W => I pre W ∧ W.heap[L]? = some (.loop (R .ready)) ∧ W.heap[w.heap.size]? = some (.deferred (some []))
  have hJ0 : J [] W1 := by
    refine ⟨by rw [hW1]; exact hI.alloc _ (hI.alloc _ h0), ?_, ?_⟩
    · have := World.alloc_heap_new (w.alloc (.deferred (some []))) (.loop (R .ready))
      rw [World.size_alloc] at this
      rw [hW1, hL]; exact this
    · rw [hW1]; exact (Below.heap_alloc _ _ _ (by simp)).trans (World.alloc_heap_new w _)
  refine ⟨L, [{ target := .collected w.heap.size, args := #[] }], W1, { target := .fn (.func gf) #[], args := first ++ #[.func (.yield L) #[] #[]] }, W1, gf, first ++ #[.func (.yield L) #[] #[]], W1, hstart2, ?_, ?_, ?_, h1, ?_⟩
  · simp only [resolve, hg]
    simp [go_sem]
  · intro f' hf'
    simp [Target.leads] at hf'
    subst hf'
    exact hFg
  · simp [invoke, go_sem, eg]
  refine CallsIn.mono (hall L J W1 ?_ hJ0) ?_
  · rintro pre x W ⟨hi, hl, hk⟩ hpre
    have hlt : L < W.heap.size := (Array.getElem?_eq_some_iff.1 hl).1
    have hy := run_yield (P := P) (args := encs x) hl (by rw [hR]; exact hps x)
    have hbr := run_beginRound (P := P) hl (by rw [hR])
    obtain ⟨B, hB⟩ : ∃ B : Loop, B = { R .ready with state := .busy } := ⟨_, rfl⟩
    rw [← hB] at hbr
    have hi2 := hI.putObj (.loop B) hi (show w.heap.size ≤ L by omega) hl rfl
    have hl2 : (W.putObj L (.loop B)).heap[L]? = some (.loop B) := World.putObj_heap_same hlt
    have hk2 : (W.putObj L (.loop B)).heap[w.heap.size]? = some (.deferred (some [])) := (World.putObj_heap_other (by omega)).trans hk
    have hR1 : (R .ready).fn = fn ∧ (R .ready).tmps = a.tmps ∧ (R .ready).params = ps ∧ (R .ready).assign = assign ∧ (R .ready).body = body := by rw [hR]; exact ⟨rfl, rfl, rfl, rfl, rfl⟩
    obtain ⟨r1, r2, r3, r4, r5⟩ := hR1
    rw [r1, r2, r3, r4, r5] at hy
    refine ⟨_, _, _, _, hy, roundIn_of_wpIn hfn (hassign L x W _ ⟨_, hbr, wpIn_mono (hbody L pre x _ hi2 hpre) ?_⟩)⟩
    rintro e a3 W3 hp
    cases e with
    | normal =>
      obtain ⟨hk3, hi3⟩ := hp
      have hl3 := hk3.same _ _ hl2 rfl
      have her := run_endRound (P := P) none hl3
      have hback : ({ B with state := if (none : Option Code).isNone then .ready else .done, pending := none } : Loop) = R .ready := by rw [hB, hR]; rfl
      rw [hback] at her
      exact ⟨_, _, her, rfl, hI.putObj _ hi3 (show w.heap.size ≤ L by omega) hl3 rfl, World.putObj_heap_same (Array.getElem?_eq_some_iff.1 hl3).1, (World.putObj_heap_other (by omega)).trans (hk3.same _ _ hk2 rfl)⟩
    | _ => exact hp.elim
  · rintro e W2 ⟨⟨v, rfl⟩, hi, hl, hk⟩
    have hel := run_endLoop (P := P) hl (by rw [hR]; simp)
    have hpn : (R .ready).pending = none := by rw [hR]
    rw [hpn] at hel
    exact ⟨none, _, hel, hdone _ _ (Nat.le_refl _) (hI.putObj _ hi (show w.heap.size ≤ L by omega) hl rfl) ((World.putObj_heap_other (by omega)).trans hk)⟩

end
end Go.Proofs.Ytpjmogakimelaaa
