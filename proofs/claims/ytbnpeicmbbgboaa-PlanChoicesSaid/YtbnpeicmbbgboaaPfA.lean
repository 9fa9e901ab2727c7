/-
  Own words and walks: a profile in memory, and what tells of it alone: none, Now, Version, end.
-/
import Derived.Test.YtbnpeicmbbgboaaChecked
import Derived.Test.YtbnpeicmbbgboaaPfM
import Derived.Test.YtbnpeicmbbgboaaOwnK
import Derived.WalkKit
import Derived.WalkSpells
import Derived.WalkLawsBesides
import Derived.Deep.DeepMust
import Derived.Lib.Hide
import Derived.Lib.MinMax
namespace Go.Proofs.Ytbnpeicmbbgboaa
set_option maxRecDepth 8000
open Go.RowKit Go.Sort Go.Lib

theorem pf_own_kept {w w' : World} {base : Nat} {e : TypeId} {size : Nat} {v : Value} {n : Nat} {xs : List Value} (h : w.ownsRow base e size v n xs) (hb : Below w.heap.size w w') : w'.ownsRow base e size v n xs :=
  ownsRow_below h hb fun k hk => (h.lt k hk).2

def enc2 (x : Int × Int) : List Value := [.int .i64 x.1, .int .i64 x.2]
def prV (l : List (Int × Int)) : List Value := l.flatMap enc2
theorem prV_length (l : List (Int × Int)) : (prV l).length = l.length * 2 := by
  induction l with
  | nil => rfl
  | cons a l ih => show (enc2 a ++ prV l).length = _; rw [List.length_append, ih, List.length_cons]; simp [enc2]; omega
theorem prV_get {l : List (Int × Int)} {i : Nat} {x : Int × Int} (h : l[i]? = some x) : (prV l)[i * 2]? = some (.int .i64 x.1) ∧ (prV l)[i * 2 + 1]? = some (.int .i64 x.2) := by
  induction l generalizing i with
  | nil => simp at h
  | cons a l ih =>
    have e : prV (a :: l) = enc2 a ++ prV l := by simp [prV]
    rw [e]
    rcases i with _ | i
    · simp at h; subst h; exact ⟨rfl, rfl⟩
    · have := ih (i := i) (by simpa using h)
      rw [List.getElem?_append_right (by simp [enc2]; omega), List.getElem?_append_right (by simp [enc2]; omega)]
      have e1 : (i + 1) * 2 - (enc2 a).length = i * 2 := by simp [enc2]; omega
      have e2 : (i + 1) * 2 + 1 - (enc2 a).length = i * 2 + 1 := by simp [enc2]; omega
      rw [e1, e2]
      exact this
theorem prV_append (l r : List (Int × Int)) : prV (l ++ r) = prV l ++ prV r := by simp [prV]
theorem prV_take (L : List (Int × Int)) (c : Nat) : prV (L.take c) = (prV L).take (c * 2) := by
  induction L generalizing c with
  | nil => simp [prV]
  | cons a L ih =>
    rcases c with _ | c
    · simp [prV]
    · have e : (c + 1) * 2 = c * 2 + 1 + 1 := by omega
      rw [e]
      have := ih c
      simp only [prV, enc2, List.flatMap_cons, List.cons_append, List.nil_append, List.take_succ_cons] at this ⊢
      rw [this]
theorem prV_drop (L : List (Int × Int)) (c : Nat) : prV (L.drop c) = (prV L).drop (c * 2) := by
  induction L generalizing c with
  | nil => simp [prV]
  | cons a L ih =>
    rcases c with _ | c
    · simp [prV]
    · have e : (c + 1) * 2 = c * 2 + 1 + 1 := by omega
      rw [e]
      have := ih c
      simp only [prV, enc2, List.flatMap_cons, List.cons_append, List.nil_append, List.drop_succ_cons] at this ⊢
      rw [this]
theorem prV_set (L : List (Int × Int)) (c : Nat) (x : Int × Int) : prV (L.set c x) = ((prV L).set (c * 2) (.int .i64 x.1)).set (c * 2 + 1) (.int .i64 x.2) := by
  induction L generalizing c with
  | nil => simp [prV]
  | cons a L ih =>
    rcases c with _ | c
    · simp [prV, enc2]
    · have e : (c + 1) * 2 = c * 2 + 1 + 1 := by omega
      have e2 : (c + 1) * 2 + 1 = c * 2 + 1 + 1 + 1 := by omega
      rw [List.set_cons_succ, e2, e]
      have := ih c
      simp only [prV, enc2, List.flatMap_cons, List.cons_append, List.nil_append, List.set_cons_succ] at this ⊢
      rw [this]
theorem prV_one (L : List (Int × Int)) : ∀ u ∈ prV L, u.oneCell' = true := by
  intro u hu
  obtain ⟨x, _, hx⟩ := List.mem_flatMap.1 hu
  simp [enc2] at hx
  rcases hx with rfl | rfl <;> rfl
theorem get_tAV {L : List (Int × Int)} {i : Nat} (h : i < L.length) : L[i]? = some (tA L i, tV L i) := by
  simp [tA, tV, h]

/-- As it was, but for the blocks p and g, and new ones. -/
structure Off (p g : Nat) (w w' : World) : Prop where
  os : w'.os = w.os
  tape : w'.tape = w.tape
  output : w'.output = w.output
  size : w.heap.size ≤ w'.heap.size
  block : ∀ k, k < w.heap.size → k ≠ p → k ≠ g → w'.heap[k]? = w.heap[k]?
section
variable {p g g' : Nat} {w w' w'' : World}
theorem Off.refl (p g : Nat) (w : World) : Off p g w w := ⟨rfl, rfl, rfl, Nat.le_refl _, fun _ _ _ _ => rfl⟩
theorem Off.of_below (h : Below w.heap.size w w') : Off p g w w' := ⟨h.os, h.tape, h.output, h.size, fun k hk _ _ => h.block k hk⟩
theorem Off.trans (h : Off p g w w') (h' : Off p g' w' w'') (hg : g' = g ∨ w.heap.size ≤ g') : Off p g w w'' :=
  ⟨h'.os.trans h.os, h'.tape.trans h.tape, h'.output.trans h.output, Nat.le_trans h.size h'.size, fun k hk h1 h2 => by
    rw [h'.block k (Nat.lt_of_lt_of_le hk h.size) h1 (by omega), h.block k hk h1 h2]⟩
theorem Off.below {base : Nat} (h : Off p g w w') (hp : base ≤ p) (hg : base ≤ g) (hb : base ≤ w.heap.size) : Below base w w' := ⟨h.os, h.tape, h.output, h.size, fun k hk => h.block k (by omega) (by omega) (by omega)⟩
theorem Off.own {base : Nat} {e : TypeId} {sz n : Nat} {v : Value} {xs : List Value} (h : Off p g w w') (ho : w.ownsRow base e sz v n xs) (hne : ∀ k, v.ownBlock = some k → k ≠ p ∧ k ≠ g) : w'.ownsRow base e sz v n xs :=
  ownsRow_block ho fun k hk => h.block k (ho.lt k hk).2 (hne k hk).1 (hne k hk).2
theorem Off.cell {a : Addr} (h : Off p g w w') (h1 : a.block < w.heap.size) (h2 : a.block ≠ p) (h3 : a.block ≠ g) : w'.cell? a = w.cell? a := by
  simp only [World.cell?, h.block _ h1 h2 h3]
theorem Off.setCell {b j : Nat} {v : Value} (h : Off p g w w') (hb : b = p ∨ b = g ∨ w.heap.size ≤ b) : Off p g w (w'.setCell ⟨b, j, none⟩ v) :=
  ⟨h.os, h.tape, h.output, by simpa using h.size, fun k hk h1 h2 => by
    rw [Below.heap_setCell w' ⟨b, j, none⟩ v k (by show k ≠ b; omega)]; exact h.block k hk h1 h2⟩
theorem Off.then_below (h : Off p g w w') (h' : Below w'.heap.size w' w'') : Off p g w w'' := h.trans (Off.of_below h') (.inl rfl)
theorem Off.drew (h : Off p g w w') : Off p g w w'.drew := ⟨h.os, h.tape, h.output, h.size, h.block⟩
end

/-- A profile in memory: its block p, its steps' block g. -/
def PW (w : World) (p g : Nat) (L : List (Int × Int)) (ver : Int) : Prop :=
  ∃ cap, w.heap[p]? = some (.cells #[.slice (some ⟨g, 0, none⟩) L.length cap, .int .i64 ver] 56 (0, 0)) ∧ w.ownsRow 0 49 2 (.slice (some ⟨g, 0, none⟩) L.length cap) L.length (prV L)

theorem pf_lt_of_heap {w : World} {p : Nat} {o : Obj} (h : w.heap[p]? = some o) : p < w.heap.size := by
  rcases Nat.lt_or_ge p w.heap.size with h' | h'
  · exact h'
  · rw [Array.getElem?_eq_none h'] at h; cases h
theorem pf_apart_types {w : World} {p q : Nat} {a b : Array Value} {s t : TypeId} {x y : Nat × Nat} (h : w.heap[p]? = some (.cells a s x)) (h' : w.heap[q]? = some (.cells b t y)) (hne : s ≠ t) : p ≠ q := by
  intro e
  subst e
  rw [h] at h'
  injection h' with h'
  injection h' with _ h3
  exact hne h3
theorem own_heap {w : World} {base g n cap sz : Nat} {e : TypeId} {xs : List Value} (h : w.ownsRow base e sz (.slice (some ⟨g, 0, none⟩) n cap) n xs) : ∃ cur, w.heap[g]? = some (.cells cur e (0, 0)) ∧ n ≤ cap ∧ cap ≤ maxLen ∧ cur.size = cap * sz ∧ cur.toList.take (n * sz) = xs := by
  rcases h.2 with ⟨e0, _⟩ | ⟨g', cap', cur, e0, _, hg, hn, hm, hs, ht⟩
  · cases e0
  · cases e0
    exact ⟨cur, hg, hn, hm, hs, ht⟩

section
variable {w w' : World} {p g : Nat} {L : List (Int × Int)} {ver : Int}

/-- What a walk asks of a profile. -/
structure PFacts (w : World) (p g : Nat) (L : List (Int × Int)) (ver : Int) (cap : Nat) : Prop where
  obj : w.heap[p]? = some (.cells #[.slice (some ⟨g, 0, none⟩) L.length cap, .int .i64 ver] 56 (0, 0))
  own : w.ownsRow 0 49 2 (.slice (some ⟨g, 0, none⟩) L.length cap) L.length (prV L)
  c0 : w.cell? ⟨p, 0, none⟩ = some (.slice (some ⟨g, 0, none⟩) L.length cap)
  c1 : w.cell? ⟨p, 1, none⟩ = some (.int .i64 ver)
  fz : ∀ j, w.frozen? ⟨p, j, none⟩ = false
  pl : p < w.heap.size
  gl : g < w.heap.size
  pg : p ≠ g
  lc : L.length ≤ cap
  cm : cap ≤ maxLen

theorem PW.facts (h : PW w p g L ver) : ∃ cap, PFacts w p g L ver cap := by
  obtain ⟨cap, h1, h2⟩ := h
  obtain ⟨cur, hg, hn, hm, _, _⟩ := own_heap h2
  refine ⟨cap, h1, h2, ?_, ?_, fun j => ?_, pf_lt_of_heap h1, pf_lt_of_heap hg, pf_apart_types h1 hg (by decide), hn, hm⟩
  · simp [World.cell?, h1]
  · simp [World.cell?, h1]
  · simp [World.frozen?, h1]
theorem PFacts.pw {cap : Nat} (h : PFacts w p g L ver cap) : PW w p g L ver := ⟨cap, h.obj, h.own⟩
theorem PW.kept (h : PW w p g L ver) (hb : Below w.heap.size w w') : PW w' p g L ver := by
  obtain ⟨cap, h1, h2⟩ := h
  exact ⟨cap, by rw [hb.block p (pf_lt_of_heap h1)]; exact h1, pf_own_kept h2 hb⟩
theorem PW.off {q h' : Nat} (h : PW w p g L ver) (ho : Off q h' w w') (h1 : p ≠ q ∧ p ≠ h') (h2 : g ≠ q ∧ g ≠ h') : PW w' p g L ver := by
  obtain ⟨cap, e1, e2⟩ := h
  exact ⟨cap, by rw [ho.block p (pf_lt_of_heap e1) h1.1 h1.2]; exact e1, ho.own e2 fun k hk => by cases hk; exact h2⟩

/-- The two cells of a step. -/
theorem step_cells {cap i : Nat} (h : w.ownsRow 0 49 2 (.slice (some ⟨g, 0, none⟩) L.length cap) L.length (prV L)) (hi : i < L.length) :
    w.cell? ⟨g, i * 2, none⟩ = some (.int .i64 (tA L i)) ∧ w.cell? ⟨g, i * 2 + 1, none⟩ = some (.int .i64 (tV L i)) := by
  obtain ⟨h0, h1⟩ := prV_get (get_tAV hi)
  have c0 := h.cells (g := g) rfl _ _ h0
  have c1 := h.cells (g := g) rfl _ _ h1
  rw [Go.WideShapes.add_plain] at c0 c1
  simp only [Nat.zero_add] at c0 c1
  exact ⟨c0, c1⟩

theorem pf_none_any (h : PW w p g L ver) (hp : 0 < L.length) :
    Calls Try.prog 30 #[.pointer (some ⟨p, 0, none⟩)] w fun e w' => e = .returned (.bool false) ∧ w = w' := by
  obtain ⟨cap, F⟩ := h.facts
  have c0 := F.c0
  have hne : ((L.length : Int) == 0) = false := beq_eq_false_iff_ne.2 (by omega)
  clear F h
  go_enter Try.func30, Try.ntmps30
  go_wp2_with fail
  go_ret
  exact ⟨rfl, rfl⟩
theorem pf_none_nil (w : World) : Calls Try.prog 30 #[.pointer none] w fun e w' => e = .returned (.bool true) ∧ w = w' := by
  go_enter Try.func30, Try.ntmps30
  go_wp2_with fail
  go_ret
  exact ⟨rfl, rfl⟩

theorem Now_any (h : PW w p g L ver) (hp : 0 < L.length) :
    Calls Try.prog 41 #[.pointer (some ⟨p, 0, none⟩)] w fun e w' => e = .returned (.int .i64 (tA L 0)) ∧ w = w' := by
  have hn := pf_none_any h hp
  obtain ⟨cap, F⟩ := h.facts
  have c0 := F.c0
  have s0 := (step_cells F.own hp).1
  have hp' : (0 : Int) < (L.length : Int) := by omega
  rw [Nat.zero_mul] at s0
  clear F h
  go_enter Try.func41, Try.ntmps41
  go_wp2_with (go_at_call 30; go_must (refine hn.mono ?_); rintro e w' ⟨rfl, rfl⟩)
  go_ret
  exact ⟨rfl, rfl⟩

/-- When a step ends. -/
def tE (L : List (Int × Int)) (i : Nat) : Int := if i + 1 < L.length then tA L (i + 1) else 1152921504606846976

theorem end_any {i : Nat} (h : PW w p g L ver) (hi : i < L.length) (hl : L.length ≤ 1000) :
    Calls Try.prog 44 #[.pointer (some ⟨p, 0, none⟩), .int .i64 i] w fun e w' => e = .returned (.int .i64 (tE L i)) ∧ w = w' := by
  obtain ⟨cap, F⟩ := h.facts
  have c0 := F.c0
  have hw : IntKind.i64.wrap ((i : Int) + 1) = (i : Int) + 1 := IntWalk.i64_in _ (by omega)
  by_cases hx : i + 1 < L.length
  · rw [show tE L i = tA L (i + 1) from if_pos hx]
    have s0 := (step_cells F.own hx).1
    have h1 : ¬ ((i : Int) + 1 = (L.length : Int)) := by omega
    have h2 : (0 : Int) ≤ (i : Int) + 1 := by omega
    have h3 : (i : Int) + 1 < (L.length : Int) := by omega
    have h4 : ((i : Int) + 1).toNat = i + 1 := by omega
    clear F h
    go_enter Try.func44, Try.ntmps44
    go_wp2_with fail
    go_ret
    exact ⟨rfl, rfl⟩
  · rw [show tE L i = 1152921504606846976 from if_neg hx]
    have h1 : ((i : Int) + 1 = (L.length : Int)) := by omega
    clear F h
    go_enter Try.func44, Try.ntmps44
    go_wp2_with fail
    go_ret
    exact ⟨rfl, rfl⟩
end

end Go.Proofs.Ytbnpeicmbbgboaa
