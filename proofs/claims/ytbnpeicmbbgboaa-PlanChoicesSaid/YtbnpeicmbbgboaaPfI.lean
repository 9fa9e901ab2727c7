/-
  Own walks: a step that changes nothing is left out; the least of a stretch.
-/
import Derived.Test.YtbnpeicmbbgboaaPfH
import Derived.BigQuiet
namespace Go.Proofs.Ytbnpeicmbbgboaa
set_option maxRecDepth 8000
open Go.RowKit Go.Sort Go.Lib

section
variable {w : World} {p g : Nat} {L : List (Int × Int)} {ver now : Int} {f : Int → Int}

/-- Another slice of steps is laid into a profile. -/
theorem PW_put {g' cap' : Nat} {L' : List (Int × Int)} {s : Value} (h1 : w.heap[p]? = some (.cells #[s, .int .i64 ver] 56 (0, 0))) (h2 : w.ownsRow 0 49 2 (.slice (some ⟨g', 0, none⟩) L'.length cap') L'.length (prV L')) :
    PW (w.setCell ⟨p, 0, none⟩ (.slice (some ⟨g', 0, none⟩) L'.length cap')) p g' L' ver := by
  obtain ⟨cur, hg, _, _, _, _⟩ := own_heap h2
  have hpg : p ≠ g' := pf_apart_types h1 hg (by decide)
  have hlt := pf_lt_of_heap h1
  refine ⟨cap', ?_, own_far h2 (fun k hk => by cases hk; exact fun e => hpg e.symm) 0 _⟩
  have h1' : w.heap[p] = .cells #[s, .int .i64 ver] 56 (0, 0) := (Array.getElem?_eq_some_iff.1 h1).2
  simp [World.setCell, hlt, Array.getElem_modify, h1']

set_option maxRecDepth 100000 in
set_option maxHeartbeats 1000000 in
theorem join_no (i : Nat) (h : PW w p g L ver) (hl : L.length ≤ 1000) (hil : i ≤ L.length) (hno : ¬ (0 < i ∧ i < L.length ∧ tV L i = tV L (i - 1))) :
    Calls Try.prog 51 #[.pointer (some ⟨p, 0, none⟩), .int .i64 i] w fun e w' => e = .returned (.tuple #[]) ∧ Below w.heap.size w w' := by
  have hmix := pf_mixed
  obtain ⟨cap, F⟩ := h.facts
  have c0 := F.c0
  have pl := F.pl
  have hbe : Below w.heap.size w w := Below.refl _ _
  by_cases h0 : 0 < i
  · have d0 : decide ((0 : Int) < (i : Int)) = true := decide_eq_true (by omega)
    by_cases h1 : i < L.length
    · have d1 : decide ((i : Int) < (L.length : Int)) = true := decide_eq_true (by omega)
      have hne : tV L i ≠ tV L (i - 1) := fun e => hno ⟨h0, h1, e⟩
      obtain ⟨q, hq⟩ : ∃ q, q = i - 1 := ⟨i - 1, rfl⟩
      rw [← hq] at hne
      have s1 := (step_cells F.own h1).2
      have s0 := (step_cells F.own (show q < L.length by omega)).2
      obtain ⟨x, hx⟩ : ∃ x, x = tV L i := ⟨_, rfl⟩
      obtain ⟨y, hy⟩ : ∃ y, y = tV L q := ⟨_, rfl⟩
      rw [← hx] at s1 hne
      rw [← hy] at s0 hne
      replace hx := Lib.hid hx
      replace hy := Lib.hid hy
      have e1 : (x == y) = false := beq_eq_false_iff_ne.2 hne
      have hw : IntKind.i64.wrap ((i : Int) - 1) = (q : Int) := by rw [IntWalk.i64_in _ (by omega)]; omega
      have b1 : (0 : Int) ≤ (i : Int) := by omega
      have b2 : (i : Int) < (L.length : Int) := by omega
      have b3 : (0 : Int) ≤ (q : Int) := by omega
      have b4 : (q : Int) < (L.length : Int) := by omega
      replace hq := Lib.hid hq
      clear hno h F hne
      go_enter Try.func51, Try.ntmps51
      go_wp2_with fail
      go_quiet (fail)
      go_wp2_with fail
      go_end0
      exact ⟨rfl, below_drewN hbe nq⟩
    · have d1 : decide ((i : Int) < (L.length : Int)) = false := decide_eq_false (by omega)
      clear hno h F
      go_enter Try.func51, Try.ntmps51
      go_wp2_with fail
      go_quiet (fail)
      go_wp2_with fail
      go_end0
      exact ⟨rfl, below_drewN hbe nq⟩
  · obtain rfl : i = 0 := by omega
    have d0 : decide ((0 : Int) < ((0 : Nat) : Int)) = false := by decide
    clear hno h F
    go_enter Try.func51, Try.ntmps51
    go_wp2_with fail
    go_quiet (fail)
    go_wp2_with fail
    go_end0
    exact ⟨rfl, below_drewN hbe nq⟩

set_option maxRecDepth 100000 in
set_option maxHeartbeats 1000000 in
theorem join_yes (i : Nat) (h : PW w p g L ver) (hl : L.length ≤ 1000) (h0 : 0 < i) (h1 : i < L.length) (he : tV L i = tV L (i - 1)) :
    Calls Try.prog 51 #[.pointer (some ⟨p, 0, none⟩), .int .i64 i] w fun e w' => e = .returned (.tuple #[]) ∧ PW w' p g (delL L i) ver ∧ Off p g w w' := by
  have hmix := pf_mixed
  obtain ⟨cap, F⟩ := h.facts
  have c0 := F.c0
  have pl := F.pl
  have hbe : Below w.heap.size w w := Below.refl _ _
  have d0 : decide ((0 : Int) < (i : Int)) = true := decide_eq_true (by omega)
  have d1 : decide ((i : Int) < (L.length : Int)) = true := decide_eq_true (by omega)
  obtain ⟨q, hq⟩ : ∃ q, q = i - 1 := ⟨i - 1, rfl⟩
  rw [← hq] at he
  have s1 := (step_cells F.own h1).2
  have s0 := (step_cells F.own (show q < L.length by omega)).2
  rw [← he] at s0
  obtain ⟨x, hx⟩ : ∃ x, x = tV L i := ⟨_, rfl⟩
  rw [← hx] at s1 s0
  replace hx := Lib.hid hx
  have e1 : (x == x) = true := by simp
  have hw : IntKind.i64.wrap ((i : Int) - 1) = (q : Int) := by rw [IntWalk.i64_in _ (by omega)]; omega
  have hw2 : IntKind.i64.wrap ((i : Int) + 1) = (i : Int) + 1 := IntWalk.i64_in _ (by omega)
  have b1 : (0 : Int) ≤ (i : Int) := by omega
  have b2 : (i : Int) < (L.length : Int) := by omega
  have b3 : (0 : Int) ≤ (q : Int) := by omega
  have b4 : (q : Int) < (L.length : Int) := by omega
  replace hq := Lib.hid hq
  replace he := Lib.hid he
  clear F
  go_enter Try.func51, Try.ntmps51
  go_wp2_with fail
  go_quiet (fail)
  have hb2 : Below w.heap.size w (w.drewN nq) := below_drewN hbe nq
  obtain ⟨wq, hwq⟩ : ∃ wq, wq = w.drewN nq := ⟨_, rfl⟩
  rw [← hwq] at hb2 ⊢
  clear hwq c0 s0 s1
  have hq2 := h.kept hb2
  obtain ⟨cap2, F2⟩ := hq2.facts
  have c0 := F2.c0
  have hdel0 := delete_any i (i + 1) F2.own hl (by omega) (by omega)
  rw [show ((i + 1 : Nat) : Int) = (i : Int) + 1 by omega] at hdel0
  obtain ⟨n, hn⟩ : ∃ n, n = (delL L i).length := ⟨_, rfl⟩
  have hdel : Calls Try.prog 54 #[.slice (some ⟨g, 0, none⟩) L.length cap2, .int .i64 i, .int .i64 ((i : Int) + 1)] wq fun e w' => e = .returned (.slice (some ⟨g, 0, none⟩) n cap2) ∧ w'.ownsRow 0 49 2 (.slice (some ⟨g, 0, none⟩) n cap2) n (prV (delL L i)) ∧ Off g g wq w' := by rw [hn]; exact hdel0
  clear hdel0
  have hwp : Hid (∀ (w2 : World), w2.ownsRow 0 49 2 (.slice (some ⟨g, 0, none⟩) n cap2) n (prV (delL L i)) → Off g g wq w2 → PW (w2.setCell ⟨p, 0, none⟩ (.slice (some ⟨g, 0, none⟩) n cap2)) p g (delL L i) ver ∧ Off p g w (w2.setCell ⟨p, 0, none⟩ (.slice (some ⟨g, 0, none⟩) n cap2)) ∧ w2.cell? ⟨p, 0, none⟩ = wq.cell? ⟨p, 0, none⟩ ∧ w2.frozen? ⟨p, 0, none⟩ = false) := by
    intro w2 ho2 hoff
    subst hn
    have hp2 := F2.obj
    rw [← hoff.block p F2.pl F2.pg F2.pg] at hp2
    refine ⟨PW_put hp2 ho2, ((Off.of_below hb2).trans hoff.mono (.inl rfl)).setCell (.inl rfl), hoff.cell (a := ⟨p, 0, none⟩) F2.pl F2.pg F2.pg, by simp [World.frozen?, hp2]⟩
  replace hn := Lib.hid hn
  clear h hq2 F2 hb2 hbe
  go_wp2_with fail
  go_at_call 54
  refine hdel.mono ?_
  clear hdel
  rintro e w2 ⟨rfl, ho2, hoff⟩
  obtain ⟨r1, r2, r3, r4⟩ := hwp.out w2 ho2 hoff
  rw [← r3] at c0
  replace r1 := Lib.hid r1
  replace r2 := Lib.hid r2
  clear hwp ho2 hoff r3
  go_wp2_with fail
  go_end0
  exact ⟨rfl, r1.out, r2.out⟩
end

end Go.Proofs.Ytbnpeicmbbgboaa
