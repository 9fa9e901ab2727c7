/-
  Own walk: the statement on two jobs, over what is asked of Compare and Less.
-/
import Derived.Test.YtenpdglmmbkmkaaOrB
import Derived.Shelf.SlicesQ.Load
namespace Go.Proofs.Ytenpdglmmbkmkaa
open Go.RowKit Go.Lib Go.Sort

/-- A load of what lies in a block of its own, its size a variable. -/
theorem load_box {W : World} {p k : Nat} {cs : List Value} {T : TypeId} (h : W.heap[p]? = some (.cells cs.toArray T (0, 0))) (hk : cs.length = k) :
    Sem.run Try.prog (loadCellsFrom ⟨p, 0, none⟩ 0 k #[]) W = .ok cs.toArray W := by
  refine run_loadCellsFrom_list Try.prog W _ cs k hk fun j v hj => ?_
  rw [Go.WideShapes.add_plain]
  simp [World.cell?, h, hj]

theorem aE_job : ∀ w, Sem.run Try.prog (isAgg 24) w = .ok true w := Try.isAgg24
theorem zE_job : ∀ w, Sem.run Try.prog (Go.sizeOf 24) w = .ok 10 w := Try.sizeOf24

set_option maxRecDepth 100000 in
set_option maxHeartbeats 4000000 in
theorem compares_walk (S : OrdSpec) (a b : Jb) (w : World) : Calls Try.prog 3 #[.agg (encJ a).toArray, .agg (encJ b).toArray] w fun e w' => e = .returned (.bool true) ∧ Below w.heap.size w w' := by
  have ha := fun W => ahead_fn a b W
  have hb := fun W => ahead_fn b a W
  have hc := fun W => S.cmp a b W
  have hl := fun W => S.less a b W
  have haw := fun W => awake_any S W
  have zE := zE_job
  have lA := encJ_len a
  have lB := encJ_len b
  have hcmp : cmpJ a b = if aheadJ a b then -1 else if aheadJ b a then 1 else 0 := rfl
  have hnot : aheadJ a b = true → aheadJ b a = false := aheadJ_not
  rw [hcmp] at hc
  clear hcmp
  generalize encJ a = cA at *
  generalize encJ b = cB at *
  obtain ⟨k, hk⟩ : ∃ k, k = 10 := ⟨_, rfl⟩
  rw [← hk] at zE lA lB
  clear hk S
  generalize aheadJ a b = A at *
  generalize aheadJ b a = B at *
  obtain ⟨w0, hw0⟩ : ∃ w0, w0 = (w.alloc (.cells cA.toArray 24)).alloc (.cells cB.toArray 24) := ⟨_, rfl⟩
  have hsz : w0.heap.size = w.heap.size + 2 := by rw [hw0]; simp
  have hA0 : w0.heap[w.heap.size]? = some (.cells cA.toArray 24 (0, 0)) := by
    rw [hw0, Go.heap_alloc_old _ _ (by simp)]
    exact heap_alloc_new w _
  have hB0 : w0.heap[w.heap.size + 1]? = some (.cells cB.toArray 24 (0, 0)) := by
    rw [hw0]
    have := heap_alloc_new (w.alloc (.cells cA.toArray 24)) (.cells cB.toArray 24)
    simpa using this
  have hbw : Below w.heap.size w w0 := by rw [hw0]; exact ((Below.refl _ _).alloc (Nat.le_refl _) _).alloc (by simp) _
  have LD : Hid (∀ W, Below w0.heap.size w0 W → Sem.run Try.prog (loadCellsFrom ⟨w.heap.size, 0, none⟩ 0 k #[]) W = .ok cA.toArray W ∧ Sem.run Try.prog (loadCellsFrom ⟨w.heap.size + 1, 0, none⟩ 0 k #[]) W = .ok cB.toArray W) := fun W hW =>
    ⟨load_box ((hW.block _ (by omega)).trans hA0) lA, load_box ((hW.block _ (by omega)).trans hB0) lB⟩
  clear hA0 hB0
  have key : ∀ A' B' : Bool, A = A' → B = B' → ¬ (A' = true ∧ B' = true) → Calls Try.prog 3 #[.agg cA.toArray, .agg cB.toArray] w fun e w' => e = .returned (.bool true) ∧ Below w.heap.size w w' := by
    intro A' B' eA eB hno
    subst eA; subst eB
    obtain ⟨p0, p1⟩ := LD.out w0 (Below.refl _ _)
    rw [hw0] at p0 p1
    clear hnot
    rcases Bool.eq_false_or_eq_true A with hA | hA <;> rcases Bool.eq_false_or_eq_true B with hB | hB
    · exact absurd ⟨hA, hB⟩ hno
    all_goals
      subst hA; subst hB
      clear hno
      simp only [if_true, if_false, Bool.false_eq_true] at hc
      go_enter Try.func3, Try.ntmps3
      go_wp2_with fail
      go_at_call 7
      refine (ha _).mono ?_
      clear ha p0 p1
      rintro e w1 ⟨rfl, h1⟩
      rw [← hw0] at h1
      have g1 := (show Gr w0 w1 from h1).below
      clear h1
      obtain ⟨p0, p1⟩ := LD.out w1 g1
      go_wp2_with fail
      go_at_call 7
      refine (hb _).mono ?_
      clear hb p0 p1
      rintro e w2 ⟨rfl, h2⟩
      have g2 := g1.trans ((show Gr w1 w2 from h2).below.mono g1.size)
      clear h2
      obtain ⟨p0, p1⟩ := LD.out w2 g2
      go_wp2_with fail
      go_at_call 8
      refine (hc _).mono ?_
      clear hc p0 p1
      rintro e w3 ⟨rfl, h3⟩
      have g3 := g2.trans (h3.below.mono g2.size)
      clear h3
      obtain ⟨p0, p1⟩ := LD.out w3 g3
      go_wp2_with fail
      go_at_call 9
      refine (hl _).mono ?_
      clear hl p0 p1
      rintro e w4 ⟨rfl, h4⟩
      have g4 := g3.trans (h4.below.mono g3.size)
      clear h4
      have g5 : Below w.heap.size w w4 := hbw.trans (g4.mono hbw.size)
      go_wp2_with fail
      go_at_call 10
      refine (haw _).mono ?_
      clear haw
      rintro e w5 ⟨rfl, hb5⟩
      have g6 : Below w.heap.size w w5 := g5.trans (hb5.mono g5.size)
      clear g1 g2 g3 g4 g5 hb5
      go_wp2_with fail
      go_ret
      exact ⟨rfl, g6⟩
  exact key A B rfl rfl (fun h => by have := hnot h.1; rw [h.2] at this; cases this)

end Go.Proofs.Ytenpdglmmbkmkaa
