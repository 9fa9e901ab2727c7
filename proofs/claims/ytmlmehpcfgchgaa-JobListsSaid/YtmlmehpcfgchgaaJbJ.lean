/-
  Own walks: Finish.
-/
import Derived.Test.YtmlmehpcfgchgaaJbF
namespace Go.Proofs.Ytmlmehpcfgchgaa
open Go.RowKit Go.Sort Go.Lib Go.Shelf Put

section
variable {w w' : World} {p g n cap m : Nat} {v : Value} {L : List Jb}


theorem endable_five (w : World) : Calls Try.prog 39 #[.int .i64 5] w fun e w' => e = .returned (.slice (some ⟨w.heap.size, 0, none⟩) 3 3) ∧ w.alloc (.cells #[.int .i64 1, .int .i64 2, .int .i64 3] 3) = w' := by
  go_enter Try.func39, Try.ntmps39
  go_wp2_with fail
  go_ret
  exact ⟨rfl, rfl⟩
theorem endable_else (s : Int) (hs : s ≠ 5) (w : World) : Calls Try.prog 39 #[.int .i64 s] w fun e w' => e = .returned (.slice (some ⟨w.heap.size, 0, none⟩) 1 1) ∧ w.alloc (.cells #[.int .i64 3] 3) = w' := by
  have d : (s == 5) = false := beq_eq_false_iff_ne.2 hs
  go_enter Try.func39, Try.ntmps39
  go_wp2_with fail
  go_ret
  exact ⟨rfl, rfl⟩

set_option maxRecDepth 100000 in
set_option maxHeartbeats 1000000 in
theorem Finish_fn (h : TV w p v L) (id : Int) (s : Int) (a : Int) (hG : ∀ j ∈ L, 1 ≤ j.state ∧ j.state ≤ 6) : Calls Try.prog 28 #[.pointer (some ⟨p, 0, none⟩), .int .i64 id, .int .i64 s, .int .i64 a] w (CallPost w p v L (finishE s a) id (endOk s) (finishJ s a)) := by
  have hno := none_fn h
  by_cases t0 : s < 4
  · have he : finishE s a = 1 := by unfold finishE; simp [t0]
    have hfin := fun (W : World) (e : Ending) (hr : e = .returned (.int .i64 1)) (hg : Gr w W) => callPost_no (ch := finishJ s a) h (stepE_early (L := L) (id := id) (ok := endOk s) (e0 := finishE s a) (by omega) |>.trans he) (by decide) hr hg
    replace hfin := Lib.hid hfin
    clear h he
    have d : decide (s < 4) = true := decide_eq_true t0
    go_enter Try.func28, Try.ntmps28
    go_wp2_with (go_at_call 30; go_must (refine hno.mono ?_); rintro e w' ⟨rfl, rfl⟩)
    go_ret
    exact hfin.out _ _ rfl (Gr.refl _)
  · have dt0 : decide (s < 4) = false := decide_eq_false t0
    by_cases t1 : 6 < s
    · have he : finishE s a = 1 := by unfold finishE; simp [t0, t1]
      have hfin := fun (W : World) (e : Ending) (hr : e = .returned (.int .i64 1)) (hg : Gr w W) => callPost_no (ch := finishJ s a) h (stepE_early (L := L) (id := id) (ok := endOk s) (e0 := finishE s a) (by omega) |>.trans he) (by decide) hr hg
      replace hfin := Lib.hid hfin
      clear h he
      have d : decide (6 < s) = true := decide_eq_true t1
      go_enter Try.func28, Try.ntmps28
      go_wp2_with (go_at_call 30; go_must (refine hno.mono ?_); rintro e w' ⟨rfl, rfl⟩)
      go_ret
      exact hfin.out _ _ rfl (Gr.refl _)
    · have dt1 : decide (6 < s) = false := decide_eq_false t1
      by_cases t2 : a < 0
      · have he : finishE s a = 10 := by unfold finishE; simp [t0, t1, t2]
        have hfin := fun (W : World) (e : Ending) (hr : e = .returned (.int .i64 10)) (hg : Gr w W) => callPost_no (ch := finishJ s a) h (stepE_early (L := L) (id := id) (ok := endOk s) (e0 := finishE s a) (by omega) |>.trans he) (by decide) hr hg
        replace hfin := Lib.hid hfin
        clear h he
        have hwi := within_fn a 2199023255552 w
        rw [show (decide (0 ≤ a) && decide (a ≤ 2199023255552)) = false from by simp; omega] at hwi
        go_enter Try.func28, Try.ntmps28
        go_wp2_with (first | (go_at_call 30; go_must (refine hno.mono ?_); rintro e w' ⟨rfl, rfl⟩) | (go_at_call 38; go_must (refine hwi.mono ?_); rintro e w' ⟨rfl, rfl⟩))
        go_ret
        exact hfin.out _ _ rfl (Gr.refl _)
      · have dt2 : decide (a < 0) = false := decide_eq_false t2
        by_cases t3 : 2199023255552 < a
        · have he : finishE s a = 10 := by unfold finishE; simp [t0, t1, t2, t3]
          have hfin := fun (W : World) (e : Ending) (hr : e = .returned (.int .i64 10)) (hg : Gr w W) => callPost_no (ch := finishJ s a) h (stepE_early (L := L) (id := id) (ok := endOk s) (e0 := finishE s a) (by omega) |>.trans he) (by decide) hr hg
          replace hfin := Lib.hid hfin
          clear h he
          have hwi := within_fn a 2199023255552 w
          rw [show (decide (0 ≤ a) && decide (a ≤ 2199023255552)) = false from by simp; omega] at hwi
          go_enter Try.func28, Try.ntmps28
          go_wp2_with (first | (go_at_call 30; go_must (refine hno.mono ?_); rintro e w' ⟨rfl, rfl⟩) | (go_at_call 38; go_must (refine hwi.mono ?_); rintro e w' ⟨rfl, rfl⟩))
          go_ret
          exact hfin.out _ _ rfl (Gr.refl _)
        · have dt3 : decide (2199023255552 < a) = false := decide_eq_false t3
          have h0 : finishE s a = 0 := by unfold finishE; simp [t0, t1, t2, t3]
          by_cases h5 : s = 5
          · have hen := endable_five w
            rw [← h5] at hen
            have hwi := within_fn a 2199023255552 w
            rw [show (decide (0 ≤ a) && decide (a ≤ 2199023255552)) = true from by simp; omega] at hwi
            have hb1 := (Below.refl w.heap.size w).alloc (Nat.le_refl _) (.cells #[.int .i64 1, .int .i64 2, .int .i64 3] 3)
            have hr : RowAt enc1 1 (w.alloc (.cells #[.int .i64 1, .int .i64 2, .int .i64 3] 3)) (.slice (some ⟨w.heap.size, 0, none⟩) 3 3) [1, 2, 3] := ints_new w w.heap.size [1, 2, 3] rfl (by decide)
            have hg1 := Gr.one w (.cells #[.int .i64 1, .int .i64 2, .int .i64 3] 3)
            have h1 := h.kept hb1
            have hok : ∀ j ∈ L, (endOk s) j = decide (j.state ∈ ([1, 2, 3] : List Int)) := by intro j hj; have h6 := hG j hj; unfold endOk; rw [h5]; have h7 : j.state = 1 ∨ j.state = 2 ∨ j.state = 3 ∨ j.state = 4 ∨ j.state = 5 ∨ j.state = 6 := (by omega); rcases h7 with e | e | e | e | e | e <;> simp [e]
            rcases stepE_split L (finishE s a) id (endOk s) with ⟨e1, he, hne⟩ | ⟨m, rfl, hm, ho⟩
            · have hfin := fun (W : World) (e : Ending) (hr : e = .returned (.int .i64 e1)) (hg : Gr w W) => callPost_no (ch := finishJ s a) h he hne hr hg
              have hf := find_err h1 id e1 hr (by rw [← stepE_congr hok, ← stepE_zero h0]; exact he) hne
              have d1 : (e1 == 0) = false := beq_eq_false_iff_ne.2 hne
              replace hfin := Lib.hid hfin
              replace hg1 := Lib.hid hg1
              clear h h1 hr hb1 hok he hne h0
              clear h5 hG
              go_enter Try.func28, Try.ntmps28
              go_wp2_with (first | (go_at_call 30; go_must (refine hno.mono ?_); rintro e w' ⟨rfl, rfl⟩) | (go_at_call 38; go_must (refine hwi.mono ?_); rintro e w' ⟨rfl, rfl⟩) | (go_at_call 39; go_must (refine hen.mono ?_); rintro e w' ⟨rfl, rfl⟩))
              go_at_call 37
              refine hf.mono ?_
              clear hf
              rintro e w2 ⟨rfl, hg⟩
              have hg2 := Lib.hid (Gr_trans hg1.out hg)
              clear hg hg1
              go_wp2_with fail
              go_ret
              exact hfin.out _ _ rfl hg2.out
            · have hs : (L[m]!).state ∈ ([1, 2, 3] : List Int) := of_decide_eq_true ((hok L[m]! (by rw [getElem!_pos L m hm]; exact List.getElem_mem _)).symm.trans ho)
              obtain ⟨g, cap, rfl⟩ := h.shape (by omega)
              have hf := find_ok h1 hm hr hs
              have hfin := fun (W : World) (e : Ending) (hr : e = .returned (.int .i64 0)) (hT : TV W p (.slice (some ⟨g, 0, none⟩) L.length cap) (L.set m ((finishJ s a) L[m]!))) (hq : QOff p (some g) w W) => callPost_yes (e0 := finishE s a) (ok := endOk s) (ch := finishJ s a) h0 hm ho hr hT hq
              have RV0 := RV.of h hm
              generalize hy : L[m]! = y at *
              replace hy := Lib.hid hy
              replace hfin := Lib.hid hfin
              replace RV0 := Lib.hid RV0
              replace hm := Lib.hid hm
              replace hg1 := Lib.hid hg1
              clear h h1 hr hb1 hok ho hs h0
              clear h5 hG
              go_enter Try.func28, Try.ntmps28
              go_wp2_with (first | (go_at_call 30; go_must (refine hno.mono ?_); rintro e w' ⟨rfl, rfl⟩) | (go_at_call 38; go_must (refine hwi.mono ?_); rintro e w' ⟨rfl, rfl⟩) | (go_at_call 39; go_must (refine hen.mono ?_); rintro e w' ⟨rfl, rfl⟩))
              go_at_call 37
              refine hf.mono ?_
              clear hf
              rintro e w2 ⟨rfl, hg⟩
              have hg2 := Gr_trans hg1.out hg
              have rv := RV0.out.kept hg2.below
              have q0 : QOff p (some g) w w2 := QOff.of_below hg2.below
              clear hg hg1 hg2 RV0
              obtain ⟨k5, f5⟩ := rv.cellAt hm.out 5 _ rfl
              by_cases h3 : y.2.2.2.2.2.1 = 3
              · have d3 : (y.2.2.2.2.2.1 == 3) = true := by rw [h3]; rfl
                have efin : (((encJ y).set 7 (.int .i64 a)).set 5 (.int .i64 s)).set 8 (.int .i64 (-1)) = encJ (finishJ s a y) := by unfold finishJ; rw [if_pos h3]; rfl
                replace efin := Lib.hid efin
                clear h3
                obtain ⟨k7, f7⟩ := rv.cellAt hm.out 7 _ rfl
                obtain ⟨k8, f8⟩ := rv.cellAt hm.out 8 _ rfl
                replace rv := Lib.hid rv
                replace q0 := Lib.hid q0
                go_wp2_with fail
                go_ret
                exact hfin.out _ _ rfl (RV.done (RV.set (RV.set (RV.set rv.out hm.out (j := 7) (by decide) (.int .i64 a)) hm.out (j := 5) (by decide) (.int .i64 s)) hm.out (j := 8) (by decide) (.int .i64 (-1))) hm.out efin.out) (((q0.out.trans (RV.frame _ _ _) (NewO.refl _ _)).trans (RV.frame _ _ _) (NewO.refl _ _)).trans (RV.frame _ _ _) (NewO.refl _ _))
              · have d3 : (y.2.2.2.2.2.1 == 3) = false := beq_eq_false_iff_ne.2 h3
                have efin : ((encJ y).set 5 (.int .i64 s)).set 8 (.int .i64 (-1)) = encJ (finishJ s a y) := by unfold finishJ; rw [if_neg h3]; rfl
                replace efin := Lib.hid efin
                clear h3
                obtain ⟨k8, f8⟩ := rv.cellAt hm.out 8 _ rfl
                replace rv := Lib.hid rv
                replace q0 := Lib.hid q0
                go_wp2_with fail
                go_ret
                exact hfin.out _ _ rfl (RV.done (RV.set (RV.set rv.out hm.out (j := 5) (by decide) (.int .i64 s)) hm.out (j := 8) (by decide) (.int .i64 (-1))) hm.out efin.out) ((q0.out.trans (RV.frame _ _ _) (NewO.refl _ _)).trans (RV.frame _ _ _) (NewO.refl _ _))
          · have hen := endable_else s h5 w
            have hwi := within_fn a 2199023255552 w
            rw [show (decide (0 ≤ a) && decide (a ≤ 2199023255552)) = true from by simp; omega] at hwi
            have hb1 := (Below.refl w.heap.size w).alloc (Nat.le_refl _) (.cells #[.int .i64 3] 3)
            have hr : RowAt enc1 1 (w.alloc (.cells #[.int .i64 3] 3)) (.slice (some ⟨w.heap.size, 0, none⟩) 1 1) [3] := ints_new w w.heap.size [3] rfl (by decide)
            have hg1 := Gr.one w (.cells #[.int .i64 3] 3)
            have h1 := h.kept hb1
            have hok : ∀ j ∈ L, (endOk s) j = decide (j.state ∈ ([3] : List Int)) := by intro j _; unfold endOk; simp [h5]
            rcases stepE_split L (finishE s a) id (endOk s) with ⟨e1, he, hne⟩ | ⟨m, rfl, hm, ho⟩
            · have hfin := fun (W : World) (e : Ending) (hr : e = .returned (.int .i64 e1)) (hg : Gr w W) => callPost_no (ch := finishJ s a) h he hne hr hg
              have hf := find_err h1 id e1 hr (by rw [← stepE_congr hok, ← stepE_zero h0]; exact he) hne
              have d1 : (e1 == 0) = false := beq_eq_false_iff_ne.2 hne
              replace hfin := Lib.hid hfin
              replace hg1 := Lib.hid hg1
              clear h h1 hr hb1 hok he hne h0
              clear h5 hG
              go_enter Try.func28, Try.ntmps28
              go_wp2_with (first | (go_at_call 30; go_must (refine hno.mono ?_); rintro e w' ⟨rfl, rfl⟩) | (go_at_call 38; go_must (refine hwi.mono ?_); rintro e w' ⟨rfl, rfl⟩) | (go_at_call 39; go_must (refine hen.mono ?_); rintro e w' ⟨rfl, rfl⟩))
              go_at_call 37
              refine hf.mono ?_
              clear hf
              rintro e w2 ⟨rfl, hg⟩
              have hg2 := Lib.hid (Gr_trans hg1.out hg)
              clear hg hg1
              go_wp2_with fail
              go_ret
              exact hfin.out _ _ rfl hg2.out
            · have hs : (L[m]!).state ∈ ([3] : List Int) := of_decide_eq_true ((hok L[m]! (by rw [getElem!_pos L m hm]; exact List.getElem_mem _)).symm.trans ho)
              obtain ⟨g, cap, rfl⟩ := h.shape (by omega)
              have hf := find_ok h1 hm hr hs
              have hfin := fun (W : World) (e : Ending) (hr : e = .returned (.int .i64 0)) (hT : TV W p (.slice (some ⟨g, 0, none⟩) L.length cap) (L.set m ((finishJ s a) L[m]!))) (hq : QOff p (some g) w W) => callPost_yes (e0 := finishE s a) (ok := endOk s) (ch := finishJ s a) h0 hm ho hr hT hq
              have RV0 := RV.of h hm
              generalize hy : L[m]! = y at *
              replace hy := Lib.hid hy
              replace hfin := Lib.hid hfin
              replace RV0 := Lib.hid RV0
              replace hm := Lib.hid hm
              replace hg1 := Lib.hid hg1
              clear h h1 hr hb1 hok ho hs h0
              clear h5 hG
              go_enter Try.func28, Try.ntmps28
              go_wp2_with (first | (go_at_call 30; go_must (refine hno.mono ?_); rintro e w' ⟨rfl, rfl⟩) | (go_at_call 38; go_must (refine hwi.mono ?_); rintro e w' ⟨rfl, rfl⟩) | (go_at_call 39; go_must (refine hen.mono ?_); rintro e w' ⟨rfl, rfl⟩))
              go_at_call 37
              refine hf.mono ?_
              clear hf
              rintro e w2 ⟨rfl, hg⟩
              have hg2 := Gr_trans hg1.out hg
              have rv := RV0.out.kept hg2.below
              have q0 : QOff p (some g) w w2 := QOff.of_below hg2.below
              clear hg hg1 hg2 RV0
              obtain ⟨k5, f5⟩ := rv.cellAt hm.out 5 _ rfl
              by_cases h3 : y.2.2.2.2.2.1 = 3
              · have d3 : (y.2.2.2.2.2.1 == 3) = true := by rw [h3]; rfl
                have efin : (((encJ y).set 7 (.int .i64 a)).set 5 (.int .i64 s)).set 8 (.int .i64 (-1)) = encJ (finishJ s a y) := by unfold finishJ; rw [if_pos h3]; rfl
                replace efin := Lib.hid efin
                clear h3
                obtain ⟨k7, f7⟩ := rv.cellAt hm.out 7 _ rfl
                obtain ⟨k8, f8⟩ := rv.cellAt hm.out 8 _ rfl
                replace rv := Lib.hid rv
                replace q0 := Lib.hid q0
                go_wp2_with fail
                go_ret
                exact hfin.out _ _ rfl (RV.done (RV.set (RV.set (RV.set rv.out hm.out (j := 7) (by decide) (.int .i64 a)) hm.out (j := 5) (by decide) (.int .i64 s)) hm.out (j := 8) (by decide) (.int .i64 (-1))) hm.out efin.out) (((q0.out.trans (RV.frame _ _ _) (NewO.refl _ _)).trans (RV.frame _ _ _) (NewO.refl _ _)).trans (RV.frame _ _ _) (NewO.refl _ _))
              · have d3 : (y.2.2.2.2.2.1 == 3) = false := beq_eq_false_iff_ne.2 h3
                have efin : ((encJ y).set 5 (.int .i64 s)).set 8 (.int .i64 (-1)) = encJ (finishJ s a y) := by unfold finishJ; rw [if_neg h3]; rfl
                replace efin := Lib.hid efin
                clear h3
                obtain ⟨k8, f8⟩ := rv.cellAt hm.out 8 _ rfl
                replace rv := Lib.hid rv
                replace q0 := Lib.hid q0
                go_wp2_with fail
                go_ret
                exact hfin.out _ _ rfl (RV.done (RV.set (RV.set rv.out hm.out (j := 5) (by decide) (.int .i64 s)) hm.out (j := 8) (by decide) (.int .i64 (-1))) hm.out efin.out) ((q0.out.trans (RV.frame _ _ _) (NewO.refl _ _)).trans (RV.frame _ _ _) (NewO.refl _ _))

end
end Go.Proofs.Ytmlmehpcfgchgaa
