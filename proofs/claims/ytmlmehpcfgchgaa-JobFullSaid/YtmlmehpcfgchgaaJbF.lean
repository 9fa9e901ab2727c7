/-
  Own walks: the calls of a job: Hold, Free, Plan, Begin, Finish.
-/
import Derived.Test.YtmlmehpcfgchgaaJbE
namespace Go.Proofs.Ytmlmehpcfgchgaa
open Go.RowKit Go.Sort Go.Lib Go.Shelf Put

/-- What a call of a job tells, and makes. -/
def CallPost (w : World) (p : Nat) (v : Value) (L : List Jb) (e0 id : Int) (ok : Jb → Bool) (ch : Jb → Jb) (e : Ending) (w' : World) : Prop :=
  e = .returned (.int .i64 (stepE L e0 id ok)) ∧ TV w' p v (stepL L e0 id ok ch) ∧ QOff p v.ownBlock w w'
def planE (a : Int) : Int := if a < -1 then 10 else if 1099511627776 < a then 10 else 0
def beginE (a : Int) : Int := if a < 0 then 10 else if 1099511627776 < a then 10 else 0
def finishE (s a : Int) : Int := if s < 4 then 1 else if 6 < s then 1 else if a < 0 then 10 else if 2199023255552 < a then 10 else 0
def endOk (s : Int) (j : Jb) : Bool := decide (j.state = 3) || (decide (s = 5) && decide (j.state ≤ 2))

section
variable {w w' : World} {p g n cap m : Nat} {v : Value} {L : List Jb}

/-- Nothing is done. -/
theorem callPost_no {e0 id e1 : Int} {ok : Jb → Bool} {ch : Jb → Jb} {w0 : World} (h : TV w0 p v L) (he : stepE L e0 id ok = e1) (hne : e1 ≠ 0) {e : Ending} (hr : e = .returned (.int .i64 e1)) (hb : Gr w0 w') : CallPost w0 p v L e0 id ok ch e w' := by
  refine ⟨by rw [he]; exact hr, ?_, QOff.of_below hb.below⟩
  unfold stepL
  rw [if_neg (by rw [he]; exact hne)]
  exact h.kept hb.below
/-- It is done. -/
theorem callPost_yes {e0 : Int} {ok : Jb → Bool} {ch : Jb → Jb} {w0 : World} (h0 : e0 = 0) (hm : m < L.length) (hok : ok L[m]! = true) {e : Ending} (hr : e = .returned (.int .i64 0)) (h : TV w' p v (L.set m (ch L[m]!))) (hq : QOff p v.ownBlock w0 w') : CallPost w0 p v L e0 ((m : Int) + 1) ok ch e w' := by
  have em : ((m : Int) + 1 - 1).toNat = m := by omega
  have he : stepE L e0 ((m : Int) + 1) ok = 0 := by
    unfold stepE
    rw [if_neg (by omega), if_neg (by omega), if_neg (by omega), em, if_pos hok]
  refine ⟨by rw [he]; exact hr, ?_, hq⟩
  unfold stepL
  rw [if_pos he, em]
  exact h
theorem stepE_split (L : List Jb) (e0 id : Int) (ok : Jb → Bool) : (∃ e1, stepE L e0 id ok = e1 ∧ e1 ≠ 0) ∨ ∃ m : Nat, id = (m : Int) + 1 ∧ m < L.length ∧ ok L[m]! = true := by
  by_cases h : stepE L e0 id ok = 0
  · right
    obtain ⟨_, h1, h2, h3⟩ := stepE_ok h
    refine ⟨(id - 1).toNat, by omega, by omega, h3⟩
  · exact .inl ⟨_, rfl, h⟩
theorem stepE_congr {L : List Jb} {e0 id : Int} {ok ok' : Jb → Bool} (h : ∀ j ∈ L, ok j = ok' j) : stepE L e0 id ok = stepE L e0 id ok' := by
  unfold stepE
  by_cases h0 : e0 ≠ 0
  · rw [if_pos h0, if_pos h0]
  · rw [if_neg h0, if_neg h0]
    by_cases h1 : id < 1
    · rw [if_pos h1, if_pos h1]
    · rw [if_neg h1, if_neg h1]
      by_cases h2 : (L.length : Int) < id
      · rw [if_pos h2, if_pos h2]
      · rw [if_neg h2, if_neg h2, h _ (by rw [getElem!_pos L _ (by omega)]; exact List.getElem_mem _)]
theorem stepE_early {L : List Jb} {e0 id : Int} {ok : Jb → Bool} (h : e0 ≠ 0) : stepE L e0 id ok = e0 := by unfold stepE; rw [if_pos h]
theorem stepE_zero {L : List Jb} {e0 id : Int} {ok : Jb → Bool} (h : e0 = 0) : stepE L e0 id ok = stepE L 0 id ok := by rw [h]



set_option maxRecDepth 100000 in
set_option maxHeartbeats 1000000 in
theorem Hold_fn (h : TV w p v L) (id : Int)  : Calls Try.prog 27 #[.pointer (some ⟨p, 0, none⟩), .int .i64 id] w (CallPost w p v L ((0 : Int)) id (fun j : Jb => decide (j.state = 1)) (holdJ)) := by
  have h0 : (0 : Int) = 0 := by rfl
  have hb1 := (Below.refl w.heap.size w).alloc (Nat.le_refl _) (.cells #[.int .i64 1] 3)
  have hr : RowAt enc1 1 (w.alloc (.cells #[.int .i64 1] 3)) (.slice (some ⟨w.heap.size, 0, none⟩) 1 1) [1] := ints_new w w.heap.size [1] rfl (by decide)
  have hg1 := Gr.one w (.cells #[.int .i64 1] 3)
  have h1 := h.kept hb1
  have hok : ∀ j ∈ L, (fun j : Jb => decide (j.state = 1)) j = decide (j.state ∈ ([1] : List Int)) := by intro j _; simp
  rcases stepE_split L ((0 : Int)) id (fun j : Jb => decide (j.state = 1)) with ⟨e1, he, hne⟩ | ⟨m, rfl, hm, ho⟩
  · have hfin := fun (W : World) (e : Ending) (hr : e = .returned (.int .i64 e1)) (hg : Gr w W) => callPost_no (ch := holdJ) h he hne hr hg
    have hf := find_err h1 id e1 hr (by rw [← stepE_congr hok, ← stepE_zero h0]; exact he) hne
    have d1 : (e1 == 0) = false := beq_eq_false_iff_ne.2 hne
    replace hfin := Lib.hid hfin
    replace hg1 := Lib.hid hg1
    clear h h1 hr hb1 hok he hne
    go_enter Try.func27, Try.ntmps27
    go_wp2_with fail
    go_at_call 37
    refine hf.mono ?_
    clear hf
    rintro e w2 ⟨rfl, hg⟩
    have hg2 := Lib.hid (Gr_trans hg1.out hg)
    clear hg hg1
    go_wp2_with fail
    go_ret
    exact hfin.out _ _ rfl hg2.out
  · have hs : (L[m]!).state ∈ ([1] : List Int) := of_decide_eq_true ((hok L[m]! (by rw [getElem!_pos L m hm]; exact List.getElem_mem _)).symm.trans ho)
    obtain ⟨g, cap, rfl⟩ := h.shape (by omega)
    have hf := find_ok h1 hm hr hs
    have hfin := fun (W : World) (e : Ending) (hr : e = .returned (.int .i64 0)) (hT : TV W p (.slice (some ⟨g, 0, none⟩) L.length cap) (L.set m ((holdJ) L[m]!))) (hq : QOff p (some g) w W) => callPost_yes (e0 := (0 : Int)) (ok := fun j : Jb => decide (j.state = 1)) (ch := holdJ) h0 hm ho hr hT hq
    have RV0 := RV.of h hm
    generalize hy : L[m]! = y at *
    replace hy := Lib.hid hy
    replace hfin := Lib.hid hfin
    replace RV0 := Lib.hid RV0
    replace hm := Lib.hid hm
    replace hg1 := Lib.hid hg1
    clear h h1 hr hb1 hok ho hs
    go_enter Try.func27, Try.ntmps27
    go_wp2_with fail
    go_at_call 37
    refine hf.mono ?_
    clear hf
    rintro e w2 ⟨rfl, hg⟩
    have hg2 := Gr_trans hg1.out hg
    have rv := RV0.out.kept hg2.below
    have q0 : QOff p (some g) w w2 := QOff.of_below hg2.below
    clear hg hg1 hg2 RV0
    obtain ⟨k5, f5⟩ := rv.cellAt hm.out 5 _ rfl
    obtain ⟨k8, f8⟩ := rv.cellAt hm.out 8 _ rfl
    replace rv := Lib.hid rv
    replace q0 := Lib.hid q0
    go_wp2_with fail
    go_ret
    exact hfin.out _ _ rfl (RV.done (RV.set (RV.set rv.out hm.out (j := 5) (by decide) (.int .i64 2)) hm.out (j := 8) (by decide) (.int .i64 (-1))) hm.out rfl) ((q0.out.trans (RV.frame _ _ _) (NewO.refl _ _)).trans (RV.frame _ _ _) (NewO.refl _ _))

set_option maxRecDepth 100000 in
set_option maxHeartbeats 1000000 in
theorem Free_fn (h : TV w p v L) (id : Int)  : Calls Try.prog 31 #[.pointer (some ⟨p, 0, none⟩), .int .i64 id] w (CallPost w p v L ((0 : Int)) id (fun j : Jb => decide (j.state = 2)) (freeJ)) := by
  have h0 : (0 : Int) = 0 := by rfl
  have hb1 := (Below.refl w.heap.size w).alloc (Nat.le_refl _) (.cells #[.int .i64 2] 3)
  have hr : RowAt enc1 1 (w.alloc (.cells #[.int .i64 2] 3)) (.slice (some ⟨w.heap.size, 0, none⟩) 1 1) [2] := ints_new w w.heap.size [2] rfl (by decide)
  have hg1 := Gr.one w (.cells #[.int .i64 2] 3)
  have h1 := h.kept hb1
  have hok : ∀ j ∈ L, (fun j : Jb => decide (j.state = 2)) j = decide (j.state ∈ ([2] : List Int)) := by intro j _; simp
  rcases stepE_split L ((0 : Int)) id (fun j : Jb => decide (j.state = 2)) with ⟨e1, he, hne⟩ | ⟨m, rfl, hm, ho⟩
  · have hfin := fun (W : World) (e : Ending) (hr : e = .returned (.int .i64 e1)) (hg : Gr w W) => callPost_no (ch := freeJ) h he hne hr hg
    have hf := find_err h1 id e1 hr (by rw [← stepE_congr hok, ← stepE_zero h0]; exact he) hne
    have d1 : (e1 == 0) = false := beq_eq_false_iff_ne.2 hne
    replace hfin := Lib.hid hfin
    replace hg1 := Lib.hid hg1
    clear h h1 hr hb1 hok he hne
    go_enter Try.func31, Try.ntmps31
    go_wp2_with fail
    go_at_call 37
    refine hf.mono ?_
    clear hf
    rintro e w2 ⟨rfl, hg⟩
    have hg2 := Lib.hid (Gr_trans hg1.out hg)
    clear hg hg1
    go_wp2_with fail
    go_ret
    exact hfin.out _ _ rfl hg2.out
  · have hs : (L[m]!).state ∈ ([2] : List Int) := of_decide_eq_true ((hok L[m]! (by rw [getElem!_pos L m hm]; exact List.getElem_mem _)).symm.trans ho)
    obtain ⟨g, cap, rfl⟩ := h.shape (by omega)
    have hf := find_ok h1 hm hr hs
    have hfin := fun (W : World) (e : Ending) (hr : e = .returned (.int .i64 0)) (hT : TV W p (.slice (some ⟨g, 0, none⟩) L.length cap) (L.set m ((freeJ) L[m]!))) (hq : QOff p (some g) w W) => callPost_yes (e0 := (0 : Int)) (ok := fun j : Jb => decide (j.state = 2)) (ch := freeJ) h0 hm ho hr hT hq
    have RV0 := RV.of h hm
    generalize hy : L[m]! = y at *
    replace hy := Lib.hid hy
    replace hfin := Lib.hid hfin
    replace RV0 := Lib.hid RV0
    replace hm := Lib.hid hm
    replace hg1 := Lib.hid hg1
    clear h h1 hr hb1 hok ho hs
    go_enter Try.func31, Try.ntmps31
    go_wp2_with fail
    go_at_call 37
    refine hf.mono ?_
    clear hf
    rintro e w2 ⟨rfl, hg⟩
    have hg2 := Gr_trans hg1.out hg
    have rv := RV0.out.kept hg2.below
    have q0 : QOff p (some g) w w2 := QOff.of_below hg2.below
    clear hg hg1 hg2 RV0
    obtain ⟨k5, f5⟩ := rv.cellAt hm.out 5 _ rfl
    replace rv := Lib.hid rv
    replace q0 := Lib.hid q0
    go_wp2_with fail
    go_ret
    exact hfin.out _ _ rfl (RV.done (RV.set rv.out hm.out (j := 5) (by decide) (.int .i64 1)) hm.out rfl) (q0.out.trans (RV.frame _ _ _) (NewO.refl _ _))

set_option maxRecDepth 100000 in
set_option maxHeartbeats 1000000 in
theorem Plan_fn (h : TV w p v L) (id : Int) (a : Int) : Calls Try.prog 32 #[.pointer (some ⟨p, 0, none⟩), .int .i64 id, .int .i64 a] w (CallPost w p v L (planE a) id (fun j : Jb => decide (j.state = 1)) (planJ a)) := by
  have hno := none_fn h
  by_cases t0 : a < -1
  · have he : planE a = 10 := by unfold planE; simp [t0]
    have hfin := fun (W : World) (e : Ending) (hr : e = .returned (.int .i64 10)) (hg : Gr w W) => callPost_no (ch := planJ a) h (stepE_early (L := L) (id := id) (ok := fun j : Jb => decide (j.state = 1)) (e0 := planE a) (by omega) |>.trans he) (by decide) hr hg
    replace hfin := Lib.hid hfin
    clear h he
    have dn : (a != -1) = true := bne_iff_ne.2 (by omega)
    have hwi := within_fn a 1099511627776 w
    rw [show (decide (0 ≤ a) && decide (a ≤ 1099511627776)) = false from by simp; omega] at hwi
    go_enter Try.func32, Try.ntmps32
    go_wp2_with (first | (go_at_call 30; go_must (refine hno.mono ?_); rintro e w' ⟨rfl, rfl⟩) | (go_at_call 38; go_must (refine hwi.mono ?_); rintro e w' ⟨rfl, rfl⟩))
    go_ret
    exact hfin.out _ _ rfl (Gr.refl _)
  · have dt0 : decide (a < -1) = false := decide_eq_false t0
    by_cases t1 : 1099511627776 < a
    · have he : planE a = 10 := by unfold planE; simp [t0, t1]
      have hfin := fun (W : World) (e : Ending) (hr : e = .returned (.int .i64 10)) (hg : Gr w W) => callPost_no (ch := planJ a) h (stepE_early (L := L) (id := id) (ok := fun j : Jb => decide (j.state = 1)) (e0 := planE a) (by omega) |>.trans he) (by decide) hr hg
      replace hfin := Lib.hid hfin
      clear h he
      have dn : (a != -1) = true := bne_iff_ne.2 (by omega)
      have hwi := within_fn a 1099511627776 w
      rw [show (decide (0 ≤ a) && decide (a ≤ 1099511627776)) = false from by simp; omega] at hwi
      go_enter Try.func32, Try.ntmps32
      go_wp2_with (first | (go_at_call 30; go_must (refine hno.mono ?_); rintro e w' ⟨rfl, rfl⟩) | (go_at_call 38; go_must (refine hwi.mono ?_); rintro e w' ⟨rfl, rfl⟩))
      go_ret
      exact hfin.out _ _ rfl (Gr.refl _)
    · have dt1 : decide (1099511627776 < a) = false := decide_eq_false t1
      have h0 : planE a = 0 := by unfold planE; simp [t0, t1]
      by_cases ha : a = -1
      · have dn : (a != -1) = false := by rw [ha]; rfl
        have hwi := within_fn a 1099511627776 w
        have hb1 := (Below.refl w.heap.size w).alloc (Nat.le_refl _) (.cells #[.int .i64 1] 3)
        have hr : RowAt enc1 1 (w.alloc (.cells #[.int .i64 1] 3)) (.slice (some ⟨w.heap.size, 0, none⟩) 1 1) [1] := ints_new w w.heap.size [1] rfl (by decide)
        have hg1 := Gr.one w (.cells #[.int .i64 1] 3)
        have h1 := h.kept hb1
        have hok : ∀ j ∈ L, (fun j : Jb => decide (j.state = 1)) j = decide (j.state ∈ ([1] : List Int)) := by intro j _; simp
        rcases stepE_split L (planE a) id (fun j : Jb => decide (j.state = 1)) with ⟨e1, he, hne⟩ | ⟨m, rfl, hm, ho⟩
        · have hfin := fun (W : World) (e : Ending) (hr : e = .returned (.int .i64 e1)) (hg : Gr w W) => callPost_no (ch := planJ a) h he hne hr hg
          have hf := find_err h1 id e1 hr (by rw [← stepE_congr hok, ← stepE_zero h0]; exact he) hne
          have d1 : (e1 == 0) = false := beq_eq_false_iff_ne.2 hne
          replace hfin := Lib.hid hfin
          replace hg1 := Lib.hid hg1
          clear h h1 hr hb1 hok he hne h0
          clear ha
          go_enter Try.func32, Try.ntmps32
          go_wp2_with (first | (go_at_call 30; go_must (refine hno.mono ?_); rintro e w' ⟨rfl, rfl⟩) | (go_at_call 38; go_must (refine hwi.mono ?_); rintro e w' ⟨rfl, rfl⟩))
          go_at_call 37
          refine hf.mono ?_
          clear hf
          rintro e w2 ⟨rfl, hg⟩
          have hg2 := Lib.hid (Gr_trans hg1.out hg)
          clear hg hg1
          go_wp2_with fail
          go_ret
          exact hfin.out _ _ rfl hg2.out
        · have hs : (L[m]!).state ∈ ([1] : List Int) := of_decide_eq_true ((hok L[m]! (by rw [getElem!_pos L m hm]; exact List.getElem_mem _)).symm.trans ho)
          obtain ⟨g, cap, rfl⟩ := h.shape (by omega)
          have hf := find_ok h1 hm hr hs
          have hfin := fun (W : World) (e : Ending) (hr : e = .returned (.int .i64 0)) (hT : TV W p (.slice (some ⟨g, 0, none⟩) L.length cap) (L.set m ((planJ a) L[m]!))) (hq : QOff p (some g) w W) => callPost_yes (e0 := planE a) (ok := fun j : Jb => decide (j.state = 1)) (ch := planJ a) h0 hm ho hr hT hq
          have RV0 := RV.of h hm
          generalize hy : L[m]! = y at *
          replace hy := Lib.hid hy
          replace hfin := Lib.hid hfin
          replace RV0 := Lib.hid RV0
          replace hm := Lib.hid hm
          replace hg1 := Lib.hid hg1
          clear h h1 hr hb1 hok ho hs h0
          clear ha
          go_enter Try.func32, Try.ntmps32
          go_wp2_with (first | (go_at_call 30; go_must (refine hno.mono ?_); rintro e w' ⟨rfl, rfl⟩) | (go_at_call 38; go_must (refine hwi.mono ?_); rintro e w' ⟨rfl, rfl⟩))
          go_at_call 37
          refine hf.mono ?_
          clear hf
          rintro e w2 ⟨rfl, hg⟩
          have hg2 := Gr_trans hg1.out hg
          have rv := RV0.out.kept hg2.below
          have q0 : QOff p (some g) w w2 := QOff.of_below hg2.below
          clear hg hg1 hg2 RV0
          obtain ⟨k8, f8⟩ := rv.cellAt hm.out 8 _ rfl
          replace rv := Lib.hid rv
          replace q0 := Lib.hid q0
          go_wp2_with fail
          go_ret
          exact hfin.out _ _ rfl (RV.done (RV.set rv.out hm.out (j := 8) (by decide) (.int .i64 a)) hm.out rfl) (q0.out.trans (RV.frame _ _ _) (NewO.refl _ _))
      · have dn : (a != -1) = true := bne_iff_ne.2 ha
        have hwi := within_fn a 1099511627776 w
        rw [show (decide (0 ≤ a) && decide (a ≤ 1099511627776)) = true from by simp; omega] at hwi
        have hb1 := (Below.refl w.heap.size w).alloc (Nat.le_refl _) (.cells #[.int .i64 1] 3)
        have hr : RowAt enc1 1 (w.alloc (.cells #[.int .i64 1] 3)) (.slice (some ⟨w.heap.size, 0, none⟩) 1 1) [1] := ints_new w w.heap.size [1] rfl (by decide)
        have hg1 := Gr.one w (.cells #[.int .i64 1] 3)
        have h1 := h.kept hb1
        have hok : ∀ j ∈ L, (fun j : Jb => decide (j.state = 1)) j = decide (j.state ∈ ([1] : List Int)) := by intro j _; simp
        rcases stepE_split L (planE a) id (fun j : Jb => decide (j.state = 1)) with ⟨e1, he, hne⟩ | ⟨m, rfl, hm, ho⟩
        · have hfin := fun (W : World) (e : Ending) (hr : e = .returned (.int .i64 e1)) (hg : Gr w W) => callPost_no (ch := planJ a) h he hne hr hg
          have hf := find_err h1 id e1 hr (by rw [← stepE_congr hok, ← stepE_zero h0]; exact he) hne
          have d1 : (e1 == 0) = false := beq_eq_false_iff_ne.2 hne
          replace hfin := Lib.hid hfin
          replace hg1 := Lib.hid hg1
          clear h h1 hr hb1 hok he hne h0
          clear ha
          go_enter Try.func32, Try.ntmps32
          go_wp2_with (first | (go_at_call 30; go_must (refine hno.mono ?_); rintro e w' ⟨rfl, rfl⟩) | (go_at_call 38; go_must (refine hwi.mono ?_); rintro e w' ⟨rfl, rfl⟩))
          go_at_call 37
          refine hf.mono ?_
          clear hf
          rintro e w2 ⟨rfl, hg⟩
          have hg2 := Lib.hid (Gr_trans hg1.out hg)
          clear hg hg1
          go_wp2_with fail
          go_ret
          exact hfin.out _ _ rfl hg2.out
        · have hs : (L[m]!).state ∈ ([1] : List Int) := of_decide_eq_true ((hok L[m]! (by rw [getElem!_pos L m hm]; exact List.getElem_mem _)).symm.trans ho)
          obtain ⟨g, cap, rfl⟩ := h.shape (by omega)
          have hf := find_ok h1 hm hr hs
          have hfin := fun (W : World) (e : Ending) (hr : e = .returned (.int .i64 0)) (hT : TV W p (.slice (some ⟨g, 0, none⟩) L.length cap) (L.set m ((planJ a) L[m]!))) (hq : QOff p (some g) w W) => callPost_yes (e0 := planE a) (ok := fun j : Jb => decide (j.state = 1)) (ch := planJ a) h0 hm ho hr hT hq
          have RV0 := RV.of h hm
          generalize hy : L[m]! = y at *
          replace hy := Lib.hid hy
          replace hfin := Lib.hid hfin
          replace RV0 := Lib.hid RV0
          replace hm := Lib.hid hm
          replace hg1 := Lib.hid hg1
          clear h h1 hr hb1 hok ho hs h0
          clear ha
          go_enter Try.func32, Try.ntmps32
          go_wp2_with (first | (go_at_call 30; go_must (refine hno.mono ?_); rintro e w' ⟨rfl, rfl⟩) | (go_at_call 38; go_must (refine hwi.mono ?_); rintro e w' ⟨rfl, rfl⟩))
          go_at_call 37
          refine hf.mono ?_
          clear hf
          rintro e w2 ⟨rfl, hg⟩
          have hg2 := Gr_trans hg1.out hg
          have rv := RV0.out.kept hg2.below
          have q0 : QOff p (some g) w w2 := QOff.of_below hg2.below
          clear hg hg1 hg2 RV0
          obtain ⟨k8, f8⟩ := rv.cellAt hm.out 8 _ rfl
          replace rv := Lib.hid rv
          replace q0 := Lib.hid q0
          go_wp2_with fail
          go_ret
          exact hfin.out _ _ rfl (RV.done (RV.set rv.out hm.out (j := 8) (by decide) (.int .i64 a)) hm.out rfl) (q0.out.trans (RV.frame _ _ _) (NewO.refl _ _))

set_option maxRecDepth 100000 in
set_option maxHeartbeats 1000000 in
theorem Begin_fn (h : TV w p v L) (id : Int) (a : Int) (n0 : Int) (hL : ∀ j ∈ L, 1 ≤ j.limit ∧ j.limit ≤ 1048576) : Calls Try.prog 29 #[.pointer (some ⟨p, 0, none⟩), .int .i64 id, .int .i64 a, .int .u64 n0] w (CallPost w p v L (beginE a) id (fun j : Jb => decide (j.state = 1)) (beginJ a n0)) := by
  have hno := none_fn h
  by_cases t0 : a < 0
  · have he : beginE a = 10 := by unfold beginE; simp [t0]
    have hfin := fun (W : World) (e : Ending) (hr : e = .returned (.int .i64 10)) (hg : Gr w W) => callPost_no (ch := beginJ a n0) h (stepE_early (L := L) (id := id) (ok := fun j : Jb => decide (j.state = 1)) (e0 := beginE a) (by omega) |>.trans he) (by decide) hr hg
    replace hfin := Lib.hid hfin
    clear h he hL
    have hwi := within_fn a 1099511627776 w
    rw [show (decide (0 ≤ a) && decide (a ≤ 1099511627776)) = false from by simp; omega] at hwi
    go_enter Try.func29, Try.ntmps29
    go_wp2_with (first | (go_at_call 30; go_must (refine hno.mono ?_); rintro e w' ⟨rfl, rfl⟩) | (go_at_call 38; go_must (refine hwi.mono ?_); rintro e w' ⟨rfl, rfl⟩))
    go_ret
    exact hfin.out _ _ rfl (Gr.refl _)
  · have dt0 : decide (a < 0) = false := decide_eq_false t0
    by_cases t1 : 1099511627776 < a
    · have he : beginE a = 10 := by unfold beginE; simp [t0, t1]
      have hfin := fun (W : World) (e : Ending) (hr : e = .returned (.int .i64 10)) (hg : Gr w W) => callPost_no (ch := beginJ a n0) h (stepE_early (L := L) (id := id) (ok := fun j : Jb => decide (j.state = 1)) (e0 := beginE a) (by omega) |>.trans he) (by decide) hr hg
      replace hfin := Lib.hid hfin
      clear h he hL
      have hwi := within_fn a 1099511627776 w
      rw [show (decide (0 ≤ a) && decide (a ≤ 1099511627776)) = false from by simp; omega] at hwi
      go_enter Try.func29, Try.ntmps29
      go_wp2_with (first | (go_at_call 30; go_must (refine hno.mono ?_); rintro e w' ⟨rfl, rfl⟩) | (go_at_call 38; go_must (refine hwi.mono ?_); rintro e w' ⟨rfl, rfl⟩))
      go_ret
      exact hfin.out _ _ rfl (Gr.refl _)
    · have dt1 : decide (1099511627776 < a) = false := decide_eq_false t1
      have h0 : beginE a = 0 := by unfold beginE; simp [t0, t1]
      have hwi := within_fn a 1099511627776 w
      rw [show (decide (0 ≤ a) && decide (a ≤ 1099511627776)) = true from by simp; omega] at hwi
      have hb1 := (Below.refl w.heap.size w).alloc (Nat.le_refl _) (.cells #[.int .i64 1] 3)
      have hr : RowAt enc1 1 (w.alloc (.cells #[.int .i64 1] 3)) (.slice (some ⟨w.heap.size, 0, none⟩) 1 1) [1] := ints_new w w.heap.size [1] rfl (by decide)
      have hg1 := Gr.one w (.cells #[.int .i64 1] 3)
      have h1 := h.kept hb1
      have hok : ∀ j ∈ L, (fun j : Jb => decide (j.state = 1)) j = decide (j.state ∈ ([1] : List Int)) := by intro j _; simp
      rcases stepE_split L (beginE a) id (fun j : Jb => decide (j.state = 1)) with ⟨e1, he, hne⟩ | ⟨m, rfl, hm, ho⟩
      · have hfin := fun (W : World) (e : Ending) (hr : e = .returned (.int .i64 e1)) (hg : Gr w W) => callPost_no (ch := beginJ a n0) h he hne hr hg
        have hf := find_err h1 id e1 hr (by rw [← stepE_congr hok, ← stepE_zero h0]; exact he) hne
        have d1 : (e1 == 0) = false := beq_eq_false_iff_ne.2 hne
        replace hfin := Lib.hid hfin
        replace hg1 := Lib.hid hg1
        clear h h1 hr hb1 hok he hne hL h0
        go_enter Try.func29, Try.ntmps29
        go_wp2_with (first | (go_at_call 30; go_must (refine hno.mono ?_); rintro e w' ⟨rfl, rfl⟩) | (go_at_call 38; go_must (refine hwi.mono ?_); rintro e w' ⟨rfl, rfl⟩))
        go_at_call 37
        refine hf.mono ?_
        clear hf
        rintro e w2 ⟨rfl, hg⟩
        have hg2 := Lib.hid (Gr_trans hg1.out hg)
        clear hg hg1
        go_wp2_with fail
        go_ret
        exact hfin.out _ _ rfl hg2.out
      · have hs : (L[m]!).state ∈ ([1] : List Int) := of_decide_eq_true ((hok L[m]! (by rw [getElem!_pos L m hm]; exact List.getElem_mem _)).symm.trans ho)
        obtain ⟨g, cap, rfl⟩ := h.shape (by omega)
        have hf := find_ok h1 hm hr hs
        have hfin := fun (W : World) (e : Ending) (hr : e = .returned (.int .i64 0)) (hT : TV W p (.slice (some ⟨g, 0, none⟩) L.length cap) (L.set m ((beginJ a n0) L[m]!))) (hq : QOff p (some g) w W) => callPost_yes (e0 := beginE a) (ok := fun j : Jb => decide (j.state = 1)) (ch := beginJ a n0) h0 hm ho hr hT hq
        have hlim := hL L[m]! (by rw [getElem!_pos L m hm]; exact List.getElem_mem _)
        clear hL
        have RV0 := RV.of h hm
        generalize hy : L[m]! = y at *
        replace hy := Lib.hid hy
        replace hfin := Lib.hid hfin
        replace RV0 := Lib.hid RV0
        replace hm := Lib.hid hm
        replace hg1 := Lib.hid hg1
        clear h h1 hr hb1 hok ho hs h0
        go_enter Try.func29, Try.ntmps29
        go_wp2_with (first | (go_at_call 30; go_must (refine hno.mono ?_); rintro e w' ⟨rfl, rfl⟩) | (go_at_call 38; go_must (refine hwi.mono ?_); rintro e w' ⟨rfl, rfl⟩))
        go_at_call 37
        refine hf.mono ?_
        clear hf
        rintro e w2 ⟨rfl, hg⟩
        have hg2 := Gr_trans hg1.out hg
        have rv := RV0.out.kept hg2.below
        have q0 : QOff p (some g) w w2 := QOff.of_below hg2.below
        clear hg hg1 hg2 RV0
        obtain ⟨k3, f3⟩ := rv.cellAt hm.out 3 _ rfl
        obtain ⟨k5, f5⟩ := rv.cellAt hm.out 5 _ rfl
        obtain ⟨k6, f6⟩ := rv.cellAt hm.out 6 _ rfl
        obtain ⟨k7, f7⟩ := rv.cellAt hm.out 7 _ rfl
        obtain ⟨k8, f8⟩ := rv.cellAt hm.out 8 _ rfl
        obtain ⟨k9, f9⟩ := rv.cellAt hm.out 9 _ rfl
        have wl : IntKind.i64.wrap (a + y.2.2.2.1) = a + y.2.2.2.1 := by (have : y.limit = y.2.2.2.1 := rfl); rw [IntKind.wrap_i64]; omega
        replace rv := Lib.hid rv
        replace q0 := Lib.hid q0
        go_wp2_with fail
        go_ret
        exact hfin.out _ _ rfl (RV.done (RV.set (RV.set (RV.set (RV.set (RV.set rv.out hm.out (j := 5) (by decide) (.int .i64 3)) hm.out (j := 6) (by decide) (.int .i64 a)) hm.out (j := 7) (by decide) (.int .i64 (a + y.2.2.2.1))) hm.out (j := 8) (by decide) (.int .i64 (-1))) hm.out (j := 9) (by decide) (.int .u64 n0)) hm.out rfl) (((((q0.out.trans (RV.frame _ _ _) (NewO.refl _ _)).trans (RV.frame _ _ _) (NewO.refl _ _)).trans (RV.frame _ _ _) (NewO.refl _ _)).trans (RV.frame _ _ _) (NewO.refl _ _)).trans (RV.frame _ _ _) (NewO.refl _ _))

end
end Go.Proofs.Ytmlmehpcfgchgaa
