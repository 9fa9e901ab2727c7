/-
  Own walks: find; cells of one job turned.
-/
import Derived.Test.YtmlmehpcfgchgaaJbD
namespace Go.Proofs.Ytmlmehpcfgchgaa
open Go.RowKit Go.Sort Go.Lib Go.Shelf Put

/-- A table whose m-th job has such cells. -/
structure RV (w : World) (p : Nat) (v : Value) (L : List Jb) (m : Nat) (cs : List Value) : Prop where
  cell : w.heap[p]? = some (.cells #[.bool true, v] 61 (0, 0))
  own : w.ownsRow 0 52 10 v L.length (splice L m cs)
  len : cs.length = 10

section
variable {w w' : World} {p g n cap m : Nat} {v : Value} {L : List Jb} {cs : List Value}
theorem RV.of (h : TV w p v L) (hm : m < L.length) : RV w p v L m (encJ L[m]!) := ⟨h.cell, by rw [← splice_self hm]; exact h.own, encJ_len _⟩
theorem RV.done {x : Jb} (h : RV w p v L m cs) (hm : m < L.length) (hx : cs = encJ x) : TV w p v (L.set m x) := by
  subst hx
  exact ⟨h.cell, by have := h.own; rw [splice_enc hm] at this; rw [List.length_set]; exact this⟩
theorem RV.kept (h : RV w p v L m cs) (hb : Below w.heap.size w w') : RV w' p v L m cs := ⟨by rw [hb.block p (Put.lt_of_heap h.cell)]; exact h.cell, Put.own_kept h.own hb, h.len⟩
theorem splice_len (hm : m < L.length) (hc : cs.length = 10) : (splice L m cs).length = L.length * 10 := by
  unfold splice
  rw [List.length_append, List.length_append, flat_len, flat_len, List.length_take, List.length_drop, hc]
  omega
theorem splice_get (hm : m < L.length) (hc : cs.length = 10) {j : Nat} {u : Value} (hj : cs[j]? = some u) : (splice L m cs)[m * 10 + j]? = some u := by
  have hl : ((L.take m).flatMap encJ).length = m * 10 := by rw [flat_len, List.length_take]; omega
  have hj2 : j < cs.length := (List.getElem?_eq_some_iff.1 hj).1
  unfold splice
  rw [List.append_assoc, List.getElem?_append_right (by omega), hl, Nat.add_sub_cancel_left, List.getElem?_append_left hj2]
  exact hj
theorem RV.cellAt (h : RV w p (.slice (some ⟨g, 0, none⟩) n cap) L m cs) (hm : m < L.length) : ∀ j u, cs[j]? = some u → w.cell? ⟨g, m * 10 + j, none⟩ = some u ∧ w.frozen? ⟨g, m * 10 + j, none⟩ = false := by
  intro j u hj
  rcases h.own.2 with ⟨e0, _⟩ | ⟨g', cap', cur, e0, _, hg, hn, _, hs, ht⟩
  · cases e0
  · cases e0
    have hj2 : j < 10 := by have := (List.getElem?_eq_some_iff.1 hj).1; rw [h.len] at this; exact this
    have h1 := splice_get hm h.len hj
    rw [← ht, List.getElem?_take] at h1
    split at h1
    · rw [Array.getElem?_toList] at h1
      exact ⟨by simp [World.cell?, hg, h1], by simp [World.frozen?, hg]⟩
    · cases h1
theorem RV.set (h : RV w p (.slice (some ⟨g, 0, none⟩) n cap) L m cs) (hm : m < L.length) {j : Nat} (hj : j < 10) (u : Value) : RV (w.setCell ⟨g, m * 10 + j, none⟩ u) p (.slice (some ⟨g, 0, none⟩) n cap) L m (cs.set j u) := by
  rcases h.own.2 with ⟨e0, _⟩ | ⟨g', cap', cur, e0, hb, hg, hn, hm2, hs, ht⟩
  · cases e0
  · cases e0
    have hlt := Put.lt_of_heap hg
    have hne : p ≠ g := Put.apart_types h.cell hg (by decide)
    refine ⟨by rw [Below.heap_setCell w ⟨g, _, none⟩ u p hne]; exact h.cell, ⟨?_, .inr ⟨g, cap, cur.setIfInBounds (m * 10 + j) u, rfl, hb, ?_, hn, hm2, by simpa using hs, ?_⟩⟩, by rw [List.length_set]; exact h.len⟩
    · rw [splice_len hm (by rw [List.length_set]; exact h.len)]
    · rw [Array.getElem?_eq_getElem hlt] at hg
      replace hg := Option.some.inj hg
      simp [World.setCell, hlt, Array.getElem_modify, hg]
    · rw [← splice_set hm h.len hj u, ← ht, Array.toList_setIfInBounds, List.take_set]
theorem RV.frame (w : World) (j : Nat) (u : Value) : QOff p (some g) w (w.setCell ⟨g, j, none⟩ u) := QOff.of_off ((Off.refl p g w).setCell (.inr (.inl rfl)))

theorem Gr.trans' {a b c : World} (h : Gr a b) (h' : Gr b c) : Gr a c := Gr_trans h h'

set_option maxRecDepth 100000 in
set_option maxHeartbeats 1000000 in
theorem find_err (h : TV w p v L) (id e0 : Int) {pv : Value} {ps : List Int} (hr : RowAt enc1 1 w pv ps) (he : stepE L 0 id (fun j => decide (j.state ∈ ps)) = e0) (hne : e0 ≠ 0) : Calls Try.prog 37 #[.pointer (some ⟨p, 0, none⟩), .int .i64 id, pv] w fun e w' => e = .returned (.tuple #[.pointer none, .int .i64 e0]) ∧ Gr w w' := by
  have hG := Get_fn h id
  have zE := zE_job
  obtain ⟨k, hk⟩ : ∃ k, k = 10 := ⟨_, rfl⟩
  rw [← hk] at zE
  replace hk := Lib.hid hk
  have lI := encJ_len (getJ L id)
  rw [← hk.out] at lI
  have HS : Hid (∀ W : World, Sem.run Try.prog (storeCells ⟨W.heap.size, 0, none⟩ (encJ (getJ L id)) 0) (W.alloc (.cells #[.int .i64 0, .int .i64 0, .int .i64 0, .int .i64 0, .int .i64 0, .int .i64 0, .int .i64 0, .int .i64 0, .int .i64 0, .int .u64 0] 52)) = .ok () (W.alloc (.cells (encJ (getJ L id)).toArray 52))) := fun W => store_new W W.heap.size (encJ (getJ L id)) (encJ default) 52 rfl (by rw [encJ_len, encJ_len]) (encJ_one _)
  have HC : Hid (∀ W : World, (W.alloc (.cells (encJ (getJ L id)).toArray 52)).cell? ⟨W.heap.size, 5, none⟩ = some (.int .i64 (getJ L id).state)) := fun W => job_cells (heap_alloc_new W (.cells (encJ (getJ L id)).toArray 52)) 5 _ rfl
  have cases : (getE L id = e0 ∧ (e0 == 0) = false) ∨ (getE L id = 0 ∧ e0 = 8 ∧ decide ((getJ L id).state ∈ ps) = false) := by
    unfold stepE at he
    unfold getE getJ
    by_cases a1 : id < 1
    · rw [if_neg (by decide), if_pos a1] at he
      rw [if_pos a1]
      exact .inl ⟨he, beq_eq_false_iff_ne.2 hne⟩
    · rw [if_neg (by decide), if_neg a1] at he
      rw [if_neg a1, if_neg a1]
      by_cases a2 : (L.length : Int) < id
      · rw [if_pos a2] at he
        rw [if_pos a2]
        exact .inl ⟨he, beq_eq_false_iff_ne.2 hne⟩
      · rw [if_neg a2] at he
        rw [if_neg a2, if_neg a2]
        right
        by_cases a3 : decide ((L[(id - 1).toNat]!).state ∈ ps) = true
        · rw [if_pos a3] at he; exact absurd he.symm hne
        · rw [if_neg a3] at he; exact ⟨rfl, he.symm, by simpa using a3⟩
  clear he h
  unfold GetPost at hG
  generalize getJ L id = y at *
  generalize getE L id = eG at *
  generalize hcI : encJ y = cI at *
  replace hcI := Lib.hid hcI
  rcases cases with ⟨rfl, hb⟩ | ⟨rfl, rfl, hb⟩
  · replace hne := Lib.hid hne
    go_enter Try.func37, Try.ntmps37
    go_wp2_with fail
    go_at_call 25
    refine hG.mono ?_
    clear hG
    rintro e w2 ⟨rfl, hg⟩
    have st := HS.out w2
    have hg2 := Lib.hid (Gr_trans hg (Gr.one w2 (.cells cI.toArray 52)))
    clear hg
    go_wp2_with fail
    go_ret2
    exact ⟨rfl, hg2.out⟩
  · replace hne := Lib.hid hne
    go_enter Try.func37, Try.ntmps37
    go_wp2_with fail
    go_at_call 25
    refine hG.mono ?_
    clear hG
    rintro e w2 ⟨rfl, hg⟩
    have st := HS.out w2
    have c5 := HC.out w2
    have hg2 := Gr_trans hg (Gr.one w2 (.cells cI.toArray 52))
    have hr2 := hr.below hg2.below
    have hct := Contains_fn y.state hr2
    rw [hb] at hct
    generalize w2.alloc (.cells cI.toArray 52) = w3 at *
    replace hg2 := Lib.hid hg2
    clear hr hr2 hg HS HC
    generalize y.state = s at *
    go_wp2_with (go_at_call 35; go_must (refine hct.mono ?_); rintro e w' ⟨rfl, rfl⟩)
    go_ret2
    exact ⟨rfl, hg2.out⟩

set_option maxRecDepth 100000 in
set_option maxHeartbeats 1000000 in
theorem find_ok (h : TV w p (.slice (some ⟨g, 0, none⟩) n cap) L) (hm : m < L.length) {pv : Value} {ps : List Int} (hr : RowAt enc1 1 w pv ps) (hs : (L[m]!).state ∈ ps) : Calls Try.prog 37 #[.pointer (some ⟨p, 0, none⟩), .int .i64 ((m : Int) + 1), pv] w fun e w' => e = .returned (.tuple #[.pointer (some ⟨g, m * 10, none⟩), .int .i64 0]) ∧ Gr w w' := by
  have hG := Get_fn h ((m : Int) + 1)
  have zE := zE_job
  obtain ⟨k, hk⟩ : ∃ k, k = 10 := ⟨_, rfl⟩
  rw [← hk] at zE ⊢
  replace hk := Lib.hid hk
  have e1 : getE L ((m : Int) + 1) = 0 := by unfold getE; rw [if_neg (by omega), if_neg (by omega)]
  have e2 : getJ L ((m : Int) + 1) = L[m]! := by unfold getJ; rw [if_neg (by omega), if_neg (by omega)]; congr 1; omega
  unfold GetPost at hG
  rw [e1, e2] at hG
  clear e1 e2
  have lI := encJ_len L[m]!
  rw [← hk.out] at lI
  have HS : Hid (∀ W : World, Sem.run Try.prog (storeCells ⟨W.heap.size, 0, none⟩ (encJ L[m]!) 0) (W.alloc (.cells #[.int .i64 0, .int .i64 0, .int .i64 0, .int .i64 0, .int .i64 0, .int .i64 0, .int .i64 0, .int .i64 0, .int .i64 0, .int .u64 0] 52)) = .ok () (W.alloc (.cells (encJ L[m]!).toArray 52))) := fun W => store_new W W.heap.size (encJ L[m]!) (encJ default) 52 rfl (by rw [encJ_len, encJ_len]) (encJ_one _)
  have HC : Hid (∀ W : World, (W.alloc (.cells (encJ L[m]!).toArray 52)).cell? ⟨W.heap.size, 5, none⟩ = some (.int .i64 (L[m]!).state)) := fun W => job_cells (heap_alloc_new W (.cells (encJ L[m]!).toArray 52)) 5 _ rfl
  have hlen : n = L.length := by
    rcases h.own.2 with ⟨e0, _⟩ | ⟨g', cap', cur, e0, _⟩
    · cases e0
    · cases e0; rfl
  have hle := own_len h.own
  rw [← hlen] at hm hle
  replace h := Lib.hid h
  have hb : decide ((L[m]!).state ∈ ps) = true := decide_eq_true hs
  generalize L[m]! = y at *
  generalize hcI : encJ y = cI at *
  replace hcI := Lib.hid hcI
  have wi : IntKind.i64.wrap ((m : Int) + 1 - 1) = (m : Int) := by rw [IntKind.wrap_i64]; omega
  have b1 : (m : Int) < (n : Int) := by omega
  have b0 : (0 : Int) ≤ (m : Int) := by omega
  replace hlen := Lib.hid hlen
  go_enter Try.func37, Try.ntmps37
  go_wp2_with fail
  go_at_call 25
  refine hG.mono ?_
  clear hG
  rintro e w2 ⟨rfl, hg⟩
  have st := HS.out w2
  have c5 := HC.out w2
  have hg2 := Gr_trans hg (Gr.one w2 (.cells cI.toArray 52))
  have hr2 := hr.below hg2.below
  have hct := Contains_fn y.state hr2
  rw [hb] at hct
  have h3 := h.out.kept hg2.below
  have c1 := h3.c1
  generalize w2.alloc (.cells cI.toArray 52) = w3 at *
  replace hg2 := Lib.hid hg2
  clear hr hr2 hg HS HC h3 h hs hb
  generalize y.state = s at *
  go_wp2_with (go_at_call 35; go_must (refine hct.mono ?_); rintro e w' ⟨rfl, rfl⟩)
  go_ret2
  exact ⟨rfl, hg2.out⟩

end
end Go.Proofs.Ytmlmehpcfgchgaa
