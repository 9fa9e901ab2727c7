/-
  Own walks: a call of a job, on both sides; the chapter's example.
-/
import Derived.Test.YtmlmehpcfgchgaaJbK
import Derived.Test.YtmlmehpcfgchgaaJbJ
import Derived.Test.YtmlmehpcfgchgaaJbG
namespace Go.Proofs.Ytmlmehpcfgchgaa
open Go.RowKit Go.Sort Go.Lib Go.Shelf Put

section
variable {w w' : World} {p g n cap m : Nat} {v : Value} {L : List Jb}

theorem earlyF_at (o : Cl) (h0 : earlyF o = 0) (hk : o.kind = 6 ∨ o.kind = 7) : 0 ≤ o.at_ ∧ o.at_ ≤ 1099511627776 := by
  unfold earlyF at h0
  rcases hk with hk | hk
  · rw [hk] at h0
    simp at h0
    split at h0 <;> first | omega | (split at h0 <;> omega)
  · rw [hk] at h0
    simp at h0
    split at h0 <;> first | omega | (split at h0 <;> omega)

theorem turn_fn (h : PV w p v L) (hG : Good L) (o : Cl) : Calls Try.prog 15 #[.pointer (some ⟨p, 0, none⟩), .agg (encC o).toArray] w (TurnPost w p v L o) := by
  by_cases h0 : earlyF o = 0
  · by_cases hn : o.id < 1 ∨ (L.length : Int) < o.id
    · exact turn_none h o h0 hn
    · obtain ⟨m, hid⟩ : ∃ m : Nat, o.id = (m : Int) + 1 := ⟨(o.id - 1).toNat, by omega⟩
      have hm : m < L.length := by omega
      obtain ⟨g, cap, rfl⟩ := h.shape (by omega)
      have hmem : L[m]! ∈ L := by rw [getElem!_pos L m hm]; exact List.getElem_mem _
      by_cases k3 : o.kind = 3
      · by_cases hs : (L[m]!).state = 1
        · exact turn_hold_yes h o h0 hm hid rfl k3 hs
        · exact turn_hold_no h o h0 hm hid rfl k3 hs
      · by_cases k4 : o.kind = 4
        · by_cases hs : (L[m]!).state = 2
          · exact turn_free_yes h o h0 hm hid rfl k4 hs
          · exact turn_free_no h o h0 hm hid rfl k4 hs
        · by_cases k5 : o.kind = 5
          · by_cases hs : (L[m]!).state = 1
            · exact turn_plan_yes h o h0 hm hid rfl k5 hs
            · exact turn_plan_no h o h0 hm hid rfl k5 hs
          · by_cases k6 : o.kind = 6
            · by_cases hs : (L[m]!).state = 1
              · exact turn_begin6_yes h o h0 hm hid rfl k6 hs (hG.lim _ hmem) (earlyF_at o h0 (.inl k6))
              · exact turn_begin6_no h o h0 hm hid rfl k6 hs
            · by_cases k7 : o.kind = 7
              · by_cases hs : (L[m]!).state = 1
                · exact turn_begin7_yes h o h0 hm hid rfl k7 hs (hG.lim _ hmem) (earlyF_at o h0 (.inr k7))
                · exact turn_begin7_no h o h0 hm hid rfl k7 hs
              · have hk : o.kind ≠ 3 ∧ o.kind ≠ 4 ∧ o.kind ≠ 5 ∧ o.kind ≠ 6 ∧ o.kind ≠ 7 := ⟨k3, k4, k5, k6, k7⟩
                by_cases hs : (L[m]!).state = 3
                · exact turn_fin_run h o h0 hm hid rfl hk hs
                · by_cases h5 : o.state = 5
                  · by_cases h2 : (L[m]!).state ≤ 2
                    · exact turn_fin_wait h o h0 hm hid rfl hk hs h5 h2
                    · exact turn_fin_no2 h o h0 hm hid rfl hk hs h5 h2
                  · exact turn_fin_no1 h o h0 hm hid rfl hk hs h5
  · exact turn_early h o h0

/-- What both sides make of a call, the program's word. -/
theorem callPost_cast {e0 e1 id : Int} {ok ok' : Jb → Bool} {ch ch' : Jb → Jb} {e : Ending} {w0 : World} (a : e0 = e1) (b : ∀ j, ok j = ok' j) (c : ∀ j, ch j = ch' j) (h : CallPost w0 p v L e0 id ok ch e w') : CallPost w0 p v L e1 id ok' ch' e w' := by
  subst a
  obtain rfl : ok = ok' := funext b
  obtain rfl : ch = ch' := funext c
  exact h
theorem callPost_lift {e0 id : Int} {ok : Jb → Bool} {ch : Jb → Jb} {e : Ending} {w0 w1 : World} (hb : Below w0.heap.size w0 w1) (h : CallPost w1 p v L e0 id ok ch e w') : CallPost w0 p v L e0 id ok ch e w' :=
  ⟨h.1, h.2.1, (QOff.of_below hb).trans h.2.2 (NewO.refl _ _)⟩

set_option maxRecDepth 100000 in
set_option maxHeartbeats 1000000 in
theorem call_hold (h : TV w p v L) (o : Cl) (hkd : o.kind = 3) : Calls Try.prog 14 #[.pointer (some ⟨p, 0, none⟩), .agg (encC o).toArray] w (CallPost w p v L (earlyF o) o.id (okF o) (chF o)) := by
  have hb1 := (Below.refl w.heap.size w).alloc (Nat.le_refl _) (.cells (encC o).toArray 38)
  have hC1 := heap_alloc_new w (.cells (encC o).toArray 38)
  have h1 := h.kept hb1
  obtain ⟨w1, hw1⟩ : ∃ w1, w1 = w.alloc (.cells (encC o).toArray 38) := ⟨_, rfl⟩
  rw [← hw1] at hb1 hC1 h1
  have q0 := op_cells hC1 0 _ rfl
  have q10 := op_cells hC1 10 _ rfl
  have hm := Hold_fn h1 o.id
  have hfin := fun (W : World) (e : Ending) (hp : CallPost w1 p v L (0 : Int) o.id (fun j : Jb => decide (j.state = 1)) holdJ e W) => callPost_lift (p := p) (v := v) (L := L) (e := e) (w' := W) hb1 (callPost_cast (e1 := earlyF o) (ok' := okF o) (ch' := chF o) (by unfold earlyF; simp [hkd]) (fun j => by unfold okF; simp [hkd]) (fun j => by unfold chF; simp [hkd]) hp)
  replace hfin := Lib.hid hfin
  have e3 : (o.kind == 3) = true := by rw [hkd]; rfl
  clear hkd
  rw [hw1] at q0 q10
  clear h h1 hC1 hb1
  go_enter Try.func14, Try.ntmps14
  go_wp2_with fail
  go_at_call 27
  rw [← hw1]
  refine hm.mono ?_
  clear hm q0 q10 hw1
  intro e w2 hp
  have hf := Lib.hid (hfin.out w2 e hp)
  obtain ⟨rfl, _⟩ := hp
  clear hfin
  go_wp2_with fail
  go_ret
  exact hf.out

set_option maxRecDepth 100000 in
set_option maxHeartbeats 1000000 in
theorem call_free (h : TV w p v L) (o : Cl) (hkd : o.kind = 4) : Calls Try.prog 14 #[.pointer (some ⟨p, 0, none⟩), .agg (encC o).toArray] w (CallPost w p v L (earlyF o) o.id (okF o) (chF o)) := by
  have hb1 := (Below.refl w.heap.size w).alloc (Nat.le_refl _) (.cells (encC o).toArray 38)
  have hC1 := heap_alloc_new w (.cells (encC o).toArray 38)
  have h1 := h.kept hb1
  obtain ⟨w1, hw1⟩ : ∃ w1, w1 = w.alloc (.cells (encC o).toArray 38) := ⟨_, rfl⟩
  rw [← hw1] at hb1 hC1 h1
  have q0 := op_cells hC1 0 _ rfl
  have q10 := op_cells hC1 10 _ rfl
  have hm := Free_fn h1 o.id
  have hfin := fun (W : World) (e : Ending) (hp : CallPost w1 p v L (0 : Int) o.id (fun j : Jb => decide (j.state = 2)) freeJ e W) => callPost_lift (p := p) (v := v) (L := L) (e := e) (w' := W) hb1 (callPost_cast (e1 := earlyF o) (ok' := okF o) (ch' := chF o) (by unfold earlyF; simp [hkd]) (fun j => by unfold okF; simp [hkd]) (fun j => by unfold chF; simp [hkd]) hp)
  replace hfin := Lib.hid hfin
  have e3 : (o.kind == 3) = false := by rw [hkd]; rfl
  have e4 : (o.kind == 4) = true := by rw [hkd]; rfl
  clear hkd
  rw [hw1] at q0 q10
  clear h h1 hC1 hb1
  go_enter Try.func14, Try.ntmps14
  go_wp2_with fail
  go_at_call 31
  rw [← hw1]
  refine hm.mono ?_
  clear hm q0 q10 hw1
  intro e w2 hp
  have hf := Lib.hid (hfin.out w2 e hp)
  obtain ⟨rfl, _⟩ := hp
  clear hfin
  go_wp2_with fail
  go_ret
  exact hf.out

set_option maxRecDepth 100000 in
set_option maxHeartbeats 1000000 in
theorem call_plan (h : TV w p v L) (o : Cl) (hkd : o.kind = 5) : Calls Try.prog 14 #[.pointer (some ⟨p, 0, none⟩), .agg (encC o).toArray] w (CallPost w p v L (earlyF o) o.id (okF o) (chF o)) := by
  have hb1 := (Below.refl w.heap.size w).alloc (Nat.le_refl _) (.cells (encC o).toArray 38)
  have hC1 := heap_alloc_new w (.cells (encC o).toArray 38)
  have h1 := h.kept hb1
  obtain ⟨w1, hw1⟩ : ∃ w1, w1 = w.alloc (.cells (encC o).toArray 38) := ⟨_, rfl⟩
  rw [← hw1] at hb1 hC1 h1
  have q0 := op_cells hC1 0 _ rfl
  have q10 := op_cells hC1 10 _ rfl
  have q11 := op_cells hC1 11 _ rfl
  have hm := Plan_fn h1 o.id o.at_
  have hfin := fun (W : World) (e : Ending) (hp : CallPost w1 p v L (planE o.at_) o.id (fun j : Jb => decide (j.state = 1)) (planJ o.at_) e W) => callPost_lift (p := p) (v := v) (L := L) (e := e) (w' := W) hb1 (callPost_cast (e1 := earlyF o) (ok' := okF o) (ch' := chF o) (by unfold earlyF planE; simp [hkd]) (fun j => by unfold okF; simp [hkd]) (fun j => by unfold chF; simp [hkd]) hp)
  replace hfin := Lib.hid hfin
  have e3 : (o.kind == 3) = false := by rw [hkd]; rfl
  have e4 : (o.kind == 4) = false := by rw [hkd]; rfl
  have e5 : (o.kind == 5) = true := by rw [hkd]; rfl
  clear hkd
  rw [hw1] at q0 q10 q11
  clear h h1 hC1 hb1
  go_enter Try.func14, Try.ntmps14
  go_wp2_with fail
  go_at_call 32
  rw [← hw1]
  refine hm.mono ?_
  clear hm q0 q10 q11 hw1
  intro e w2 hp
  have hf := Lib.hid (hfin.out w2 e hp)
  obtain ⟨rfl, _⟩ := hp
  clear hfin
  go_wp2_with fail
  go_ret
  exact hf.out

set_option maxRecDepth 100000 in
set_option maxHeartbeats 1000000 in
theorem call_begin6 (h : TV w p v L) (hG : Good L) (o : Cl) (hkd : o.kind = 6) : Calls Try.prog 14 #[.pointer (some ⟨p, 0, none⟩), .agg (encC o).toArray] w (CallPost w p v L (earlyF o) o.id (okF o) (chF o)) := by
  have hb1 := (Below.refl w.heap.size w).alloc (Nat.le_refl _) (.cells (encC o).toArray 38)
  have hC1 := heap_alloc_new w (.cells (encC o).toArray 38)
  have h1 := h.kept hb1
  obtain ⟨w1, hw1⟩ : ∃ w1, w1 = w.alloc (.cells (encC o).toArray 38) := ⟨_, rfl⟩
  rw [← hw1] at hb1 hC1 h1
  have q0 := op_cells hC1 0 _ rfl
  have q10 := op_cells hC1 10 _ rfl
  have q11 := op_cells hC1 11 _ rfl
  have q13 := op_cells hC1 13 _ rfl
  have hm := Begin_fn h1 o.id o.at_ o.nodes hG.lim
  have hfin := fun (W : World) (e : Ending) (hp : CallPost w1 p v L (beginE o.at_) o.id (fun j : Jb => decide (j.state = 1)) (beginJ o.at_ o.nodes) e W) => callPost_lift (p := p) (v := v) (L := L) (e := e) (w' := W) hb1 (callPost_cast (e1 := earlyF o) (ok' := okF o) (ch' := chF o) (by unfold earlyF beginE; simp [hkd]) (fun j => by unfold okF; simp [hkd]) (fun j => by unfold chF; simp [hkd]) hp)
  replace hfin := Lib.hid hfin
  have e3 : (o.kind == 3) = false := by rw [hkd]; rfl
  have e4 : (o.kind == 4) = false := by rw [hkd]; rfl
  have e5 : (o.kind == 5) = false := by rw [hkd]; rfl
  have e6 : (o.kind == 6) = true := by rw [hkd]; rfl
  clear hkd
  rw [hw1] at q0 q10 q11 q13
  clear h h1 hC1 hb1 hG
  go_enter Try.func14, Try.ntmps14
  go_wp2_with fail
  go_at_call 29
  rw [← hw1]
  refine hm.mono ?_
  clear hm q0 q10 q11 q13 hw1
  intro e w2 hp
  have hf := Lib.hid (hfin.out w2 e hp)
  obtain ⟨rfl, _⟩ := hp
  clear hfin
  go_wp2_with fail
  go_ret
  exact hf.out

set_option maxRecDepth 100000 in
set_option maxHeartbeats 1000000 in
theorem call_begin7 (h : TV w p v L) (hG : Good L) (o : Cl) (hkd : o.kind = 7) : Calls Try.prog 14 #[.pointer (some ⟨p, 0, none⟩), .agg (encC o).toArray] w (CallPost w p v L (earlyF o) o.id (okF o) (chF o)) := by
  have hb1 := (Below.refl w.heap.size w).alloc (Nat.le_refl _) (.cells (encC o).toArray 38)
  have hC1 := heap_alloc_new w (.cells (encC o).toArray 38)
  have h1 := h.kept hb1
  obtain ⟨w1, hw1⟩ : ∃ w1, w1 = w.alloc (.cells (encC o).toArray 38) := ⟨_, rfl⟩
  rw [← hw1] at hb1 hC1 h1
  have q0 := op_cells hC1 0 _ rfl
  have q10 := op_cells hC1 10 _ rfl
  have q11 := op_cells hC1 11 _ rfl
  have q13 := op_cells hC1 13 _ rfl
  have hm := Begin_fn h1 o.id o.at_ o.nodes hG.lim
  have hfin := fun (W : World) (e : Ending) (hp : CallPost w1 p v L (beginE o.at_) o.id (fun j : Jb => decide (j.state = 1)) (beginJ o.at_ o.nodes) e W) => callPost_lift (p := p) (v := v) (L := L) (e := e) (w' := W) hb1 (callPost_cast (e1 := earlyF o) (ok' := okF o) (ch' := chF o) (by unfold earlyF beginE; simp [hkd]) (fun j => by unfold okF; simp [hkd]) (fun j => by unfold chF; simp [hkd]) hp)
  replace hfin := Lib.hid hfin
  have e3 : (o.kind == 3) = false := by rw [hkd]; rfl
  have e4 : (o.kind == 4) = false := by rw [hkd]; rfl
  have e5 : (o.kind == 5) = false := by rw [hkd]; rfl
  have e6 : (o.kind == 6) = false := by rw [hkd]; rfl
  have e7 : (o.kind == 7) = true := by rw [hkd]; rfl
  clear hkd
  rw [hw1] at q0 q10 q11 q13
  clear h h1 hC1 hb1 hG
  go_enter Try.func14, Try.ntmps14
  go_wp2_with fail
  go_at_call 29
  rw [← hw1]
  refine hm.mono ?_
  clear hm q0 q10 q11 q13 hw1
  intro e w2 hp
  have hf := Lib.hid (hfin.out w2 e hp)
  obtain ⟨rfl, _⟩ := hp
  clear hfin
  go_wp2_with fail
  go_ret
  exact hf.out

set_option maxRecDepth 100000 in
set_option maxHeartbeats 1000000 in
theorem call_fin (h : TV w p v L) (hG : Good L) (o : Cl) (hkd : o.kind ≠ 3 ∧ o.kind ≠ 4 ∧ o.kind ≠ 5 ∧ o.kind ≠ 6 ∧ o.kind ≠ 7) : Calls Try.prog 14 #[.pointer (some ⟨p, 0, none⟩), .agg (encC o).toArray] w (CallPost w p v L (earlyF o) o.id (okF o) (chF o)) := by
  have hb1 := (Below.refl w.heap.size w).alloc (Nat.le_refl _) (.cells (encC o).toArray 38)
  have hC1 := heap_alloc_new w (.cells (encC o).toArray 38)
  have h1 := h.kept hb1
  obtain ⟨w1, hw1⟩ : ∃ w1, w1 = w.alloc (.cells (encC o).toArray 38) := ⟨_, rfl⟩
  rw [← hw1] at hb1 hC1 h1
  have q0 := op_cells hC1 0 _ rfl
  have q10 := op_cells hC1 10 _ rfl
  have q11 := op_cells hC1 11 _ rfl
  have q12 := op_cells hC1 12 _ rfl
  have hm := Finish_fn h1 o.id o.state o.at_ hG.st
  have hfin := fun (W : World) (e : Ending) (hp : CallPost w1 p v L (finishE o.state o.at_) o.id (endOk o.state) (finishJ o.state o.at_) e W) => callPost_lift (p := p) (v := v) (L := L) (e := e) (w' := W) hb1 (callPost_cast (e1 := earlyF o) (ok' := okF o) (ch' := chF o) (by unfold earlyF finishE; rw [if_neg hkd.2.2.1, if_neg hkd.2.2.2.1, if_neg hkd.2.2.2.2, if_neg hkd.1, if_neg hkd.2.1]) (fun j => by unfold okF endOk; rw [if_neg hkd.1, if_neg hkd.2.1, if_neg hkd.2.2.1, if_neg hkd.2.2.2.1, if_neg hkd.2.2.2.2]) (fun j => by unfold chF; rw [if_neg hkd.1, if_neg hkd.2.1, if_neg hkd.2.2.1, if_neg hkd.2.2.2.1, if_neg hkd.2.2.2.2]) hp)
  replace hfin := Lib.hid hfin
  have e3 : (o.kind == 3) = false := beq_eq_false_iff_ne.2 (by omega)
  have e4 : (o.kind == 4) = false := beq_eq_false_iff_ne.2 (by omega)
  have e5 : (o.kind == 5) = false := beq_eq_false_iff_ne.2 (by omega)
  have e6 : (o.kind == 6) = false := beq_eq_false_iff_ne.2 (by omega)
  have e7 : (o.kind == 7) = false := beq_eq_false_iff_ne.2 (by omega)
  clear hkd
  rw [hw1] at q0 q10 q11 q12
  clear h h1 hC1 hb1 hG
  go_enter Try.func14, Try.ntmps14
  go_wp2_with fail
  go_at_call 28
  rw [← hw1]
  refine hm.mono ?_
  clear hm q0 q10 q11 q12 hw1
  intro e w2 hp
  have hf := Lib.hid (hfin.out w2 e hp)
  obtain ⟨rfl, _⟩ := hp
  clear hfin
  go_wp2_with fail
  go_ret
  exact hf.out

theorem call_fn (h : TV w p v L) (hG : Good L) (o : Cl) : Calls Try.prog 14 #[.pointer (some ⟨p, 0, none⟩), .agg (encC o).toArray] w (CallPost w p v L (earlyF o) o.id (okF o) (chF o)) := by
  by_cases k3 : o.kind = 3
  · exact call_hold h o k3
  by_cases k4 : o.kind = 4
  · exact call_free h o k4
  by_cases k5 : o.kind = 5
  · exact call_plan h o k5
  by_cases k6 : o.kind = 6
  · exact call_begin6 h hG o k6
  by_cases k7 : o.kind = 7
  · exact call_begin7 h hG o k7
  exact call_fin h hG o ⟨k3, k4, k5, k6, k7⟩

end
end Go.Proofs.Ytmlmehpcfgchgaa
