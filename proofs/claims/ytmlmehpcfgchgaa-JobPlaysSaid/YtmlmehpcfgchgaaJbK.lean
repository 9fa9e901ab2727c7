/-
  Own walk: a call of a job, in the law's own table.
-/
import Derived.Test.YtmlmehpcfgchgaaJbH
import Derived.BigQuiet
namespace Go.Proofs.Ytmlmehpcfgchgaa
open Go.RowKit Go.Sort Go.Lib Go.Shelf Put

theorem zE_op : ∀ w, Sem.run Try.prog (Go.sizeOf 38) w = .ok 14 w := Try.sizeOf38
theorem aE_op : ∀ w, Sem.run Try.prog (isAgg 38) w = .ok true w := Try.isAgg38
theorem encC_len (o : Cl) : (encC o).length = 14 := rfl
theorem op_cells {W : World} {p : Nat} {x : Cl} (h : W.heap[p]? = some (.cells (encC x).toArray 38 (0, 0))) : ∀ j u, (encC x)[j]? = some u → W.cell? ⟨p, j, none⟩ = some u := by
  intro j u hj
  simp [World.cell?, h, hj]
theorem op_load {W : World} {p k : Nat} {x : Cl} (h : W.heap[p]? = some (.cells (encC x).toArray 38 (0, 0))) (hk : (encC x).length = k) : Sem.run Try.prog (loadCellsFrom ⟨p, 0, none⟩ 0 k #[]) W = .ok (encC x).toArray W :=
  run_loadCellsFrom_list Try.prog W _ _ k hk fun j u hj => by rw [Go.WideShapes.add_plain]; simpa using op_cells h j u hj

def TurnPost (w : World) (p : Nat) (v : Value) (L : List Jb) (o : Cl) (e : Ending) (w' : World) : Prop :=
  e = .returned (.int .i64 (stepE L (earlyF o) o.id (okF o))) ∧ PV w' p v (stepL L (earlyF o) o.id (okF o) (chF o)) ∧ QOff p v.ownBlock w w'

section
variable {w w' : World} {p g n cap m : Nat} {v : Value} {L : List Jb} {o : Cl}

theorem turnPost_no {e1 : Int} (h : PV w p v L) (he : stepE L (earlyF o) o.id (okF o) = e1) (hne : e1 ≠ 0) {e : Ending} (hr : e = .returned (.int .i64 e1)) (hb : Below w.heap.size w w') : TurnPost w p v L o e w' := by
  refine ⟨by rw [he]; exact hr, ?_, QOff.of_below hb⟩
  unfold stepL
  rw [if_neg (by rw [he]; exact hne)]
  exact h.kept hb
theorem turnPost_yes {y : Jb} (h0 : earlyF o = 0) (hm : m < L.length) (hid : o.id = (m : Int) + 1) (hy : L[m]! = y) (hok : okF o y = true) {e : Ending} (hr : e = .returned (.int .i64 0)) (h : PV w' p v (L.set m (chF o y))) (hq : QOff p v.ownBlock w w') : TurnPost w p v L o e w' := by
  have em : ((m : Int) + 1 - 1).toNat = m := by omega
  have he : stepE L (earlyF o) o.id (okF o) = 0 := by
    unfold stepE
    rw [hid, if_neg (by omega), if_neg (by omega), if_neg (by omega), em, hy, if_pos hok]
  refine ⟨by rw [he]; exact hr, ?_, hq⟩
  unfold stepL
  rw [if_pos he, hid, em, hy]
  exact h

theorem flat_take (L : List Jb) (m : Nat) : (L.flatMap encJ).take (m * 10) = (L.take m).flatMap encJ := by
  induction L generalizing m with
  | nil => simp
  | cons a l ih =>
    rcases m with _ | m
    · simp
    · rw [List.flatMap_cons, List.take_succ_cons, List.flatMap_cons, ← ih m, List.take_append]
      have h10 : (encJ a).length = 10 := rfl
      rw [List.take_of_length_le (by rw [h10]; omega), h10]
      congr 2
      omega
theorem flat_drop (L : List Jb) (m : Nat) : (L.flatMap encJ).drop (m * 10) = (L.drop m).flatMap encJ := by
  induction L generalizing m with
  | nil => simp
  | cons a l ih =>
    rcases m with _ | m
    · simp
    · rw [List.flatMap_cons, List.drop_succ_cons, ← ih m, List.drop_append]
      have h10 : (encJ a).length = 10 := rfl
      rw [List.drop_eq_nil_of_le (by rw [h10]; omega), h10, List.nil_append]
      congr 1
      omega
/-- A job laid in another's place. -/
theorem put_at (h : PV w p (.slice (some ⟨g, 0, none⟩) n cap) L) (hm : m < L.length) (x : Jb) :
    ∃ w', Sem.run Try.prog (storeCells ⟨g, m * 10, none⟩ (encJ x) 0) w = .ok () w' ∧ PV w' p (.slice (some ⟨g, 0, none⟩) n cap) (L.set m x) ∧ QOff p (some g) w w' := by
  have hlen : n = L.length := by
    rcases h.own.2 with ⟨e0, _⟩ | ⟨g', cap', cur, e0, _⟩
    · cases e0
    · cases e0; rfl
  subst hlen
  obtain ⟨w', h1, h2, h3⟩ := own_put h.own (m * 10) (encJ x) (by rw [encJ_len]; omega) (encJ_one x)
  have e : (L.flatMap encJ).take (m * 10) ++ encJ x ++ (L.flatMap encJ).drop (m * 10 + (encJ x).length) = (L.set m x).flatMap encJ := by
    rw [encJ_len, show m * 10 + 10 = (m + 1) * 10 from by omega, flat_take, flat_drop]
    exact splice_enc hm x
  rw [e] at h2
  have hne := BV.ne (by decide) h
  exact ⟨w', h1 _, ⟨by rw [h3.block p h.lt hne hne]; exact h.cell, by rw [List.length_set]; exact h2⟩, QOff.of_off h3.mono⟩

set_option maxRecDepth 1000000 in
set_option maxHeartbeats 4000000 in
theorem turn_early (h : PV w p v L) (o : Cl) (he : earlyF o ≠ 0) : Calls Try.prog 15 #[.pointer (some ⟨p, 0, none⟩), .agg (encC o).toArray] w (TurnPost w p v L o) := by
  have zO := zE_op
  have lO := encC_len o
  obtain ⟨k14, hk14⟩ : ∃ k, k = 14 := ⟨_, rfl⟩
  rw [← hk14] at zO lO
  replace hk14 := Lib.hid hk14
  have hb1 := (Below.refl w.heap.size w).alloc (Nat.le_refl _) (.cells (encC o).toArray 38)
  have hC1 := heap_alloc_new w (.cells (encC o).toArray 38)
  have lc := op_load hC1 lO
  have hsz1 : (w.alloc (.cells (encC o).toArray 38)).heap.size = w.heap.size + 1 := by simp
  obtain ⟨w1, hw1⟩ : ∃ w1, w1 = w.alloc (.cells (encC o).toArray 38) := ⟨_, rfl⟩
  rw [← hw1] at hb1 hC1 hsz1
  have hev := early_fn o w1
  have hev2 := Lib.hid (early_fn o)
  have hfin := fun (W : World) (e : Ending) hr hb => turnPost_no (w' := W) (e := e) h (stepE_early he) he hr hb
  have d1 : (earlyF o == 0) = false := beq_eq_false_iff_ne.2 he
  replace hfin := Lib.hid hfin
  clear h
  replace he := Lib.hid he
  go_enter Try.func15, Try.ntmps15
  go_wp2_with fail
  go_at_call 33
  rw [← hw1]
  replace hw1 := Lib.hid hw1
  refine hev.mono ?_
  clear hev lc
  rintro e w2 ⟨rfl, o2, rfl⟩
  have hb2 : Below w.heap.size w (w1.alloc o2) := hb1.alloc hb1.size _
  have hC2 : (w1.alloc o2).heap[w.heap.size]? = _ := (Go.heap_alloc_old w1 o2 (by omega)).trans hC1
  have hsz2 : w.heap.size + 1 ≤ (w1.alloc o2).heap.size := by simp [hsz1]
  generalize w1.alloc o2 = w2 at *
  have lc2 := op_load hC2 lO
  have hev3 := hev2.out w2
  clear hev2 hC2 hC1 hb1 hsz1 hsz2
  generalize earlyF o = e1 at *
  go_wp2_with fail
  go_at_call 33
  refine hev3.mono ?_
  clear hev3 lc2
  rintro e w3 ⟨rfl, o3, rfl⟩
  replace hb2 := Lib.hid (hb2.alloc hb2.size o3)
  go_wp2_with fail
  go_ret
  exact hfin.out _ _ rfl hb2.out

set_option maxRecDepth 1000000 in
set_option maxHeartbeats 4000000 in
theorem turn_none (h : PV w p v L) (o : Cl) (h0 : earlyF o = 0) (hn : o.id < 1 ∨ (L.length : Int) < o.id) : Calls Try.prog 15 #[.pointer (some ⟨p, 0, none⟩), .agg (encC o).toArray] w (TurnPost w p v L o) := by
  have hmix := mixedO
  have zO := zE_op
  have lO := encC_len o
  obtain ⟨k14, hk14⟩ : ∃ k, k = 14 := ⟨_, rfl⟩
  rw [← hk14] at zO lO
  replace hk14 := Lib.hid hk14
  have hb1 := (Below.refl w.heap.size w).alloc (Nat.le_refl _) (.cells (encC o).toArray 38)
  have hC1 := heap_alloc_new w (.cells (encC o).toArray 38)
  have lc := op_load hC1 lO
  have hsz1 : (w.alloc (.cells (encC o).toArray 38)).heap.size = w.heap.size + 1 := by simp
  obtain ⟨w1, hw1⟩ : ∃ w1, w1 = w.alloc (.cells (encC o).toArray 38) := ⟨_, rfl⟩
  rw [← hw1] at hb1 hC1 hsz1
  have hev := early_fn o w1
  rw [h0] at hev
  have he : stepE L (earlyF o) o.id (okF o) = 7 := by
    unfold stepE
    rw [if_neg (by omega)]
    rcases hn with a | a
    · rw [if_pos a]
    · by_cases b : o.id < 1
      · rw [if_pos b]
      · rw [if_neg b, if_pos a]
  have hfin := fun (W : World) (e : Ending) hr hb => turnPost_no (w' := W) (e := e) h he (by decide) hr hb
  replace hfin := Lib.hid hfin
  obtain ⟨ao, cap, rfl, _⟩ := own_shape h.own
  have hle := own_len h.own
  replace h := Lib.hid h
  clear he h0
  by_cases a1 : o.id < 1
  · have d1 : decide (o.id < 1) = true := decide_eq_true a1
    clear hn a1
    go_enter Try.func15, Try.ntmps15
    go_wp2_with fail
    go_at_call 33
    rw [← hw1]
    replace hw1 := Lib.hid hw1
    refine hev.mono ?_
    clear hev lc
    rintro e w2 ⟨rfl, o2, rfl⟩
    have hb2 : Below w.heap.size w (w1.alloc o2) := hb1.alloc hb1.size _
    have hC2 : (w1.alloc o2).heap[w.heap.size]? = _ := (Go.heap_alloc_old w1 o2 (by omega)).trans hC1
    have hsz2 : w.heap.size + 1 ≤ (w1.alloc o2).heap.size := by simp [hsz1]
    generalize w1.alloc o2 = w2 at *
    have hT2 := h.out.kept hb2
    have g0 : ∀ n', (w2.drewN n').cell? ⟨p, 0, none⟩ = some (.slice ao L.length cap) := fun n' => hT2.c0
    have g2 : ∀ n', (w2.drewN n').cell? ⟨w.heap.size, 10, none⟩ = some (.int .i64 o.id) := fun n' => op_cells hC2 10 _ rfl
    clear hT2
    go_wp2_with fail
    go_quiet (fail)
    clear g0 g2
    have hb3 : Below w.heap.size w (w2.drewN nq) := ⟨hb2.os, hb2.tape, hb2.output, hb2.size, hb2.block⟩
    have hC3 : (w2.drewN nq).heap[w.heap.size]? = _ := hC2
    have hsz3 : w.heap.size + 1 ≤ (w2.drewN nq).heap.size := hsz2
    generalize w2.drewN nq = w3 at *
    clear hb2 hC2 hsz2
    go_wp2_with fail
    go_ret
    exact hfin.out _ _ rfl hb3
  · have d1 : decide (o.id < 1) = false := decide_eq_false a1
    have a2 : (L.length : Int) < o.id := hn.resolve_left a1
    have d2 : decide ((L.length : Int) < o.id) = true := decide_eq_true a2
    clear hn a1 a2
    go_enter Try.func15, Try.ntmps15
    go_wp2_with fail
    go_at_call 33
    rw [← hw1]
    replace hw1 := Lib.hid hw1
    refine hev.mono ?_
    clear hev lc
    rintro e w2 ⟨rfl, o2, rfl⟩
    have hb2 : Below w.heap.size w (w1.alloc o2) := hb1.alloc hb1.size _
    have hC2 : (w1.alloc o2).heap[w.heap.size]? = _ := (Go.heap_alloc_old w1 o2 (by omega)).trans hC1
    have hsz2 : w.heap.size + 1 ≤ (w1.alloc o2).heap.size := by simp [hsz1]
    generalize w1.alloc o2 = w2 at *
    have hT2 := h.out.kept hb2
    have g0 : ∀ n', (w2.drewN n').cell? ⟨p, 0, none⟩ = some (.slice ao L.length cap) := fun n' => hT2.c0
    have g2 : ∀ n', (w2.drewN n').cell? ⟨w.heap.size, 10, none⟩ = some (.int .i64 o.id) := fun n' => op_cells hC2 10 _ rfl
    clear hT2
    go_wp2_with fail
    go_quiet (fail)
    clear g0 g2
    have hb3 : Below w.heap.size w (w2.drewN nq) := ⟨hb2.os, hb2.tape, hb2.output, hb2.size, hb2.block⟩
    have hC3 : (w2.drewN nq).heap[w.heap.size]? = _ := hC2
    have hsz3 : w.heap.size + 1 ≤ (w2.drewN nq).heap.size := hsz2
    generalize w2.drewN nq = w3 at *
    clear hb2 hC2 hsz2
    go_wp2_with fail
    go_ret
    exact hfin.out _ _ rfl hb3

set_option maxRecDepth 1000000 in
set_option maxHeartbeats 4000000 in
theorem turn_hold_no {y : Jb} (h : PV w p (.slice (some ⟨g, 0, none⟩) L.length cap) L) (o : Cl) (h0 : earlyF o = 0) (hm : m < L.length) (hid : o.id = (m : Int) + 1) (hy : L[m]! = y) (hkd : o.kind = 3) (hs : y.state ≠ 1) : Calls Try.prog 15 #[.pointer (some ⟨p, 0, none⟩), .agg (encC o).toArray] w (TurnPost w p (.slice (some ⟨g, 0, none⟩) L.length cap) L o) := by
  have hmix := mixedO
  have zO := zE_op
  have lO := encC_len o
  obtain ⟨k14, hk14⟩ : ∃ k, k = 14 := ⟨_, rfl⟩
  rw [← hk14] at zO lO
  replace hk14 := Lib.hid hk14
  have hb1 := (Below.refl w.heap.size w).alloc (Nat.le_refl _) (.cells (encC o).toArray 38)
  have hC1 := heap_alloc_new w (.cells (encC o).toArray 38)
  have lc := op_load hC1 lO
  have hsz1 : (w.alloc (.cells (encC o).toArray 38)).heap.size = w.heap.size + 1 := by simp
  obtain ⟨w1, hw1⟩ : ∃ w1, w1 = w.alloc (.cells (encC o).toArray 38) := ⟨_, rfl⟩
  rw [← hw1] at hb1 hC1 hsz1
  have hev := early_fn o w1
  rw [h0] at hev
  have he : stepE L (earlyF o) o.id (okF o) = 8 := by
    unfold stepE
    rw [if_neg (by omega), if_neg (by omega), if_neg (by omega), show (o.id - 1).toNat = m from by omega, hy, if_neg (by unfold okF; simp [hkd, hs])]
  have hfin := fun (W : World) (e : Ending) hr hb => turnPost_no (w' := W) (e := e) h he (by decide) hr hb
  clear he
  replace hfin := Lib.hid hfin
  have hle := own_len h.own
  have s1 : (y.2.2.2.2.2.1 != 1) = true := bne_iff_ne.2 hs
  clear hs
  have e3 : (o.kind == 3) = true := by rw [hkd]; rfl
  clear hkd
  have d1 : decide (o.id < 1) = false := decide_eq_false (by omega)
  have d2 : decide ((L.length : Int) < o.id) = false := decide_eq_false (by omega)
  clear h0
  replace h := Lib.hid h
  have b1 : (m : Int) < (L.length : Int) := by omega
  have b0 : (0 : Int) ≤ (m : Int) := by omega
  have wm : IntKind.i64.wrap (m : Int) = (m : Int) := by rw [IntKind.wrap_i64]; omega
  replace hid := Lib.hid hid
  go_enter Try.func15, Try.ntmps15
  go_wp2_with fail
  go_at_call 33
  rw [← hw1]
  replace hw1 := Lib.hid hw1
  refine hev.mono ?_
  clear hev lc
  rintro e w2 ⟨rfl, o2, rfl⟩
  have hb2 : Below w.heap.size w (w1.alloc o2) := hb1.alloc hb1.size _
  have hC2 : (w1.alloc o2).heap[w.heap.size]? = _ := (Go.heap_alloc_old w1 o2 (by omega)).trans hC1
  have hsz2 : w.heap.size + 1 ≤ (w1.alloc o2).heap.size := by simp [hsz1]
  generalize w1.alloc o2 = w2 at *
  have hT2 := h.out.kept hb2
  have g0 : ∀ n', (w2.drewN n').cell? ⟨p, 0, none⟩ = some (.slice (some ⟨g, 0, none⟩) L.length cap) := fun n' => hT2.c0
  have g2 : ∀ n', (w2.drewN n').cell? ⟨w.heap.size, 10, none⟩ = some (.int .i64 o.id) := fun n' => op_cells hC2 10 _ rfl
  clear hT2
  go_wp2_with fail
  go_quiet (fail)
  clear g0 g2
  have hb3 : Below w.heap.size w (w2.drewN nq) := ⟨hb2.os, hb2.tape, hb2.output, hb2.size, hb2.block⟩
  have hC3 : (w2.drewN nq).heap[w.heap.size]? = _ := hC2
  have hsz3 : w.heap.size + 1 ≤ (w2.drewN nq).heap.size := hsz2
  generalize w2.drewN nq = w3 at *
  clear hb2 hC2 hsz2
  have hT3 := h.out.kept hb3
  have zE := zE_job
  obtain ⟨k, hk⟩ : ∃ k, k = 10 := ⟨_, rfl⟩
  rw [← hk] at zE
  obtain ⟨cI, hcI⟩ : ∃ cI, cI = encJ y := ⟨_, rfl⟩
  have hld : Hid (∀ W, Below w3.heap.size w3 W → Sem.run Try.prog (loadCellsFrom ⟨g, m * k, none⟩ 0 k #[]) W = .ok cI.toArray W) := fun W hW => by
    have := (hT3.kept hW).row.load hk hm
    rw [Nat.zero_add, hy, ← hcI] at this
    exact this
  have lI : cI.length = k := by rw [hcI, hk]; rfl
  replace hk := Lib.hid hk
  replace hcI := Lib.hid hcI
  replace hT3 := Lib.hid hT3
  replace hC3 := Lib.hid hC3
  replace hy := Lib.hid hy
  replace hm := Lib.hid hm
  go_wp2_with fail
  refine Reg.region_mk 10 104 [[], [true], [true, true], [true, true, true], [false, false, false, false], [false, false, false, false, true], [false, false, false, false, true, true], [true, true, true, true, true, true, true], [true, true, true, true, true, true, true, true], [false, false, false, false, false, false, false, false, false]] [0, 0, 0, 1, 0, 1, 0, 0, 1, 1]
    [.pure, .pure, .pure, .minor Unit () (fun _ => .slice (some ⟨g, 0, none⟩) L.length cap) (fun _ _ => True), .pure, .minor Unit () (fun _ => .int .i64 ((m : Int) + 1)) (fun _ _ => True), .pure, .pure, .minor Unit () (fun _ => .agg cI.toArray) (fun _ _ => True), .minor Nat 0 (fun x => .pointer (some ⟨x, 0, none⟩)) (fun x W => W.heap[x]? = some (.cells #[.int .i64 0, .int .i64 0, .int .i64 0, .int .i64 0, .int .i64 0, .int .i64 0, .int .i64 0, .int .i64 0, .int .i64 0, .int .u64 0] 52 (0, 0)) ∧ w3.heap.size ≤ x)]
    (fun W => Below w3.heap.size w3 W) (fun _ _ => True) (fun a b => Below a.heap.size a b) (by kernel_rfl) (by kernel_rfl) rfl rfl (fun vs a b h hs => trivial) ?_ ?_ ?_ ?_ ?_ ?_
  · intro a b he hb; exact hb.trans (Below.mono he hb.size)
  · intro a b he hb; exact hb.trans (Below.mono he hb.size)
  · exact ⟨trivial, trivial, trivial, ⟨fun _ _ _ _ _ => trivial, fun _ _ _ _ _ => trivial⟩, trivial, ⟨fun _ _ _ _ _ => trivial, fun _ _ _ _ _ => trivial⟩, trivial, trivial, ⟨fun _ _ _ _ _ => trivial, fun _ _ _ _ _ => trivial⟩, ⟨fun x a b he h => ⟨(Below.block he x (Put.lt_of_heap h.1)).trans h.1, h.2⟩, fun x a b he h => ⟨(Below.block he x (Put.lt_of_heap h.1)).trans h.1, h.2⟩⟩, trivial⟩
  · exact ⟨rfl, rfl, rfl, Nat.le_refl _, fun _ _ => rfl⟩
  · trivial
  dsimp only [Reg.mk, List.zip, List.zipWith, List.take]
  repeat (refine' Reg.pass_is _ (by rfl) (fun wz => ?_) ?_; rotate_left; (go_simp; first | rfl | rw [if_neg (by omega)]); simp only [Act.put, List.setIfInBounds_toArray, List.set_cons_zero, List.set_cons_succ]; (try simp only [List.nil_append]); (try simp only [List.cons_append]); (try simp only [id]))
  refine Reg.pass_minor (by rfl) (fun wz hI hF => ?_) (fun r3 => ?_)
  · unfold Reg.One
    have d0 := (hT3.out.kept hI).c0
    go_wp2_with fail
    first | exact ⟨_, rfl, rfl, Reg.Ext.refl _⟩ | exact ⟨_, rfl, ⟨(), rfl, trivial⟩, Reg.Ext.refl _⟩
  simp only [Act.put, List.setIfInBounds_toArray, List.set_cons_zero, List.set_cons_succ]; (try simp only [List.nil_append]); (try simp only [List.cons_append]); (try simp only [id])
  repeat (refine' Reg.pass_is _ (by rfl) (fun wz => ?_) ?_; rotate_left; (go_simp; first | rfl | rw [if_neg (by omega)]); simp only [Act.put, List.setIfInBounds_toArray, List.set_cons_zero, List.set_cons_succ]; (try simp only [List.nil_append]); (try simp only [List.cons_append]); (try simp only [id]))
  refine Reg.pass_minor (by rfl) (fun wz hI hF => ?_) (fun r5 => ?_)
  · unfold Reg.One
    have d0 := op_cells (hI.block _ (Put.lt_of_heap hC3.out) |>.trans hC3.out) 10 _ rfl
    rw [hid.out] at d0
    go_wp2_with fail
    first | exact ⟨_, rfl, rfl, Reg.Ext.refl _⟩ | exact ⟨_, rfl, ⟨(), rfl, trivial⟩, Reg.Ext.refl _⟩
  simp only [Act.put, List.setIfInBounds_toArray, List.set_cons_zero, List.set_cons_succ]; (try simp only [List.nil_append]); (try simp only [List.cons_append]); (try simp only [id])
  refine Reg.pass_is (.int .i64 (m : Int)) (by rfl) (fun wz => ?_) ?_
  · go_simp
    (try rw [wm])
  simp only [Act.put, List.setIfInBounds_toArray, List.set_cons_zero, List.set_cons_succ]; (try simp only [List.nil_append]); (try simp only [List.cons_append]); (try simp only [id])
  refine Reg.pass_is (.pointer (some ⟨g, m * k, none⟩)) (by rfl) (fun wz => ?_) ?_
  · go_simp
    (try rw [if_pos ⟨by omega, by omega⟩])
    (try simp)
  simp only [Act.put, List.setIfInBounds_toArray, List.set_cons_zero, List.set_cons_succ]; (try simp only [List.nil_append]); (try simp only [List.cons_append]); (try simp only [id])
  refine Reg.pass_minor (by rfl) (fun wz hI hF => ?_) (fun r8 => ?_)
  · unfold Reg.One
    have d0 := hld.out wz hI
    go_wp2_with fail
    first | exact ⟨_, rfl, rfl, Reg.Ext.refl _⟩ | exact ⟨_, rfl, ⟨(), rfl, trivial⟩, Reg.Ext.refl _⟩
  simp only [Act.put, List.setIfInBounds_toArray, List.set_cons_zero, List.set_cons_succ]; (try simp only [List.nil_append]); (try simp only [List.cons_append]); (try simp only [id])
  refine Reg.pass_minor (by rfl) (fun wz hI hF => ?_) (fun r9 => ?_)
  · unfold Reg.One
    clear zE
    go_wp2_with fail
    exact ⟨_, rfl, ⟨wz.heap.size, rfl, heap_alloc_new wz _, by have := hI.size; omega⟩, (Below.refl wz.heap.size wz).alloc (Nat.le_refl _) _⟩
  simp only [Act.put, List.setIfInBounds_toArray, List.set_cons_zero, List.set_cons_succ]; (try simp only [List.nil_append]); (try simp only [List.cons_append]); (try simp only [id])
  refine Reg.pass_end ?_
  intro w5 HI5 _ HF5
  obtain ⟨hz5, hx5⟩ := HF5.2.2.2.2.2.2.2.2.2.1
  clear HF5 r3 r5 r8
  dsimp only [List.drop]
  obtain ⟨st5, hb6, off6⟩ := put_box (x := y) (cs := [.int .i64 0, .int .i64 0, .int .i64 0, .int .i64 0, .int .i64 0, .int .i64 0, .int .i64 0, .int .i64 0, .int .i64 0, .int .u64 0]) hz5 rfl
  rw [← hcI.out] at st5 hb6 off6
  have hT5 := hT3.out.kept HI5
  have hC5 := (HI5.block _ (Put.lt_of_heap hC3.out)).trans hC3.out
  have hx0 : r9 ≠ p := fun e => by have := hT3.out.lt; omega
  have hxr : w.heap.size ≠ r9 := fun e => by have := Put.lt_of_heap hC3.out; omega
  have hwR : w.heap.size ≤ r9 := by omega
  have hxg : g ≠ r9 := fun e => by have := (hT3.out.own.lt g rfl).2; omega
  have hb5 := hb3.trans (HI5.mono hb3.size)
  obtain ⟨w6, hw6⟩ : ∃ w6, w6 = w5.setRow r9 cI.toArray := ⟨_, rfl⟩
  rw [← hw6] at st5 hb6 off6
  replace hw6 := Lib.hid hw6
  have kI : ∀ j u, (encJ y)[j]? = some u → w6.cell? ⟨r9, j, none⟩ = some u := job_cells (by rw [← hcI.out]; exact hb6)
  have k5 := kI 5 _ rfl
  have f5 : w6.frozen? ⟨r9, 5, none⟩ = false := by simp [World.frozen?, hb6]
  have hC6 := (off6.block w.heap.size (Put.lt_of_heap hC5) hxr hxr).trans hC5
  have q0 := op_cells hC6 0 _ rfl
  have hfb := Lib.hid (hb5.trans (off6.below hwR hwR hb5.size))
  clear hb5 hb3 HI5 hz5 hx5 hT5 hC5 off6 hb6 kI hC6 hld hT3 hC3
  go_wp2_with fail
  go_ret
  exact hfin.out _ _ rfl hfb.out

set_option maxRecDepth 1000000 in
set_option maxHeartbeats 4000000 in
theorem turn_hold_yes {y : Jb} (h : PV w p (.slice (some ⟨g, 0, none⟩) L.length cap) L) (o : Cl) (h0 : earlyF o = 0) (hm : m < L.length) (hid : o.id = (m : Int) + 1) (hy : L[m]! = y) (hkd : o.kind = 3) (hs : y.state = 1) : Calls Try.prog 15 #[.pointer (some ⟨p, 0, none⟩), .agg (encC o).toArray] w (TurnPost w p (.slice (some ⟨g, 0, none⟩) L.length cap) L o) := by
  have hmix := mixedO
  have zO := zE_op
  have lO := encC_len o
  obtain ⟨k14, hk14⟩ : ∃ k, k = 14 := ⟨_, rfl⟩
  rw [← hk14] at zO lO
  replace hk14 := Lib.hid hk14
  have hb1 := (Below.refl w.heap.size w).alloc (Nat.le_refl _) (.cells (encC o).toArray 38)
  have hC1 := heap_alloc_new w (.cells (encC o).toArray 38)
  have lc := op_load hC1 lO
  have hsz1 : (w.alloc (.cells (encC o).toArray 38)).heap.size = w.heap.size + 1 := by simp
  obtain ⟨w1, hw1⟩ : ∃ w1, w1 = w.alloc (.cells (encC o).toArray 38) := ⟨_, rfl⟩
  rw [← hw1] at hb1 hC1 hsz1
  have hev := early_fn o w1
  rw [h0] at hev
  have hfin := fun (W : World) (e : Ending) hr hP hq => turnPost_yes (w := w) (w' := W) (p := p) (v := .slice (some ⟨g, 0, none⟩) L.length cap) (e := e) (o := o) (y := y) h0 hm hid hy (by unfold okF; simp [hkd, hs]) hr hP hq
  have hch : chF o y = holdJ y := by unfold chF; simp [hkd]
  replace hfin := Lib.hid hfin
  have hle := own_len h.own
  have s1 : (y.2.2.2.2.2.1 != 1) = false := by rw [show y.2.2.2.2.2.1 = 1 from hs]; rfl
  clear hs
  have e3 : (o.kind == 3) = true := by rw [hkd]; rfl
  clear hkd
  have d1 : decide (o.id < 1) = false := decide_eq_false (by omega)
  have d2 : decide ((L.length : Int) < o.id) = false := decide_eq_false (by omega)
  clear h0
  replace h := Lib.hid h
  have b1 : (m : Int) < (L.length : Int) := by omega
  have b0 : (0 : Int) ≤ (m : Int) := by omega
  have wm : IntKind.i64.wrap (m : Int) = (m : Int) := by rw [IntKind.wrap_i64]; omega
  replace hid := Lib.hid hid
  go_enter Try.func15, Try.ntmps15
  go_wp2_with fail
  go_at_call 33
  rw [← hw1]
  replace hw1 := Lib.hid hw1
  refine hev.mono ?_
  clear hev lc
  rintro e w2 ⟨rfl, o2, rfl⟩
  have hb2 : Below w.heap.size w (w1.alloc o2) := hb1.alloc hb1.size _
  have hC2 : (w1.alloc o2).heap[w.heap.size]? = _ := (Go.heap_alloc_old w1 o2 (by omega)).trans hC1
  have hsz2 : w.heap.size + 1 ≤ (w1.alloc o2).heap.size := by simp [hsz1]
  generalize w1.alloc o2 = w2 at *
  have hT2 := h.out.kept hb2
  have g0 : ∀ n', (w2.drewN n').cell? ⟨p, 0, none⟩ = some (.slice (some ⟨g, 0, none⟩) L.length cap) := fun n' => hT2.c0
  have g2 : ∀ n', (w2.drewN n').cell? ⟨w.heap.size, 10, none⟩ = some (.int .i64 o.id) := fun n' => op_cells hC2 10 _ rfl
  clear hT2
  go_wp2_with fail
  go_quiet (fail)
  clear g0 g2
  have hb3 : Below w.heap.size w (w2.drewN nq) := ⟨hb2.os, hb2.tape, hb2.output, hb2.size, hb2.block⟩
  have hC3 : (w2.drewN nq).heap[w.heap.size]? = _ := hC2
  have hsz3 : w.heap.size + 1 ≤ (w2.drewN nq).heap.size := hsz2
  generalize w2.drewN nq = w3 at *
  clear hb2 hC2 hsz2
  have hT3 := h.out.kept hb3
  have zE := zE_job
  obtain ⟨k, hk⟩ : ∃ k, k = 10 := ⟨_, rfl⟩
  rw [← hk] at zE
  obtain ⟨cI, hcI⟩ : ∃ cI, cI = encJ y := ⟨_, rfl⟩
  have hld : Hid (∀ W, Below w3.heap.size w3 W → Sem.run Try.prog (loadCellsFrom ⟨g, m * k, none⟩ 0 k #[]) W = .ok cI.toArray W) := fun W hW => by
    have := (hT3.kept hW).row.load hk hm
    rw [Nat.zero_add, hy, ← hcI] at this
    exact this
  have lI : cI.length = k := by rw [hcI, hk]; rfl
  replace hk := Lib.hid hk
  replace hcI := Lib.hid hcI
  replace hT3 := Lib.hid hT3
  replace hC3 := Lib.hid hC3
  replace hy := Lib.hid hy
  replace hm := Lib.hid hm
  go_wp2_with fail
  refine Reg.region_mk 10 104 [[], [true], [true, true], [true, true, true], [false, false, false, false], [false, false, false, false, true], [false, false, false, false, true, true], [true, true, true, true, true, true, true], [true, true, true, true, true, true, true, true], [false, false, false, false, false, false, false, false, false]] [0, 0, 0, 1, 0, 1, 0, 0, 1, 1]
    [.pure, .pure, .pure, .minor Unit () (fun _ => .slice (some ⟨g, 0, none⟩) L.length cap) (fun _ _ => True), .pure, .minor Unit () (fun _ => .int .i64 ((m : Int) + 1)) (fun _ _ => True), .pure, .pure, .minor Unit () (fun _ => .agg cI.toArray) (fun _ _ => True), .minor Nat 0 (fun x => .pointer (some ⟨x, 0, none⟩)) (fun x W => W.heap[x]? = some (.cells #[.int .i64 0, .int .i64 0, .int .i64 0, .int .i64 0, .int .i64 0, .int .i64 0, .int .i64 0, .int .i64 0, .int .i64 0, .int .u64 0] 52 (0, 0)) ∧ w3.heap.size ≤ x)]
    (fun W => Below w3.heap.size w3 W) (fun _ _ => True) (fun a b => Below a.heap.size a b) (by kernel_rfl) (by kernel_rfl) rfl rfl (fun vs a b h hs => trivial) ?_ ?_ ?_ ?_ ?_ ?_
  · intro a b he hb; exact hb.trans (Below.mono he hb.size)
  · intro a b he hb; exact hb.trans (Below.mono he hb.size)
  · exact ⟨trivial, trivial, trivial, ⟨fun _ _ _ _ _ => trivial, fun _ _ _ _ _ => trivial⟩, trivial, ⟨fun _ _ _ _ _ => trivial, fun _ _ _ _ _ => trivial⟩, trivial, trivial, ⟨fun _ _ _ _ _ => trivial, fun _ _ _ _ _ => trivial⟩, ⟨fun x a b he h => ⟨(Below.block he x (Put.lt_of_heap h.1)).trans h.1, h.2⟩, fun x a b he h => ⟨(Below.block he x (Put.lt_of_heap h.1)).trans h.1, h.2⟩⟩, trivial⟩
  · exact ⟨rfl, rfl, rfl, Nat.le_refl _, fun _ _ => rfl⟩
  · trivial
  dsimp only [Reg.mk, List.zip, List.zipWith, List.take]
  repeat (refine' Reg.pass_is _ (by rfl) (fun wz => ?_) ?_; rotate_left; (go_simp; first | rfl | rw [if_neg (by omega)]); simp only [Act.put, List.setIfInBounds_toArray, List.set_cons_zero, List.set_cons_succ]; (try simp only [List.nil_append]); (try simp only [List.cons_append]); (try simp only [id]))
  refine Reg.pass_minor (by rfl) (fun wz hI hF => ?_) (fun r3 => ?_)
  · unfold Reg.One
    have d0 := (hT3.out.kept hI).c0
    go_wp2_with fail
    first | exact ⟨_, rfl, rfl, Reg.Ext.refl _⟩ | exact ⟨_, rfl, ⟨(), rfl, trivial⟩, Reg.Ext.refl _⟩
  simp only [Act.put, List.setIfInBounds_toArray, List.set_cons_zero, List.set_cons_succ]; (try simp only [List.nil_append]); (try simp only [List.cons_append]); (try simp only [id])
  repeat (refine' Reg.pass_is _ (by rfl) (fun wz => ?_) ?_; rotate_left; (go_simp; first | rfl | rw [if_neg (by omega)]); simp only [Act.put, List.setIfInBounds_toArray, List.set_cons_zero, List.set_cons_succ]; (try simp only [List.nil_append]); (try simp only [List.cons_append]); (try simp only [id]))
  refine Reg.pass_minor (by rfl) (fun wz hI hF => ?_) (fun r5 => ?_)
  · unfold Reg.One
    have d0 := op_cells (hI.block _ (Put.lt_of_heap hC3.out) |>.trans hC3.out) 10 _ rfl
    rw [hid.out] at d0
    go_wp2_with fail
    first | exact ⟨_, rfl, rfl, Reg.Ext.refl _⟩ | exact ⟨_, rfl, ⟨(), rfl, trivial⟩, Reg.Ext.refl _⟩
  simp only [Act.put, List.setIfInBounds_toArray, List.set_cons_zero, List.set_cons_succ]; (try simp only [List.nil_append]); (try simp only [List.cons_append]); (try simp only [id])
  refine Reg.pass_is (.int .i64 (m : Int)) (by rfl) (fun wz => ?_) ?_
  · go_simp
    (try rw [wm])
  simp only [Act.put, List.setIfInBounds_toArray, List.set_cons_zero, List.set_cons_succ]; (try simp only [List.nil_append]); (try simp only [List.cons_append]); (try simp only [id])
  refine Reg.pass_is (.pointer (some ⟨g, m * k, none⟩)) (by rfl) (fun wz => ?_) ?_
  · go_simp
    (try rw [if_pos ⟨by omega, by omega⟩])
    (try simp)
  simp only [Act.put, List.setIfInBounds_toArray, List.set_cons_zero, List.set_cons_succ]; (try simp only [List.nil_append]); (try simp only [List.cons_append]); (try simp only [id])
  refine Reg.pass_minor (by rfl) (fun wz hI hF => ?_) (fun r8 => ?_)
  · unfold Reg.One
    have d0 := hld.out wz hI
    go_wp2_with fail
    first | exact ⟨_, rfl, rfl, Reg.Ext.refl _⟩ | exact ⟨_, rfl, ⟨(), rfl, trivial⟩, Reg.Ext.refl _⟩
  simp only [Act.put, List.setIfInBounds_toArray, List.set_cons_zero, List.set_cons_succ]; (try simp only [List.nil_append]); (try simp only [List.cons_append]); (try simp only [id])
  refine Reg.pass_minor (by rfl) (fun wz hI hF => ?_) (fun r9 => ?_)
  · unfold Reg.One
    clear zE
    go_wp2_with fail
    exact ⟨_, rfl, ⟨wz.heap.size, rfl, heap_alloc_new wz _, by have := hI.size; omega⟩, (Below.refl wz.heap.size wz).alloc (Nat.le_refl _) _⟩
  simp only [Act.put, List.setIfInBounds_toArray, List.set_cons_zero, List.set_cons_succ]; (try simp only [List.nil_append]); (try simp only [List.cons_append]); (try simp only [id])
  refine Reg.pass_end ?_
  intro w5 HI5 _ HF5
  obtain ⟨hz5, hx5⟩ := HF5.2.2.2.2.2.2.2.2.2.1
  clear HF5 r3 r5 r8
  dsimp only [List.drop]
  obtain ⟨st5, hb6, off6⟩ := put_box (x := y) (cs := [.int .i64 0, .int .i64 0, .int .i64 0, .int .i64 0, .int .i64 0, .int .i64 0, .int .i64 0, .int .i64 0, .int .i64 0, .int .u64 0]) hz5 rfl
  rw [← hcI.out] at st5 hb6 off6
  have hT5 := hT3.out.kept HI5
  have hC5 := (HI5.block _ (Put.lt_of_heap hC3.out)).trans hC3.out
  have hx0 : r9 ≠ p := fun e => by have := hT3.out.lt; omega
  have hxr : w.heap.size ≠ r9 := fun e => by have := Put.lt_of_heap hC3.out; omega
  have hwR : w.heap.size ≤ r9 := by omega
  have hxg : g ≠ r9 := fun e => by have := (hT3.out.own.lt g rfl).2; omega
  have hb5 := hb3.trans (HI5.mono hb3.size)
  obtain ⟨w6, hw6⟩ : ∃ w6, w6 = w5.setRow r9 cI.toArray := ⟨_, rfl⟩
  rw [← hw6] at st5 hb6 off6
  replace hw6 := Lib.hid hw6
  have kI : ∀ j u, (encJ y)[j]? = some u → w6.cell? ⟨r9, j, none⟩ = some u := job_cells (by rw [← hcI.out]; exact hb6)
  have k5 := kI 5 _ rfl
  have f5 : w6.frozen? ⟨r9, 5, none⟩ = false := by simp [World.frozen?, hb6]
  have k8 := kI 8 _ rfl
  have f8 : w6.frozen? ⟨r9, 8, none⟩ = false := by simp [World.frozen?, hb6]
  have hC6 := (off6.block w.heap.size (Put.lt_of_heap hC5) hxr hxr).trans hC5
  have q0 := op_cells hC6 0 _ rfl
  have hT6 : PV w6 p (.slice (some ⟨g, 0, none⟩) L.length cap) L := ⟨(off6.block p hT5.lt hx0.symm hx0.symm).trans hT5.cell, off6.own hT5.own fun k hk => by
    have : g = k := by simpa [Value.ownBlock] using hk
    subst this
    exact ⟨hxg, hxg⟩⟩
  obtain ⟨sb0, so0⟩ := set_box (j := 5) (u := .int .i64 2) hb6
  obtain ⟨sb1, so1⟩ := set_box (j := 8) (u := .int .i64 (-1)) sb0
  have offB := (((Off.refl r9 r9 w6).trans so0 (.inl rfl)).trans so1 (.inl rfl))
  obtain ⟨wB, hwB⟩ : ∃ wB, wB = ((w6.setCell ⟨r9, 5, none⟩ (.int .i64 2)).setCell ⟨r9, 8, none⟩ (.int .i64 (-1))) := ⟨_, rfl⟩
  obtain ⟨cX, hcX⟩ : ∃ cX, cX = ((cI.set 5 (.int .i64 2)).set 8 (.int .i64 (-1))) := ⟨_, rfl⟩
  have hXB := sb1
  rw [← hwB] at hXB offB
  rw [← hcX] at hXB
  have eX : cX = encJ (chF o y) := by rw [hcX, hcI.out, hch]; rfl
  have lX : cX.length = k := by rw [eX, hk.out]; rfl
  have hTB : PV wB p (.slice (some ⟨g, 0, none⟩) L.length cap) L := ⟨(offB.block p hT6.lt hx0.symm hx0.symm).trans hT6.cell, offB.own hT6.own fun k hk => by
    have : g = k := by simpa [Value.ownBlock] using hk
    subst this
    exact ⟨hxg, hxg⟩⟩
  have hCB := (offB.block w.heap.size (Put.lt_of_heap hC6) hxr hxr).trans hC6
  have hbB : Below w.heap.size w wB := (hb5.trans (off6.below hwR hwR hb5.size)).trans (offB.below hwR hwR (Nat.le_trans hb5.size off6.size))
  clear offB sb0 so0 sb1 so1 hT6 hC6 hT5 hC5 off6 hb6 kI hz5 hx5 HI5 hb3 hb5 hT3 hC3 hld hch
  replace hTB := Lib.hid hTB
  replace hCB := Lib.hid hCB
  replace hXB := Lib.hid hXB
  replace hbB := Lib.hid hbB
  replace eX := Lib.hid eX
  replace hcX := Lib.hid hcX
  replace hwB := Lib.hid hwB
  go_wp2_with fail
  rw [← hwB.out]
  refine Reg.region_mk 8 104 [[], [true], [true, true], [true, true, true], [false, false, false, false], [false, false, false, false, true], [false, false, false, false, true, true], [false, false, false, false, false, false, false]] [0, 0, 0, 1, 0, 1, 0, 1]
    [.pure, .pure, .pure, .minor Unit () (fun _ => .slice (some ⟨g, 0, none⟩) L.length cap) (fun _ _ => True), .pure, .minor Unit () (fun _ => .int .i64 ((m : Int) + 1)) (fun _ _ => True), .pure, .minor Unit () (fun _ => .agg cX.toArray) (fun _ _ => True)]
    (fun W => Below wB.heap.size wB W) (fun _ _ => True) (fun a b => Below a.heap.size a b) (by kernel_rfl) (by kernel_rfl) rfl rfl (fun vs a b h hs => trivial) ?_ ?_ ?_ ?_ ?_ ?_
  · intro a b he hb; exact hb.trans (Below.mono he hb.size)
  · intro a b he hb; exact hb.trans (Below.mono he hb.size)
  · exact ⟨trivial, trivial, trivial, ⟨fun _ _ _ _ _ => trivial, fun _ _ _ _ _ => trivial⟩, trivial, ⟨fun _ _ _ _ _ => trivial, fun _ _ _ _ _ => trivial⟩, trivial, ⟨fun _ _ _ _ _ => trivial, fun _ _ _ _ _ => trivial⟩, trivial⟩
  · exact ⟨rfl, rfl, rfl, Nat.le_refl _, fun _ _ => rfl⟩
  · trivial
  dsimp only [Reg.mk, List.zip, List.zipWith, List.take]
  repeat (refine' Reg.pass_is _ (by rfl) (fun wz => ?_) ?_; rotate_left; (go_simp; first | rfl | rw [if_neg (by omega)]); simp only [Act.put, List.setIfInBounds_toArray, List.set_cons_zero, List.set_cons_succ]; (try simp only [List.nil_append]); (try simp only [List.cons_append]); (try simp only [id]))
  refine Reg.pass_minor (by rfl) (fun wz hI hF => ?_) (fun s3 => ?_)
  · unfold Reg.One
    have d0 := (hTB.out.kept hI).c0
    go_wp2_with fail
    first | exact ⟨_, rfl, rfl, Reg.Ext.refl _⟩ | exact ⟨_, rfl, ⟨(), rfl, trivial⟩, Reg.Ext.refl _⟩
  simp only [Act.put, List.setIfInBounds_toArray, List.set_cons_zero, List.set_cons_succ]; (try simp only [List.nil_append]); (try simp only [List.cons_append]); (try simp only [id])
  repeat (refine' Reg.pass_is _ (by rfl) (fun wz => ?_) ?_; rotate_left; (go_simp; first | rfl | rw [if_neg (by omega)]); simp only [Act.put, List.setIfInBounds_toArray, List.set_cons_zero, List.set_cons_succ]; (try simp only [List.nil_append]); (try simp only [List.cons_append]); (try simp only [id]))
  refine Reg.pass_minor (by rfl) (fun wz hI hF => ?_) (fun s5 => ?_)
  · unfold Reg.One
    have d0 := op_cells (hI.block _ (Put.lt_of_heap hCB.out) |>.trans hCB.out) 10 _ rfl
    rw [hid.out] at d0
    go_wp2_with fail
    first | exact ⟨_, rfl, rfl, Reg.Ext.refl _⟩ | exact ⟨_, rfl, ⟨(), rfl, trivial⟩, Reg.Ext.refl _⟩
  simp only [Act.put, List.setIfInBounds_toArray, List.set_cons_zero, List.set_cons_succ]; (try simp only [List.nil_append]); (try simp only [List.cons_append]); (try simp only [id])
  refine Reg.pass_is (.int .i64 (m : Int)) (by rfl) (fun wz => ?_) ?_
  · go_simp
    (try rw [wm])
  simp only [Act.put, List.setIfInBounds_toArray, List.set_cons_zero, List.set_cons_succ]; (try simp only [List.nil_append]); (try simp only [List.cons_append]); (try simp only [id])
  refine Reg.pass_minor (by rfl) (fun wz hI hF => ?_) (fun s7 => ?_)
  · unfold Reg.One
    have d0 := load_box ((hI.block _ (Put.lt_of_heap hXB.out)).trans hXB.out) lX
    go_wp2_with fail
    first | exact ⟨_, rfl, rfl, Reg.Ext.refl _⟩ | exact ⟨_, rfl, ⟨(), rfl, trivial⟩, Reg.Ext.refl _⟩
  simp only [Act.put, List.setIfInBounds_toArray, List.set_cons_zero, List.set_cons_succ]; (try simp only [List.nil_append]); (try simp only [List.cons_append]); (try simp only [id])
  refine Reg.pass_end ?_
  intro w7 HI7 _ HF7
  clear HF7 s3 s5 s7
  dsimp only [List.drop]
  have hT7 := hTB.out.kept HI7
  obtain ⟨w8, st8, hT8, off8⟩ := put_at hT7 hm.out (chF o y)
  rw [← eX.out] at st8
  rw [← hk.out] at st8
  have hq8 : QOff p (some g) w w8 := (QOff.of_below (hbB.out.trans (HI7.mono hbB.out.size))).trans off8 (NewO.refl _ _)
  replace hT8 := Lib.hid hT8
  replace hq8 := Lib.hid hq8
  clear hT7 off8 HI7
  go_wp2_with fail
  go_ret
  exact hfin.out _ _ rfl hT8.out hq8.out

set_option maxRecDepth 1000000 in
set_option maxHeartbeats 4000000 in
theorem turn_free_no {y : Jb} (h : PV w p (.slice (some ⟨g, 0, none⟩) L.length cap) L) (o : Cl) (h0 : earlyF o = 0) (hm : m < L.length) (hid : o.id = (m : Int) + 1) (hy : L[m]! = y) (hkd : o.kind = 4) (hs : y.state ≠ 2) : Calls Try.prog 15 #[.pointer (some ⟨p, 0, none⟩), .agg (encC o).toArray] w (TurnPost w p (.slice (some ⟨g, 0, none⟩) L.length cap) L o) := by
  have hmix := mixedO
  have zO := zE_op
  have lO := encC_len o
  obtain ⟨k14, hk14⟩ : ∃ k, k = 14 := ⟨_, rfl⟩
  rw [← hk14] at zO lO
  replace hk14 := Lib.hid hk14
  have hb1 := (Below.refl w.heap.size w).alloc (Nat.le_refl _) (.cells (encC o).toArray 38)
  have hC1 := heap_alloc_new w (.cells (encC o).toArray 38)
  have lc := op_load hC1 lO
  have hsz1 : (w.alloc (.cells (encC o).toArray 38)).heap.size = w.heap.size + 1 := by simp
  obtain ⟨w1, hw1⟩ : ∃ w1, w1 = w.alloc (.cells (encC o).toArray 38) := ⟨_, rfl⟩
  rw [← hw1] at hb1 hC1 hsz1
  have hev := early_fn o w1
  rw [h0] at hev
  have he : stepE L (earlyF o) o.id (okF o) = 8 := by
    unfold stepE
    rw [if_neg (by omega), if_neg (by omega), if_neg (by omega), show (o.id - 1).toNat = m from by omega, hy, if_neg (by unfold okF; simp [hkd, hs])]
  have hfin := fun (W : World) (e : Ending) hr hb => turnPost_no (w' := W) (e := e) h he (by decide) hr hb
  clear he
  replace hfin := Lib.hid hfin
  have hle := own_len h.own
  have s2 : (y.2.2.2.2.2.1 != 2) = true := bne_iff_ne.2 hs
  clear hs
  have e3 : (o.kind == 3) = false := by rw [hkd]; rfl
  have e4 : (o.kind == 4) = true := by rw [hkd]; rfl
  clear hkd
  have d1 : decide (o.id < 1) = false := decide_eq_false (by omega)
  have d2 : decide ((L.length : Int) < o.id) = false := decide_eq_false (by omega)
  clear h0
  replace h := Lib.hid h
  have b1 : (m : Int) < (L.length : Int) := by omega
  have b0 : (0 : Int) ≤ (m : Int) := by omega
  have wm : IntKind.i64.wrap (m : Int) = (m : Int) := by rw [IntKind.wrap_i64]; omega
  replace hid := Lib.hid hid
  go_enter Try.func15, Try.ntmps15
  go_wp2_with fail
  go_at_call 33
  rw [← hw1]
  replace hw1 := Lib.hid hw1
  refine hev.mono ?_
  clear hev lc
  rintro e w2 ⟨rfl, o2, rfl⟩
  have hb2 : Below w.heap.size w (w1.alloc o2) := hb1.alloc hb1.size _
  have hC2 : (w1.alloc o2).heap[w.heap.size]? = _ := (Go.heap_alloc_old w1 o2 (by omega)).trans hC1
  have hsz2 : w.heap.size + 1 ≤ (w1.alloc o2).heap.size := by simp [hsz1]
  generalize w1.alloc o2 = w2 at *
  have hT2 := h.out.kept hb2
  have g0 : ∀ n', (w2.drewN n').cell? ⟨p, 0, none⟩ = some (.slice (some ⟨g, 0, none⟩) L.length cap) := fun n' => hT2.c0
  have g2 : ∀ n', (w2.drewN n').cell? ⟨w.heap.size, 10, none⟩ = some (.int .i64 o.id) := fun n' => op_cells hC2 10 _ rfl
  clear hT2
  go_wp2_with fail
  go_quiet (fail)
  clear g0 g2
  have hb3 : Below w.heap.size w (w2.drewN nq) := ⟨hb2.os, hb2.tape, hb2.output, hb2.size, hb2.block⟩
  have hC3 : (w2.drewN nq).heap[w.heap.size]? = _ := hC2
  have hsz3 : w.heap.size + 1 ≤ (w2.drewN nq).heap.size := hsz2
  generalize w2.drewN nq = w3 at *
  clear hb2 hC2 hsz2
  have hT3 := h.out.kept hb3
  have zE := zE_job
  obtain ⟨k, hk⟩ : ∃ k, k = 10 := ⟨_, rfl⟩
  rw [← hk] at zE
  obtain ⟨cI, hcI⟩ : ∃ cI, cI = encJ y := ⟨_, rfl⟩
  have hld : Hid (∀ W, Below w3.heap.size w3 W → Sem.run Try.prog (loadCellsFrom ⟨g, m * k, none⟩ 0 k #[]) W = .ok cI.toArray W) := fun W hW => by
    have := (hT3.kept hW).row.load hk hm
    rw [Nat.zero_add, hy, ← hcI] at this
    exact this
  have lI : cI.length = k := by rw [hcI, hk]; rfl
  replace hk := Lib.hid hk
  replace hcI := Lib.hid hcI
  replace hT3 := Lib.hid hT3
  replace hC3 := Lib.hid hC3
  replace hy := Lib.hid hy
  replace hm := Lib.hid hm
  go_wp2_with fail
  refine Reg.region_mk 10 104 [[], [true], [true, true], [true, true, true], [false, false, false, false], [false, false, false, false, true], [false, false, false, false, true, true], [true, true, true, true, true, true, true], [true, true, true, true, true, true, true, true], [false, false, false, false, false, false, false, false, false]] [0, 0, 0, 1, 0, 1, 0, 0, 1, 1]
    [.pure, .pure, .pure, .minor Unit () (fun _ => .slice (some ⟨g, 0, none⟩) L.length cap) (fun _ _ => True), .pure, .minor Unit () (fun _ => .int .i64 ((m : Int) + 1)) (fun _ _ => True), .pure, .pure, .minor Unit () (fun _ => .agg cI.toArray) (fun _ _ => True), .minor Nat 0 (fun x => .pointer (some ⟨x, 0, none⟩)) (fun x W => W.heap[x]? = some (.cells #[.int .i64 0, .int .i64 0, .int .i64 0, .int .i64 0, .int .i64 0, .int .i64 0, .int .i64 0, .int .i64 0, .int .i64 0, .int .u64 0] 52 (0, 0)) ∧ w3.heap.size ≤ x)]
    (fun W => Below w3.heap.size w3 W) (fun _ _ => True) (fun a b => Below a.heap.size a b) (by kernel_rfl) (by kernel_rfl) rfl rfl (fun vs a b h hs => trivial) ?_ ?_ ?_ ?_ ?_ ?_
  · intro a b he hb; exact hb.trans (Below.mono he hb.size)
  · intro a b he hb; exact hb.trans (Below.mono he hb.size)
  · exact ⟨trivial, trivial, trivial, ⟨fun _ _ _ _ _ => trivial, fun _ _ _ _ _ => trivial⟩, trivial, ⟨fun _ _ _ _ _ => trivial, fun _ _ _ _ _ => trivial⟩, trivial, trivial, ⟨fun _ _ _ _ _ => trivial, fun _ _ _ _ _ => trivial⟩, ⟨fun x a b he h => ⟨(Below.block he x (Put.lt_of_heap h.1)).trans h.1, h.2⟩, fun x a b he h => ⟨(Below.block he x (Put.lt_of_heap h.1)).trans h.1, h.2⟩⟩, trivial⟩
  · exact ⟨rfl, rfl, rfl, Nat.le_refl _, fun _ _ => rfl⟩
  · trivial
  dsimp only [Reg.mk, List.zip, List.zipWith, List.take]
  repeat (refine' Reg.pass_is _ (by rfl) (fun wz => ?_) ?_; rotate_left; (go_simp; first | rfl | rw [if_neg (by omega)]); simp only [Act.put, List.setIfInBounds_toArray, List.set_cons_zero, List.set_cons_succ]; (try simp only [List.nil_append]); (try simp only [List.cons_append]); (try simp only [id]))
  refine Reg.pass_minor (by rfl) (fun wz hI hF => ?_) (fun r3 => ?_)
  · unfold Reg.One
    have d0 := (hT3.out.kept hI).c0
    go_wp2_with fail
    first | exact ⟨_, rfl, rfl, Reg.Ext.refl _⟩ | exact ⟨_, rfl, ⟨(), rfl, trivial⟩, Reg.Ext.refl _⟩
  simp only [Act.put, List.setIfInBounds_toArray, List.set_cons_zero, List.set_cons_succ]; (try simp only [List.nil_append]); (try simp only [List.cons_append]); (try simp only [id])
  repeat (refine' Reg.pass_is _ (by rfl) (fun wz => ?_) ?_; rotate_left; (go_simp; first | rfl | rw [if_neg (by omega)]); simp only [Act.put, List.setIfInBounds_toArray, List.set_cons_zero, List.set_cons_succ]; (try simp only [List.nil_append]); (try simp only [List.cons_append]); (try simp only [id]))
  refine Reg.pass_minor (by rfl) (fun wz hI hF => ?_) (fun r5 => ?_)
  · unfold Reg.One
    have d0 := op_cells (hI.block _ (Put.lt_of_heap hC3.out) |>.trans hC3.out) 10 _ rfl
    rw [hid.out] at d0
    go_wp2_with fail
    first | exact ⟨_, rfl, rfl, Reg.Ext.refl _⟩ | exact ⟨_, rfl, ⟨(), rfl, trivial⟩, Reg.Ext.refl _⟩
  simp only [Act.put, List.setIfInBounds_toArray, List.set_cons_zero, List.set_cons_succ]; (try simp only [List.nil_append]); (try simp only [List.cons_append]); (try simp only [id])
  refine Reg.pass_is (.int .i64 (m : Int)) (by rfl) (fun wz => ?_) ?_
  · go_simp
    (try rw [wm])
  simp only [Act.put, List.setIfInBounds_toArray, List.set_cons_zero, List.set_cons_succ]; (try simp only [List.nil_append]); (try simp only [List.cons_append]); (try simp only [id])
  refine Reg.pass_is (.pointer (some ⟨g, m * k, none⟩)) (by rfl) (fun wz => ?_) ?_
  · go_simp
    (try rw [if_pos ⟨by omega, by omega⟩])
    (try simp)
  simp only [Act.put, List.setIfInBounds_toArray, List.set_cons_zero, List.set_cons_succ]; (try simp only [List.nil_append]); (try simp only [List.cons_append]); (try simp only [id])
  refine Reg.pass_minor (by rfl) (fun wz hI hF => ?_) (fun r8 => ?_)
  · unfold Reg.One
    have d0 := hld.out wz hI
    go_wp2_with fail
    first | exact ⟨_, rfl, rfl, Reg.Ext.refl _⟩ | exact ⟨_, rfl, ⟨(), rfl, trivial⟩, Reg.Ext.refl _⟩
  simp only [Act.put, List.setIfInBounds_toArray, List.set_cons_zero, List.set_cons_succ]; (try simp only [List.nil_append]); (try simp only [List.cons_append]); (try simp only [id])
  refine Reg.pass_minor (by rfl) (fun wz hI hF => ?_) (fun r9 => ?_)
  · unfold Reg.One
    clear zE
    go_wp2_with fail
    exact ⟨_, rfl, ⟨wz.heap.size, rfl, heap_alloc_new wz _, by have := hI.size; omega⟩, (Below.refl wz.heap.size wz).alloc (Nat.le_refl _) _⟩
  simp only [Act.put, List.setIfInBounds_toArray, List.set_cons_zero, List.set_cons_succ]; (try simp only [List.nil_append]); (try simp only [List.cons_append]); (try simp only [id])
  refine Reg.pass_end ?_
  intro w5 HI5 _ HF5
  obtain ⟨hz5, hx5⟩ := HF5.2.2.2.2.2.2.2.2.2.1
  clear HF5 r3 r5 r8
  dsimp only [List.drop]
  obtain ⟨st5, hb6, off6⟩ := put_box (x := y) (cs := [.int .i64 0, .int .i64 0, .int .i64 0, .int .i64 0, .int .i64 0, .int .i64 0, .int .i64 0, .int .i64 0, .int .i64 0, .int .u64 0]) hz5 rfl
  rw [← hcI.out] at st5 hb6 off6
  have hT5 := hT3.out.kept HI5
  have hC5 := (HI5.block _ (Put.lt_of_heap hC3.out)).trans hC3.out
  have hx0 : r9 ≠ p := fun e => by have := hT3.out.lt; omega
  have hxr : w.heap.size ≠ r9 := fun e => by have := Put.lt_of_heap hC3.out; omega
  have hwR : w.heap.size ≤ r9 := by omega
  have hxg : g ≠ r9 := fun e => by have := (hT3.out.own.lt g rfl).2; omega
  have hb5 := hb3.trans (HI5.mono hb3.size)
  obtain ⟨w6, hw6⟩ : ∃ w6, w6 = w5.setRow r9 cI.toArray := ⟨_, rfl⟩
  rw [← hw6] at st5 hb6 off6
  replace hw6 := Lib.hid hw6
  have kI : ∀ j u, (encJ y)[j]? = some u → w6.cell? ⟨r9, j, none⟩ = some u := job_cells (by rw [← hcI.out]; exact hb6)
  have k5 := kI 5 _ rfl
  have f5 : w6.frozen? ⟨r9, 5, none⟩ = false := by simp [World.frozen?, hb6]
  have hC6 := (off6.block w.heap.size (Put.lt_of_heap hC5) hxr hxr).trans hC5
  have q0 := op_cells hC6 0 _ rfl
  have hfb := Lib.hid (hb5.trans (off6.below hwR hwR hb5.size))
  clear hb5 hb3 HI5 hz5 hx5 hT5 hC5 off6 hb6 kI hC6 hld hT3 hC3
  go_wp2_with fail
  go_ret
  exact hfin.out _ _ rfl hfb.out

set_option maxRecDepth 1000000 in
set_option maxHeartbeats 4000000 in
theorem turn_free_yes {y : Jb} (h : PV w p (.slice (some ⟨g, 0, none⟩) L.length cap) L) (o : Cl) (h0 : earlyF o = 0) (hm : m < L.length) (hid : o.id = (m : Int) + 1) (hy : L[m]! = y) (hkd : o.kind = 4) (hs : y.state = 2) : Calls Try.prog 15 #[.pointer (some ⟨p, 0, none⟩), .agg (encC o).toArray] w (TurnPost w p (.slice (some ⟨g, 0, none⟩) L.length cap) L o) := by
  have hmix := mixedO
  have zO := zE_op
  have lO := encC_len o
  obtain ⟨k14, hk14⟩ : ∃ k, k = 14 := ⟨_, rfl⟩
  rw [← hk14] at zO lO
  replace hk14 := Lib.hid hk14
  have hb1 := (Below.refl w.heap.size w).alloc (Nat.le_refl _) (.cells (encC o).toArray 38)
  have hC1 := heap_alloc_new w (.cells (encC o).toArray 38)
  have lc := op_load hC1 lO
  have hsz1 : (w.alloc (.cells (encC o).toArray 38)).heap.size = w.heap.size + 1 := by simp
  obtain ⟨w1, hw1⟩ : ∃ w1, w1 = w.alloc (.cells (encC o).toArray 38) := ⟨_, rfl⟩
  rw [← hw1] at hb1 hC1 hsz1
  have hev := early_fn o w1
  rw [h0] at hev
  have hfin := fun (W : World) (e : Ending) hr hP hq => turnPost_yes (w := w) (w' := W) (p := p) (v := .slice (some ⟨g, 0, none⟩) L.length cap) (e := e) (o := o) (y := y) h0 hm hid hy (by unfold okF; simp [hkd, hs]) hr hP hq
  have hch : chF o y = freeJ y := by unfold chF; simp [hkd]
  replace hfin := Lib.hid hfin
  have hle := own_len h.own
  have s2 : (y.2.2.2.2.2.1 != 2) = false := by rw [show y.2.2.2.2.2.1 = 2 from hs]; rfl
  clear hs
  have e3 : (o.kind == 3) = false := by rw [hkd]; rfl
  have e4 : (o.kind == 4) = true := by rw [hkd]; rfl
  clear hkd
  have d1 : decide (o.id < 1) = false := decide_eq_false (by omega)
  have d2 : decide ((L.length : Int) < o.id) = false := decide_eq_false (by omega)
  clear h0
  replace h := Lib.hid h
  have b1 : (m : Int) < (L.length : Int) := by omega
  have b0 : (0 : Int) ≤ (m : Int) := by omega
  have wm : IntKind.i64.wrap (m : Int) = (m : Int) := by rw [IntKind.wrap_i64]; omega
  replace hid := Lib.hid hid
  go_enter Try.func15, Try.ntmps15
  go_wp2_with fail
  go_at_call 33
  rw [← hw1]
  replace hw1 := Lib.hid hw1
  refine hev.mono ?_
  clear hev lc
  rintro e w2 ⟨rfl, o2, rfl⟩
  have hb2 : Below w.heap.size w (w1.alloc o2) := hb1.alloc hb1.size _
  have hC2 : (w1.alloc o2).heap[w.heap.size]? = _ := (Go.heap_alloc_old w1 o2 (by omega)).trans hC1
  have hsz2 : w.heap.size + 1 ≤ (w1.alloc o2).heap.size := by simp [hsz1]
  generalize w1.alloc o2 = w2 at *
  have hT2 := h.out.kept hb2
  have g0 : ∀ n', (w2.drewN n').cell? ⟨p, 0, none⟩ = some (.slice (some ⟨g, 0, none⟩) L.length cap) := fun n' => hT2.c0
  have g2 : ∀ n', (w2.drewN n').cell? ⟨w.heap.size, 10, none⟩ = some (.int .i64 o.id) := fun n' => op_cells hC2 10 _ rfl
  clear hT2
  go_wp2_with fail
  go_quiet (fail)
  clear g0 g2
  have hb3 : Below w.heap.size w (w2.drewN nq) := ⟨hb2.os, hb2.tape, hb2.output, hb2.size, hb2.block⟩
  have hC3 : (w2.drewN nq).heap[w.heap.size]? = _ := hC2
  have hsz3 : w.heap.size + 1 ≤ (w2.drewN nq).heap.size := hsz2
  generalize w2.drewN nq = w3 at *
  clear hb2 hC2 hsz2
  have hT3 := h.out.kept hb3
  have zE := zE_job
  obtain ⟨k, hk⟩ : ∃ k, k = 10 := ⟨_, rfl⟩
  rw [← hk] at zE
  obtain ⟨cI, hcI⟩ : ∃ cI, cI = encJ y := ⟨_, rfl⟩
  have hld : Hid (∀ W, Below w3.heap.size w3 W → Sem.run Try.prog (loadCellsFrom ⟨g, m * k, none⟩ 0 k #[]) W = .ok cI.toArray W) := fun W hW => by
    have := (hT3.kept hW).row.load hk hm
    rw [Nat.zero_add, hy, ← hcI] at this
    exact this
  have lI : cI.length = k := by rw [hcI, hk]; rfl
  replace hk := Lib.hid hk
  replace hcI := Lib.hid hcI
  replace hT3 := Lib.hid hT3
  replace hC3 := Lib.hid hC3
  replace hy := Lib.hid hy
  replace hm := Lib.hid hm
  go_wp2_with fail
  refine Reg.region_mk 10 104 [[], [true], [true, true], [true, true, true], [false, false, false, false], [false, false, false, false, true], [false, false, false, false, true, true], [true, true, true, true, true, true, true], [true, true, true, true, true, true, true, true], [false, false, false, false, false, false, false, false, false]] [0, 0, 0, 1, 0, 1, 0, 0, 1, 1]
    [.pure, .pure, .pure, .minor Unit () (fun _ => .slice (some ⟨g, 0, none⟩) L.length cap) (fun _ _ => True), .pure, .minor Unit () (fun _ => .int .i64 ((m : Int) + 1)) (fun _ _ => True), .pure, .pure, .minor Unit () (fun _ => .agg cI.toArray) (fun _ _ => True), .minor Nat 0 (fun x => .pointer (some ⟨x, 0, none⟩)) (fun x W => W.heap[x]? = some (.cells #[.int .i64 0, .int .i64 0, .int .i64 0, .int .i64 0, .int .i64 0, .int .i64 0, .int .i64 0, .int .i64 0, .int .i64 0, .int .u64 0] 52 (0, 0)) ∧ w3.heap.size ≤ x)]
    (fun W => Below w3.heap.size w3 W) (fun _ _ => True) (fun a b => Below a.heap.size a b) (by kernel_rfl) (by kernel_rfl) rfl rfl (fun vs a b h hs => trivial) ?_ ?_ ?_ ?_ ?_ ?_
  · intro a b he hb; exact hb.trans (Below.mono he hb.size)
  · intro a b he hb; exact hb.trans (Below.mono he hb.size)
  · exact ⟨trivial, trivial, trivial, ⟨fun _ _ _ _ _ => trivial, fun _ _ _ _ _ => trivial⟩, trivial, ⟨fun _ _ _ _ _ => trivial, fun _ _ _ _ _ => trivial⟩, trivial, trivial, ⟨fun _ _ _ _ _ => trivial, fun _ _ _ _ _ => trivial⟩, ⟨fun x a b he h => ⟨(Below.block he x (Put.lt_of_heap h.1)).trans h.1, h.2⟩, fun x a b he h => ⟨(Below.block he x (Put.lt_of_heap h.1)).trans h.1, h.2⟩⟩, trivial⟩
  · exact ⟨rfl, rfl, rfl, Nat.le_refl _, fun _ _ => rfl⟩
  · trivial
  dsimp only [Reg.mk, List.zip, List.zipWith, List.take]
  repeat (refine' Reg.pass_is _ (by rfl) (fun wz => ?_) ?_; rotate_left; (go_simp; first | rfl | rw [if_neg (by omega)]); simp only [Act.put, List.setIfInBounds_toArray, List.set_cons_zero, List.set_cons_succ]; (try simp only [List.nil_append]); (try simp only [List.cons_append]); (try simp only [id]))
  refine Reg.pass_minor (by rfl) (fun wz hI hF => ?_) (fun r3 => ?_)
  · unfold Reg.One
    have d0 := (hT3.out.kept hI).c0
    go_wp2_with fail
    first | exact ⟨_, rfl, rfl, Reg.Ext.refl _⟩ | exact ⟨_, rfl, ⟨(), rfl, trivial⟩, Reg.Ext.refl _⟩
  simp only [Act.put, List.setIfInBounds_toArray, List.set_cons_zero, List.set_cons_succ]; (try simp only [List.nil_append]); (try simp only [List.cons_append]); (try simp only [id])
  repeat (refine' Reg.pass_is _ (by rfl) (fun wz => ?_) ?_; rotate_left; (go_simp; first | rfl | rw [if_neg (by omega)]); simp only [Act.put, List.setIfInBounds_toArray, List.set_cons_zero, List.set_cons_succ]; (try simp only [List.nil_append]); (try simp only [List.cons_append]); (try simp only [id]))
  refine Reg.pass_minor (by rfl) (fun wz hI hF => ?_) (fun r5 => ?_)
  · unfold Reg.One
    have d0 := op_cells (hI.block _ (Put.lt_of_heap hC3.out) |>.trans hC3.out) 10 _ rfl
    rw [hid.out] at d0
    go_wp2_with fail
    first | exact ⟨_, rfl, rfl, Reg.Ext.refl _⟩ | exact ⟨_, rfl, ⟨(), rfl, trivial⟩, Reg.Ext.refl _⟩
  simp only [Act.put, List.setIfInBounds_toArray, List.set_cons_zero, List.set_cons_succ]; (try simp only [List.nil_append]); (try simp only [List.cons_append]); (try simp only [id])
  refine Reg.pass_is (.int .i64 (m : Int)) (by rfl) (fun wz => ?_) ?_
  · go_simp
    (try rw [wm])
  simp only [Act.put, List.setIfInBounds_toArray, List.set_cons_zero, List.set_cons_succ]; (try simp only [List.nil_append]); (try simp only [List.cons_append]); (try simp only [id])
  refine Reg.pass_is (.pointer (some ⟨g, m * k, none⟩)) (by rfl) (fun wz => ?_) ?_
  · go_simp
    (try rw [if_pos ⟨by omega, by omega⟩])
    (try simp)
  simp only [Act.put, List.setIfInBounds_toArray, List.set_cons_zero, List.set_cons_succ]; (try simp only [List.nil_append]); (try simp only [List.cons_append]); (try simp only [id])
  refine Reg.pass_minor (by rfl) (fun wz hI hF => ?_) (fun r8 => ?_)
  · unfold Reg.One
    have d0 := hld.out wz hI
    go_wp2_with fail
    first | exact ⟨_, rfl, rfl, Reg.Ext.refl _⟩ | exact ⟨_, rfl, ⟨(), rfl, trivial⟩, Reg.Ext.refl _⟩
  simp only [Act.put, List.setIfInBounds_toArray, List.set_cons_zero, List.set_cons_succ]; (try simp only [List.nil_append]); (try simp only [List.cons_append]); (try simp only [id])
  refine Reg.pass_minor (by rfl) (fun wz hI hF => ?_) (fun r9 => ?_)
  · unfold Reg.One
    clear zE
    go_wp2_with fail
    exact ⟨_, rfl, ⟨wz.heap.size, rfl, heap_alloc_new wz _, by have := hI.size; omega⟩, (Below.refl wz.heap.size wz).alloc (Nat.le_refl _) _⟩
  simp only [Act.put, List.setIfInBounds_toArray, List.set_cons_zero, List.set_cons_succ]; (try simp only [List.nil_append]); (try simp only [List.cons_append]); (try simp only [id])
  refine Reg.pass_end ?_
  intro w5 HI5 _ HF5
  obtain ⟨hz5, hx5⟩ := HF5.2.2.2.2.2.2.2.2.2.1
  clear HF5 r3 r5 r8
  dsimp only [List.drop]
  obtain ⟨st5, hb6, off6⟩ := put_box (x := y) (cs := [.int .i64 0, .int .i64 0, .int .i64 0, .int .i64 0, .int .i64 0, .int .i64 0, .int .i64 0, .int .i64 0, .int .i64 0, .int .u64 0]) hz5 rfl
  rw [← hcI.out] at st5 hb6 off6
  have hT5 := hT3.out.kept HI5
  have hC5 := (HI5.block _ (Put.lt_of_heap hC3.out)).trans hC3.out
  have hx0 : r9 ≠ p := fun e => by have := hT3.out.lt; omega
  have hxr : w.heap.size ≠ r9 := fun e => by have := Put.lt_of_heap hC3.out; omega
  have hwR : w.heap.size ≤ r9 := by omega
  have hxg : g ≠ r9 := fun e => by have := (hT3.out.own.lt g rfl).2; omega
  have hb5 := hb3.trans (HI5.mono hb3.size)
  obtain ⟨w6, hw6⟩ : ∃ w6, w6 = w5.setRow r9 cI.toArray := ⟨_, rfl⟩
  rw [← hw6] at st5 hb6 off6
  replace hw6 := Lib.hid hw6
  have kI : ∀ j u, (encJ y)[j]? = some u → w6.cell? ⟨r9, j, none⟩ = some u := job_cells (by rw [← hcI.out]; exact hb6)
  have k5 := kI 5 _ rfl
  have f5 : w6.frozen? ⟨r9, 5, none⟩ = false := by simp [World.frozen?, hb6]
  have hC6 := (off6.block w.heap.size (Put.lt_of_heap hC5) hxr hxr).trans hC5
  have q0 := op_cells hC6 0 _ rfl
  have hT6 : PV w6 p (.slice (some ⟨g, 0, none⟩) L.length cap) L := ⟨(off6.block p hT5.lt hx0.symm hx0.symm).trans hT5.cell, off6.own hT5.own fun k hk => by
    have : g = k := by simpa [Value.ownBlock] using hk
    subst this
    exact ⟨hxg, hxg⟩⟩
  obtain ⟨sb0, so0⟩ := set_box (j := 5) (u := .int .i64 1) hb6
  have offB := ((Off.refl r9 r9 w6).trans so0 (.inl rfl))
  obtain ⟨wB, hwB⟩ : ∃ wB, wB = (w6.setCell ⟨r9, 5, none⟩ (.int .i64 1)) := ⟨_, rfl⟩
  obtain ⟨cX, hcX⟩ : ∃ cX, cX = (cI.set 5 (.int .i64 1)) := ⟨_, rfl⟩
  have hXB := sb0
  rw [← hwB] at hXB offB
  rw [← hcX] at hXB
  have eX : cX = encJ (chF o y) := by rw [hcX, hcI.out, hch]; rfl
  have lX : cX.length = k := by rw [eX, hk.out]; rfl
  have hTB : PV wB p (.slice (some ⟨g, 0, none⟩) L.length cap) L := ⟨(offB.block p hT6.lt hx0.symm hx0.symm).trans hT6.cell, offB.own hT6.own fun k hk => by
    have : g = k := by simpa [Value.ownBlock] using hk
    subst this
    exact ⟨hxg, hxg⟩⟩
  have hCB := (offB.block w.heap.size (Put.lt_of_heap hC6) hxr hxr).trans hC6
  have hbB : Below w.heap.size w wB := (hb5.trans (off6.below hwR hwR hb5.size)).trans (offB.below hwR hwR (Nat.le_trans hb5.size off6.size))
  clear offB sb0 so0 hT6 hC6 hT5 hC5 off6 hb6 kI hz5 hx5 HI5 hb3 hb5 hT3 hC3 hld hch
  replace hTB := Lib.hid hTB
  replace hCB := Lib.hid hCB
  replace hXB := Lib.hid hXB
  replace hbB := Lib.hid hbB
  replace eX := Lib.hid eX
  replace hcX := Lib.hid hcX
  replace hwB := Lib.hid hwB
  go_wp2_with fail
  rw [← hwB.out]
  refine Reg.region_mk 8 104 [[], [true], [true, true], [true, true, true], [false, false, false, false], [false, false, false, false, true], [false, false, false, false, true, true], [false, false, false, false, false, false, false]] [0, 0, 0, 1, 0, 1, 0, 1]
    [.pure, .pure, .pure, .minor Unit () (fun _ => .slice (some ⟨g, 0, none⟩) L.length cap) (fun _ _ => True), .pure, .minor Unit () (fun _ => .int .i64 ((m : Int) + 1)) (fun _ _ => True), .pure, .minor Unit () (fun _ => .agg cX.toArray) (fun _ _ => True)]
    (fun W => Below wB.heap.size wB W) (fun _ _ => True) (fun a b => Below a.heap.size a b) (by kernel_rfl) (by kernel_rfl) rfl rfl (fun vs a b h hs => trivial) ?_ ?_ ?_ ?_ ?_ ?_
  · intro a b he hb; exact hb.trans (Below.mono he hb.size)
  · intro a b he hb; exact hb.trans (Below.mono he hb.size)
  · exact ⟨trivial, trivial, trivial, ⟨fun _ _ _ _ _ => trivial, fun _ _ _ _ _ => trivial⟩, trivial, ⟨fun _ _ _ _ _ => trivial, fun _ _ _ _ _ => trivial⟩, trivial, ⟨fun _ _ _ _ _ => trivial, fun _ _ _ _ _ => trivial⟩, trivial⟩
  · exact ⟨rfl, rfl, rfl, Nat.le_refl _, fun _ _ => rfl⟩
  · trivial
  dsimp only [Reg.mk, List.zip, List.zipWith, List.take]
  repeat (refine' Reg.pass_is _ (by rfl) (fun wz => ?_) ?_; rotate_left; (go_simp; first | rfl | rw [if_neg (by omega)]); simp only [Act.put, List.setIfInBounds_toArray, List.set_cons_zero, List.set_cons_succ]; (try simp only [List.nil_append]); (try simp only [List.cons_append]); (try simp only [id]))
  refine Reg.pass_minor (by rfl) (fun wz hI hF => ?_) (fun s3 => ?_)
  · unfold Reg.One
    have d0 := (hTB.out.kept hI).c0
    go_wp2_with fail
    first | exact ⟨_, rfl, rfl, Reg.Ext.refl _⟩ | exact ⟨_, rfl, ⟨(), rfl, trivial⟩, Reg.Ext.refl _⟩
  simp only [Act.put, List.setIfInBounds_toArray, List.set_cons_zero, List.set_cons_succ]; (try simp only [List.nil_append]); (try simp only [List.cons_append]); (try simp only [id])
  repeat (refine' Reg.pass_is _ (by rfl) (fun wz => ?_) ?_; rotate_left; (go_simp; first | rfl | rw [if_neg (by omega)]); simp only [Act.put, List.setIfInBounds_toArray, List.set_cons_zero, List.set_cons_succ]; (try simp only [List.nil_append]); (try simp only [List.cons_append]); (try simp only [id]))
  refine Reg.pass_minor (by rfl) (fun wz hI hF => ?_) (fun s5 => ?_)
  · unfold Reg.One
    have d0 := op_cells (hI.block _ (Put.lt_of_heap hCB.out) |>.trans hCB.out) 10 _ rfl
    rw [hid.out] at d0
    go_wp2_with fail
    first | exact ⟨_, rfl, rfl, Reg.Ext.refl _⟩ | exact ⟨_, rfl, ⟨(), rfl, trivial⟩, Reg.Ext.refl _⟩
  simp only [Act.put, List.setIfInBounds_toArray, List.set_cons_zero, List.set_cons_succ]; (try simp only [List.nil_append]); (try simp only [List.cons_append]); (try simp only [id])
  refine Reg.pass_is (.int .i64 (m : Int)) (by rfl) (fun wz => ?_) ?_
  · go_simp
    (try rw [wm])
  simp only [Act.put, List.setIfInBounds_toArray, List.set_cons_zero, List.set_cons_succ]; (try simp only [List.nil_append]); (try simp only [List.cons_append]); (try simp only [id])
  refine Reg.pass_minor (by rfl) (fun wz hI hF => ?_) (fun s7 => ?_)
  · unfold Reg.One
    have d0 := load_box ((hI.block _ (Put.lt_of_heap hXB.out)).trans hXB.out) lX
    go_wp2_with fail
    first | exact ⟨_, rfl, rfl, Reg.Ext.refl _⟩ | exact ⟨_, rfl, ⟨(), rfl, trivial⟩, Reg.Ext.refl _⟩
  simp only [Act.put, List.setIfInBounds_toArray, List.set_cons_zero, List.set_cons_succ]; (try simp only [List.nil_append]); (try simp only [List.cons_append]); (try simp only [id])
  refine Reg.pass_end ?_
  intro w7 HI7 _ HF7
  clear HF7 s3 s5 s7
  dsimp only [List.drop]
  have hT7 := hTB.out.kept HI7
  obtain ⟨w8, st8, hT8, off8⟩ := put_at hT7 hm.out (chF o y)
  rw [← eX.out] at st8
  rw [← hk.out] at st8
  have hq8 : QOff p (some g) w w8 := (QOff.of_below (hbB.out.trans (HI7.mono hbB.out.size))).trans off8 (NewO.refl _ _)
  replace hT8 := Lib.hid hT8
  replace hq8 := Lib.hid hq8
  clear hT7 off8 HI7
  go_wp2_with fail
  go_ret
  exact hfin.out _ _ rfl hT8.out hq8.out

set_option maxRecDepth 1000000 in
set_option maxHeartbeats 4000000 in
theorem turn_plan_no {y : Jb} (h : PV w p (.slice (some ⟨g, 0, none⟩) L.length cap) L) (o : Cl) (h0 : earlyF o = 0) (hm : m < L.length) (hid : o.id = (m : Int) + 1) (hy : L[m]! = y) (hkd : o.kind = 5) (hs : y.state ≠ 1) : Calls Try.prog 15 #[.pointer (some ⟨p, 0, none⟩), .agg (encC o).toArray] w (TurnPost w p (.slice (some ⟨g, 0, none⟩) L.length cap) L o) := by
  have hmix := mixedO
  have zO := zE_op
  have lO := encC_len o
  obtain ⟨k14, hk14⟩ : ∃ k, k = 14 := ⟨_, rfl⟩
  rw [← hk14] at zO lO
  replace hk14 := Lib.hid hk14
  have hb1 := (Below.refl w.heap.size w).alloc (Nat.le_refl _) (.cells (encC o).toArray 38)
  have hC1 := heap_alloc_new w (.cells (encC o).toArray 38)
  have lc := op_load hC1 lO
  have hsz1 : (w.alloc (.cells (encC o).toArray 38)).heap.size = w.heap.size + 1 := by simp
  obtain ⟨w1, hw1⟩ : ∃ w1, w1 = w.alloc (.cells (encC o).toArray 38) := ⟨_, rfl⟩
  rw [← hw1] at hb1 hC1 hsz1
  have hev := early_fn o w1
  rw [h0] at hev
  have he : stepE L (earlyF o) o.id (okF o) = 8 := by
    unfold stepE
    rw [if_neg (by omega), if_neg (by omega), if_neg (by omega), show (o.id - 1).toNat = m from by omega, hy, if_neg (by unfold okF; simp [hkd, hs])]
  have hfin := fun (W : World) (e : Ending) hr hb => turnPost_no (w' := W) (e := e) h he (by decide) hr hb
  clear he
  replace hfin := Lib.hid hfin
  have hle := own_len h.own
  have s1 : (y.2.2.2.2.2.1 != 1) = true := bne_iff_ne.2 hs
  clear hs
  have e3 : (o.kind == 3) = false := by rw [hkd]; rfl
  have e4 : (o.kind == 4) = false := by rw [hkd]; rfl
  have e5 : (o.kind == 5) = true := by rw [hkd]; rfl
  clear hkd
  have d1 : decide (o.id < 1) = false := decide_eq_false (by omega)
  have d2 : decide ((L.length : Int) < o.id) = false := decide_eq_false (by omega)
  clear h0
  replace h := Lib.hid h
  have b1 : (m : Int) < (L.length : Int) := by omega
  have b0 : (0 : Int) ≤ (m : Int) := by omega
  have wm : IntKind.i64.wrap (m : Int) = (m : Int) := by rw [IntKind.wrap_i64]; omega
  replace hid := Lib.hid hid
  go_enter Try.func15, Try.ntmps15
  go_wp2_with fail
  go_at_call 33
  rw [← hw1]
  replace hw1 := Lib.hid hw1
  refine hev.mono ?_
  clear hev lc
  rintro e w2 ⟨rfl, o2, rfl⟩
  have hb2 : Below w.heap.size w (w1.alloc o2) := hb1.alloc hb1.size _
  have hC2 : (w1.alloc o2).heap[w.heap.size]? = _ := (Go.heap_alloc_old w1 o2 (by omega)).trans hC1
  have hsz2 : w.heap.size + 1 ≤ (w1.alloc o2).heap.size := by simp [hsz1]
  generalize w1.alloc o2 = w2 at *
  have hT2 := h.out.kept hb2
  have g0 : ∀ n', (w2.drewN n').cell? ⟨p, 0, none⟩ = some (.slice (some ⟨g, 0, none⟩) L.length cap) := fun n' => hT2.c0
  have g2 : ∀ n', (w2.drewN n').cell? ⟨w.heap.size, 10, none⟩ = some (.int .i64 o.id) := fun n' => op_cells hC2 10 _ rfl
  clear hT2
  go_wp2_with fail
  go_quiet (fail)
  clear g0 g2
  have hb3 : Below w.heap.size w (w2.drewN nq) := ⟨hb2.os, hb2.tape, hb2.output, hb2.size, hb2.block⟩
  have hC3 : (w2.drewN nq).heap[w.heap.size]? = _ := hC2
  have hsz3 : w.heap.size + 1 ≤ (w2.drewN nq).heap.size := hsz2
  generalize w2.drewN nq = w3 at *
  clear hb2 hC2 hsz2
  have hT3 := h.out.kept hb3
  have zE := zE_job
  obtain ⟨k, hk⟩ : ∃ k, k = 10 := ⟨_, rfl⟩
  rw [← hk] at zE
  obtain ⟨cI, hcI⟩ : ∃ cI, cI = encJ y := ⟨_, rfl⟩
  have hld : Hid (∀ W, Below w3.heap.size w3 W → Sem.run Try.prog (loadCellsFrom ⟨g, m * k, none⟩ 0 k #[]) W = .ok cI.toArray W) := fun W hW => by
    have := (hT3.kept hW).row.load hk hm
    rw [Nat.zero_add, hy, ← hcI] at this
    exact this
  have lI : cI.length = k := by rw [hcI, hk]; rfl
  replace hk := Lib.hid hk
  replace hcI := Lib.hid hcI
  replace hT3 := Lib.hid hT3
  replace hC3 := Lib.hid hC3
  replace hy := Lib.hid hy
  replace hm := Lib.hid hm
  go_wp2_with fail
  refine Reg.region_mk 10 104 [[], [true], [true, true], [true, true, true], [false, false, false, false], [false, false, false, false, true], [false, false, false, false, true, true], [true, true, true, true, true, true, true], [true, true, true, true, true, true, true, true], [false, false, false, false, false, false, false, false, false]] [0, 0, 0, 1, 0, 1, 0, 0, 1, 1]
    [.pure, .pure, .pure, .minor Unit () (fun _ => .slice (some ⟨g, 0, none⟩) L.length cap) (fun _ _ => True), .pure, .minor Unit () (fun _ => .int .i64 ((m : Int) + 1)) (fun _ _ => True), .pure, .pure, .minor Unit () (fun _ => .agg cI.toArray) (fun _ _ => True), .minor Nat 0 (fun x => .pointer (some ⟨x, 0, none⟩)) (fun x W => W.heap[x]? = some (.cells #[.int .i64 0, .int .i64 0, .int .i64 0, .int .i64 0, .int .i64 0, .int .i64 0, .int .i64 0, .int .i64 0, .int .i64 0, .int .u64 0] 52 (0, 0)) ∧ w3.heap.size ≤ x)]
    (fun W => Below w3.heap.size w3 W) (fun _ _ => True) (fun a b => Below a.heap.size a b) (by kernel_rfl) (by kernel_rfl) rfl rfl (fun vs a b h hs => trivial) ?_ ?_ ?_ ?_ ?_ ?_
  · intro a b he hb; exact hb.trans (Below.mono he hb.size)
  · intro a b he hb; exact hb.trans (Below.mono he hb.size)
  · exact ⟨trivial, trivial, trivial, ⟨fun _ _ _ _ _ => trivial, fun _ _ _ _ _ => trivial⟩, trivial, ⟨fun _ _ _ _ _ => trivial, fun _ _ _ _ _ => trivial⟩, trivial, trivial, ⟨fun _ _ _ _ _ => trivial, fun _ _ _ _ _ => trivial⟩, ⟨fun x a b he h => ⟨(Below.block he x (Put.lt_of_heap h.1)).trans h.1, h.2⟩, fun x a b he h => ⟨(Below.block he x (Put.lt_of_heap h.1)).trans h.1, h.2⟩⟩, trivial⟩
  · exact ⟨rfl, rfl, rfl, Nat.le_refl _, fun _ _ => rfl⟩
  · trivial
  dsimp only [Reg.mk, List.zip, List.zipWith, List.take]
  repeat (refine' Reg.pass_is _ (by rfl) (fun wz => ?_) ?_; rotate_left; (go_simp; first | rfl | rw [if_neg (by omega)]); simp only [Act.put, List.setIfInBounds_toArray, List.set_cons_zero, List.set_cons_succ]; (try simp only [List.nil_append]); (try simp only [List.cons_append]); (try simp only [id]))
  refine Reg.pass_minor (by rfl) (fun wz hI hF => ?_) (fun r3 => ?_)
  · unfold Reg.One
    have d0 := (hT3.out.kept hI).c0
    go_wp2_with fail
    first | exact ⟨_, rfl, rfl, Reg.Ext.refl _⟩ | exact ⟨_, rfl, ⟨(), rfl, trivial⟩, Reg.Ext.refl _⟩
  simp only [Act.put, List.setIfInBounds_toArray, List.set_cons_zero, List.set_cons_succ]; (try simp only [List.nil_append]); (try simp only [List.cons_append]); (try simp only [id])
  repeat (refine' Reg.pass_is _ (by rfl) (fun wz => ?_) ?_; rotate_left; (go_simp; first | rfl | rw [if_neg (by omega)]); simp only [Act.put, List.setIfInBounds_toArray, List.set_cons_zero, List.set_cons_succ]; (try simp only [List.nil_append]); (try simp only [List.cons_append]); (try simp only [id]))
  refine Reg.pass_minor (by rfl) (fun wz hI hF => ?_) (fun r5 => ?_)
  · unfold Reg.One
    have d0 := op_cells (hI.block _ (Put.lt_of_heap hC3.out) |>.trans hC3.out) 10 _ rfl
    rw [hid.out] at d0
    go_wp2_with fail
    first | exact ⟨_, rfl, rfl, Reg.Ext.refl _⟩ | exact ⟨_, rfl, ⟨(), rfl, trivial⟩, Reg.Ext.refl _⟩
  simp only [Act.put, List.setIfInBounds_toArray, List.set_cons_zero, List.set_cons_succ]; (try simp only [List.nil_append]); (try simp only [List.cons_append]); (try simp only [id])
  refine Reg.pass_is (.int .i64 (m : Int)) (by rfl) (fun wz => ?_) ?_
  · go_simp
    (try rw [wm])
  simp only [Act.put, List.setIfInBounds_toArray, List.set_cons_zero, List.set_cons_succ]; (try simp only [List.nil_append]); (try simp only [List.cons_append]); (try simp only [id])
  refine Reg.pass_is (.pointer (some ⟨g, m * k, none⟩)) (by rfl) (fun wz => ?_) ?_
  · go_simp
    (try rw [if_pos ⟨by omega, by omega⟩])
    (try simp)
  simp only [Act.put, List.setIfInBounds_toArray, List.set_cons_zero, List.set_cons_succ]; (try simp only [List.nil_append]); (try simp only [List.cons_append]); (try simp only [id])
  refine Reg.pass_minor (by rfl) (fun wz hI hF => ?_) (fun r8 => ?_)
  · unfold Reg.One
    have d0 := hld.out wz hI
    go_wp2_with fail
    first | exact ⟨_, rfl, rfl, Reg.Ext.refl _⟩ | exact ⟨_, rfl, ⟨(), rfl, trivial⟩, Reg.Ext.refl _⟩
  simp only [Act.put, List.setIfInBounds_toArray, List.set_cons_zero, List.set_cons_succ]; (try simp only [List.nil_append]); (try simp only [List.cons_append]); (try simp only [id])
  refine Reg.pass_minor (by rfl) (fun wz hI hF => ?_) (fun r9 => ?_)
  · unfold Reg.One
    clear zE
    go_wp2_with fail
    exact ⟨_, rfl, ⟨wz.heap.size, rfl, heap_alloc_new wz _, by have := hI.size; omega⟩, (Below.refl wz.heap.size wz).alloc (Nat.le_refl _) _⟩
  simp only [Act.put, List.setIfInBounds_toArray, List.set_cons_zero, List.set_cons_succ]; (try simp only [List.nil_append]); (try simp only [List.cons_append]); (try simp only [id])
  refine Reg.pass_end ?_
  intro w5 HI5 _ HF5
  obtain ⟨hz5, hx5⟩ := HF5.2.2.2.2.2.2.2.2.2.1
  clear HF5 r3 r5 r8
  dsimp only [List.drop]
  obtain ⟨st5, hb6, off6⟩ := put_box (x := y) (cs := [.int .i64 0, .int .i64 0, .int .i64 0, .int .i64 0, .int .i64 0, .int .i64 0, .int .i64 0, .int .i64 0, .int .i64 0, .int .u64 0]) hz5 rfl
  rw [← hcI.out] at st5 hb6 off6
  have hT5 := hT3.out.kept HI5
  have hC5 := (HI5.block _ (Put.lt_of_heap hC3.out)).trans hC3.out
  have hx0 : r9 ≠ p := fun e => by have := hT3.out.lt; omega
  have hxr : w.heap.size ≠ r9 := fun e => by have := Put.lt_of_heap hC3.out; omega
  have hwR : w.heap.size ≤ r9 := by omega
  have hxg : g ≠ r9 := fun e => by have := (hT3.out.own.lt g rfl).2; omega
  have hb5 := hb3.trans (HI5.mono hb3.size)
  obtain ⟨w6, hw6⟩ : ∃ w6, w6 = w5.setRow r9 cI.toArray := ⟨_, rfl⟩
  rw [← hw6] at st5 hb6 off6
  replace hw6 := Lib.hid hw6
  have kI : ∀ j u, (encJ y)[j]? = some u → w6.cell? ⟨r9, j, none⟩ = some u := job_cells (by rw [← hcI.out]; exact hb6)
  have k5 := kI 5 _ rfl
  have f5 : w6.frozen? ⟨r9, 5, none⟩ = false := by simp [World.frozen?, hb6]
  have hC6 := (off6.block w.heap.size (Put.lt_of_heap hC5) hxr hxr).trans hC5
  have q0 := op_cells hC6 0 _ rfl
  have hfb := Lib.hid (hb5.trans (off6.below hwR hwR hb5.size))
  clear hb5 hb3 HI5 hz5 hx5 hT5 hC5 off6 hb6 kI hC6 hld hT3 hC3
  go_wp2_with fail
  go_ret
  exact hfin.out _ _ rfl hfb.out

set_option maxRecDepth 1000000 in
set_option maxHeartbeats 4000000 in
theorem turn_plan_yes {y : Jb} (h : PV w p (.slice (some ⟨g, 0, none⟩) L.length cap) L) (o : Cl) (h0 : earlyF o = 0) (hm : m < L.length) (hid : o.id = (m : Int) + 1) (hy : L[m]! = y) (hkd : o.kind = 5) (hs : y.state = 1) : Calls Try.prog 15 #[.pointer (some ⟨p, 0, none⟩), .agg (encC o).toArray] w (TurnPost w p (.slice (some ⟨g, 0, none⟩) L.length cap) L o) := by
  have hmix := mixedO
  have zO := zE_op
  have lO := encC_len o
  obtain ⟨k14, hk14⟩ : ∃ k, k = 14 := ⟨_, rfl⟩
  rw [← hk14] at zO lO
  replace hk14 := Lib.hid hk14
  have hb1 := (Below.refl w.heap.size w).alloc (Nat.le_refl _) (.cells (encC o).toArray 38)
  have hC1 := heap_alloc_new w (.cells (encC o).toArray 38)
  have lc := op_load hC1 lO
  have hsz1 : (w.alloc (.cells (encC o).toArray 38)).heap.size = w.heap.size + 1 := by simp
  obtain ⟨w1, hw1⟩ : ∃ w1, w1 = w.alloc (.cells (encC o).toArray 38) := ⟨_, rfl⟩
  rw [← hw1] at hb1 hC1 hsz1
  have hev := early_fn o w1
  rw [h0] at hev
  have hfin := fun (W : World) (e : Ending) hr hP hq => turnPost_yes (w := w) (w' := W) (p := p) (v := .slice (some ⟨g, 0, none⟩) L.length cap) (e := e) (o := o) (y := y) h0 hm hid hy (by unfold okF; simp [hkd, hs]) hr hP hq
  have hch : chF o y = planJ o.at_ y := by unfold chF; simp [hkd]
  replace hfin := Lib.hid hfin
  have hle := own_len h.own
  have s1 : (y.2.2.2.2.2.1 != 1) = false := by rw [show y.2.2.2.2.2.1 = 1 from hs]; rfl
  clear hs
  have e3 : (o.kind == 3) = false := by rw [hkd]; rfl
  have e4 : (o.kind == 4) = false := by rw [hkd]; rfl
  have e5 : (o.kind == 5) = true := by rw [hkd]; rfl
  clear hkd
  have d1 : decide (o.id < 1) = false := decide_eq_false (by omega)
  have d2 : decide ((L.length : Int) < o.id) = false := decide_eq_false (by omega)
  clear h0
  replace h := Lib.hid h
  have b1 : (m : Int) < (L.length : Int) := by omega
  have b0 : (0 : Int) ≤ (m : Int) := by omega
  have wm : IntKind.i64.wrap (m : Int) = (m : Int) := by rw [IntKind.wrap_i64]; omega
  replace hid := Lib.hid hid
  go_enter Try.func15, Try.ntmps15
  go_wp2_with fail
  go_at_call 33
  rw [← hw1]
  replace hw1 := Lib.hid hw1
  refine hev.mono ?_
  clear hev lc
  rintro e w2 ⟨rfl, o2, rfl⟩
  have hb2 : Below w.heap.size w (w1.alloc o2) := hb1.alloc hb1.size _
  have hC2 : (w1.alloc o2).heap[w.heap.size]? = _ := (Go.heap_alloc_old w1 o2 (by omega)).trans hC1
  have hsz2 : w.heap.size + 1 ≤ (w1.alloc o2).heap.size := by simp [hsz1]
  generalize w1.alloc o2 = w2 at *
  have hT2 := h.out.kept hb2
  have g0 : ∀ n', (w2.drewN n').cell? ⟨p, 0, none⟩ = some (.slice (some ⟨g, 0, none⟩) L.length cap) := fun n' => hT2.c0
  have g2 : ∀ n', (w2.drewN n').cell? ⟨w.heap.size, 10, none⟩ = some (.int .i64 o.id) := fun n' => op_cells hC2 10 _ rfl
  clear hT2
  go_wp2_with fail
  go_quiet (fail)
  clear g0 g2
  have hb3 : Below w.heap.size w (w2.drewN nq) := ⟨hb2.os, hb2.tape, hb2.output, hb2.size, hb2.block⟩
  have hC3 : (w2.drewN nq).heap[w.heap.size]? = _ := hC2
  have hsz3 : w.heap.size + 1 ≤ (w2.drewN nq).heap.size := hsz2
  generalize w2.drewN nq = w3 at *
  clear hb2 hC2 hsz2
  have hT3 := h.out.kept hb3
  have zE := zE_job
  obtain ⟨k, hk⟩ : ∃ k, k = 10 := ⟨_, rfl⟩
  rw [← hk] at zE
  obtain ⟨cI, hcI⟩ : ∃ cI, cI = encJ y := ⟨_, rfl⟩
  have hld : Hid (∀ W, Below w3.heap.size w3 W → Sem.run Try.prog (loadCellsFrom ⟨g, m * k, none⟩ 0 k #[]) W = .ok cI.toArray W) := fun W hW => by
    have := (hT3.kept hW).row.load hk hm
    rw [Nat.zero_add, hy, ← hcI] at this
    exact this
  have lI : cI.length = k := by rw [hcI, hk]; rfl
  replace hk := Lib.hid hk
  replace hcI := Lib.hid hcI
  replace hT3 := Lib.hid hT3
  replace hC3 := Lib.hid hC3
  replace hy := Lib.hid hy
  replace hm := Lib.hid hm
  go_wp2_with fail
  refine Reg.region_mk 10 104 [[], [true], [true, true], [true, true, true], [false, false, false, false], [false, false, false, false, true], [false, false, false, false, true, true], [true, true, true, true, true, true, true], [true, true, true, true, true, true, true, true], [false, false, false, false, false, false, false, false, false]] [0, 0, 0, 1, 0, 1, 0, 0, 1, 1]
    [.pure, .pure, .pure, .minor Unit () (fun _ => .slice (some ⟨g, 0, none⟩) L.length cap) (fun _ _ => True), .pure, .minor Unit () (fun _ => .int .i64 ((m : Int) + 1)) (fun _ _ => True), .pure, .pure, .minor Unit () (fun _ => .agg cI.toArray) (fun _ _ => True), .minor Nat 0 (fun x => .pointer (some ⟨x, 0, none⟩)) (fun x W => W.heap[x]? = some (.cells #[.int .i64 0, .int .i64 0, .int .i64 0, .int .i64 0, .int .i64 0, .int .i64 0, .int .i64 0, .int .i64 0, .int .i64 0, .int .u64 0] 52 (0, 0)) ∧ w3.heap.size ≤ x)]
    (fun W => Below w3.heap.size w3 W) (fun _ _ => True) (fun a b => Below a.heap.size a b) (by kernel_rfl) (by kernel_rfl) rfl rfl (fun vs a b h hs => trivial) ?_ ?_ ?_ ?_ ?_ ?_
  · intro a b he hb; exact hb.trans (Below.mono he hb.size)
  · intro a b he hb; exact hb.trans (Below.mono he hb.size)
  · exact ⟨trivial, trivial, trivial, ⟨fun _ _ _ _ _ => trivial, fun _ _ _ _ _ => trivial⟩, trivial, ⟨fun _ _ _ _ _ => trivial, fun _ _ _ _ _ => trivial⟩, trivial, trivial, ⟨fun _ _ _ _ _ => trivial, fun _ _ _ _ _ => trivial⟩, ⟨fun x a b he h => ⟨(Below.block he x (Put.lt_of_heap h.1)).trans h.1, h.2⟩, fun x a b he h => ⟨(Below.block he x (Put.lt_of_heap h.1)).trans h.1, h.2⟩⟩, trivial⟩
  · exact ⟨rfl, rfl, rfl, Nat.le_refl _, fun _ _ => rfl⟩
  · trivial
  dsimp only [Reg.mk, List.zip, List.zipWith, List.take]
  repeat (refine' Reg.pass_is _ (by rfl) (fun wz => ?_) ?_; rotate_left; (go_simp; first | rfl | rw [if_neg (by omega)]); simp only [Act.put, List.setIfInBounds_toArray, List.set_cons_zero, List.set_cons_succ]; (try simp only [List.nil_append]); (try simp only [List.cons_append]); (try simp only [id]))
  refine Reg.pass_minor (by rfl) (fun wz hI hF => ?_) (fun r3 => ?_)
  · unfold Reg.One
    have d0 := (hT3.out.kept hI).c0
    go_wp2_with fail
    first | exact ⟨_, rfl, rfl, Reg.Ext.refl _⟩ | exact ⟨_, rfl, ⟨(), rfl, trivial⟩, Reg.Ext.refl _⟩
  simp only [Act.put, List.setIfInBounds_toArray, List.set_cons_zero, List.set_cons_succ]; (try simp only [List.nil_append]); (try simp only [List.cons_append]); (try simp only [id])
  repeat (refine' Reg.pass_is _ (by rfl) (fun wz => ?_) ?_; rotate_left; (go_simp; first | rfl | rw [if_neg (by omega)]); simp only [Act.put, List.setIfInBounds_toArray, List.set_cons_zero, List.set_cons_succ]; (try simp only [List.nil_append]); (try simp only [List.cons_append]); (try simp only [id]))
  refine Reg.pass_minor (by rfl) (fun wz hI hF => ?_) (fun r5 => ?_)
  · unfold Reg.One
    have d0 := op_cells (hI.block _ (Put.lt_of_heap hC3.out) |>.trans hC3.out) 10 _ rfl
    rw [hid.out] at d0
    go_wp2_with fail
    first | exact ⟨_, rfl, rfl, Reg.Ext.refl _⟩ | exact ⟨_, rfl, ⟨(), rfl, trivial⟩, Reg.Ext.refl _⟩
  simp only [Act.put, List.setIfInBounds_toArray, List.set_cons_zero, List.set_cons_succ]; (try simp only [List.nil_append]); (try simp only [List.cons_append]); (try simp only [id])
  refine Reg.pass_is (.int .i64 (m : Int)) (by rfl) (fun wz => ?_) ?_
  · go_simp
    (try rw [wm])
  simp only [Act.put, List.setIfInBounds_toArray, List.set_cons_zero, List.set_cons_succ]; (try simp only [List.nil_append]); (try simp only [List.cons_append]); (try simp only [id])
  refine Reg.pass_is (.pointer (some ⟨g, m * k, none⟩)) (by rfl) (fun wz => ?_) ?_
  · go_simp
    (try rw [if_pos ⟨by omega, by omega⟩])
    (try simp)
  simp only [Act.put, List.setIfInBounds_toArray, List.set_cons_zero, List.set_cons_succ]; (try simp only [List.nil_append]); (try simp only [List.cons_append]); (try simp only [id])
  refine Reg.pass_minor (by rfl) (fun wz hI hF => ?_) (fun r8 => ?_)
  · unfold Reg.One
    have d0 := hld.out wz hI
    go_wp2_with fail
    first | exact ⟨_, rfl, rfl, Reg.Ext.refl _⟩ | exact ⟨_, rfl, ⟨(), rfl, trivial⟩, Reg.Ext.refl _⟩
  simp only [Act.put, List.setIfInBounds_toArray, List.set_cons_zero, List.set_cons_succ]; (try simp only [List.nil_append]); (try simp only [List.cons_append]); (try simp only [id])
  refine Reg.pass_minor (by rfl) (fun wz hI hF => ?_) (fun r9 => ?_)
  · unfold Reg.One
    clear zE
    go_wp2_with fail
    exact ⟨_, rfl, ⟨wz.heap.size, rfl, heap_alloc_new wz _, by have := hI.size; omega⟩, (Below.refl wz.heap.size wz).alloc (Nat.le_refl _) _⟩
  simp only [Act.put, List.setIfInBounds_toArray, List.set_cons_zero, List.set_cons_succ]; (try simp only [List.nil_append]); (try simp only [List.cons_append]); (try simp only [id])
  refine Reg.pass_end ?_
  intro w5 HI5 _ HF5
  obtain ⟨hz5, hx5⟩ := HF5.2.2.2.2.2.2.2.2.2.1
  clear HF5 r3 r5 r8
  dsimp only [List.drop]
  obtain ⟨st5, hb6, off6⟩ := put_box (x := y) (cs := [.int .i64 0, .int .i64 0, .int .i64 0, .int .i64 0, .int .i64 0, .int .i64 0, .int .i64 0, .int .i64 0, .int .i64 0, .int .u64 0]) hz5 rfl
  rw [← hcI.out] at st5 hb6 off6
  have hT5 := hT3.out.kept HI5
  have hC5 := (HI5.block _ (Put.lt_of_heap hC3.out)).trans hC3.out
  have hx0 : r9 ≠ p := fun e => by have := hT3.out.lt; omega
  have hxr : w.heap.size ≠ r9 := fun e => by have := Put.lt_of_heap hC3.out; omega
  have hwR : w.heap.size ≤ r9 := by omega
  have hxg : g ≠ r9 := fun e => by have := (hT3.out.own.lt g rfl).2; omega
  have hb5 := hb3.trans (HI5.mono hb3.size)
  obtain ⟨w6, hw6⟩ : ∃ w6, w6 = w5.setRow r9 cI.toArray := ⟨_, rfl⟩
  rw [← hw6] at st5 hb6 off6
  replace hw6 := Lib.hid hw6
  have kI : ∀ j u, (encJ y)[j]? = some u → w6.cell? ⟨r9, j, none⟩ = some u := job_cells (by rw [← hcI.out]; exact hb6)
  have k5 := kI 5 _ rfl
  have f5 : w6.frozen? ⟨r9, 5, none⟩ = false := by simp [World.frozen?, hb6]
  have k8 := kI 8 _ rfl
  have f8 : w6.frozen? ⟨r9, 8, none⟩ = false := by simp [World.frozen?, hb6]
  have hC6 := (off6.block w.heap.size (Put.lt_of_heap hC5) hxr hxr).trans hC5
  have q0 := op_cells hC6 0 _ rfl
  have q3 := op_cells hC6 11 _ rfl
  have hT6 : PV w6 p (.slice (some ⟨g, 0, none⟩) L.length cap) L := ⟨(off6.block p hT5.lt hx0.symm hx0.symm).trans hT5.cell, off6.own hT5.own fun k hk => by
    have : g = k := by simpa [Value.ownBlock] using hk
    subst this
    exact ⟨hxg, hxg⟩⟩
  obtain ⟨sb0, so0⟩ := set_box (j := 8) (u := .int .i64 o.at_) hb6
  have offB := ((Off.refl r9 r9 w6).trans so0 (.inl rfl))
  obtain ⟨wB, hwB⟩ : ∃ wB, wB = (w6.setCell ⟨r9, 8, none⟩ (.int .i64 o.at_)) := ⟨_, rfl⟩
  obtain ⟨cX, hcX⟩ : ∃ cX, cX = (cI.set 8 (.int .i64 o.at_)) := ⟨_, rfl⟩
  have hXB := sb0
  rw [← hwB] at hXB offB
  rw [← hcX] at hXB
  have eX : cX = encJ (chF o y) := by rw [hcX, hcI.out, hch]; rfl
  have lX : cX.length = k := by rw [eX, hk.out]; rfl
  have hTB : PV wB p (.slice (some ⟨g, 0, none⟩) L.length cap) L := ⟨(offB.block p hT6.lt hx0.symm hx0.symm).trans hT6.cell, offB.own hT6.own fun k hk => by
    have : g = k := by simpa [Value.ownBlock] using hk
    subst this
    exact ⟨hxg, hxg⟩⟩
  have hCB := (offB.block w.heap.size (Put.lt_of_heap hC6) hxr hxr).trans hC6
  have hbB : Below w.heap.size w wB := (hb5.trans (off6.below hwR hwR hb5.size)).trans (offB.below hwR hwR (Nat.le_trans hb5.size off6.size))
  clear offB sb0 so0 hT6 hC6 hT5 hC5 off6 hb6 kI hz5 hx5 HI5 hb3 hb5 hT3 hC3 hld hch
  replace hTB := Lib.hid hTB
  replace hCB := Lib.hid hCB
  replace hXB := Lib.hid hXB
  replace hbB := Lib.hid hbB
  replace eX := Lib.hid eX
  replace hcX := Lib.hid hcX
  replace hwB := Lib.hid hwB
  go_wp2_with fail
  rw [← hwB.out]
  refine Reg.region_mk 8 104 [[], [true], [true, true], [true, true, true], [false, false, false, false], [false, false, false, false, true], [false, false, false, false, true, true], [false, false, false, false, false, false, false]] [0, 0, 0, 1, 0, 1, 0, 1]
    [.pure, .pure, .pure, .minor Unit () (fun _ => .slice (some ⟨g, 0, none⟩) L.length cap) (fun _ _ => True), .pure, .minor Unit () (fun _ => .int .i64 ((m : Int) + 1)) (fun _ _ => True), .pure, .minor Unit () (fun _ => .agg cX.toArray) (fun _ _ => True)]
    (fun W => Below wB.heap.size wB W) (fun _ _ => True) (fun a b => Below a.heap.size a b) (by kernel_rfl) (by kernel_rfl) rfl rfl (fun vs a b h hs => trivial) ?_ ?_ ?_ ?_ ?_ ?_
  · intro a b he hb; exact hb.trans (Below.mono he hb.size)
  · intro a b he hb; exact hb.trans (Below.mono he hb.size)
  · exact ⟨trivial, trivial, trivial, ⟨fun _ _ _ _ _ => trivial, fun _ _ _ _ _ => trivial⟩, trivial, ⟨fun _ _ _ _ _ => trivial, fun _ _ _ _ _ => trivial⟩, trivial, ⟨fun _ _ _ _ _ => trivial, fun _ _ _ _ _ => trivial⟩, trivial⟩
  · exact ⟨rfl, rfl, rfl, Nat.le_refl _, fun _ _ => rfl⟩
  · trivial
  dsimp only [Reg.mk, List.zip, List.zipWith, List.take]
  repeat (refine' Reg.pass_is _ (by rfl) (fun wz => ?_) ?_; rotate_left; (go_simp; first | rfl | rw [if_neg (by omega)]); simp only [Act.put, List.setIfInBounds_toArray, List.set_cons_zero, List.set_cons_succ]; (try simp only [List.nil_append]); (try simp only [List.cons_append]); (try simp only [id]))
  refine Reg.pass_minor (by rfl) (fun wz hI hF => ?_) (fun s3 => ?_)
  · unfold Reg.One
    have d0 := (hTB.out.kept hI).c0
    go_wp2_with fail
    first | exact ⟨_, rfl, rfl, Reg.Ext.refl _⟩ | exact ⟨_, rfl, ⟨(), rfl, trivial⟩, Reg.Ext.refl _⟩
  simp only [Act.put, List.setIfInBounds_toArray, List.set_cons_zero, List.set_cons_succ]; (try simp only [List.nil_append]); (try simp only [List.cons_append]); (try simp only [id])
  repeat (refine' Reg.pass_is _ (by rfl) (fun wz => ?_) ?_; rotate_left; (go_simp; first | rfl | rw [if_neg (by omega)]); simp only [Act.put, List.setIfInBounds_toArray, List.set_cons_zero, List.set_cons_succ]; (try simp only [List.nil_append]); (try simp only [List.cons_append]); (try simp only [id]))
  refine Reg.pass_minor (by rfl) (fun wz hI hF => ?_) (fun s5 => ?_)
  · unfold Reg.One
    have d0 := op_cells (hI.block _ (Put.lt_of_heap hCB.out) |>.trans hCB.out) 10 _ rfl
    rw [hid.out] at d0
    go_wp2_with fail
    first | exact ⟨_, rfl, rfl, Reg.Ext.refl _⟩ | exact ⟨_, rfl, ⟨(), rfl, trivial⟩, Reg.Ext.refl _⟩
  simp only [Act.put, List.setIfInBounds_toArray, List.set_cons_zero, List.set_cons_succ]; (try simp only [List.nil_append]); (try simp only [List.cons_append]); (try simp only [id])
  refine Reg.pass_is (.int .i64 (m : Int)) (by rfl) (fun wz => ?_) ?_
  · go_simp
    (try rw [wm])
  simp only [Act.put, List.setIfInBounds_toArray, List.set_cons_zero, List.set_cons_succ]; (try simp only [List.nil_append]); (try simp only [List.cons_append]); (try simp only [id])
  refine Reg.pass_minor (by rfl) (fun wz hI hF => ?_) (fun s7 => ?_)
  · unfold Reg.One
    have d0 := load_box ((hI.block _ (Put.lt_of_heap hXB.out)).trans hXB.out) lX
    go_wp2_with fail
    first | exact ⟨_, rfl, rfl, Reg.Ext.refl _⟩ | exact ⟨_, rfl, ⟨(), rfl, trivial⟩, Reg.Ext.refl _⟩
  simp only [Act.put, List.setIfInBounds_toArray, List.set_cons_zero, List.set_cons_succ]; (try simp only [List.nil_append]); (try simp only [List.cons_append]); (try simp only [id])
  refine Reg.pass_end ?_
  intro w7 HI7 _ HF7
  clear HF7 s3 s5 s7
  dsimp only [List.drop]
  have hT7 := hTB.out.kept HI7
  obtain ⟨w8, st8, hT8, off8⟩ := put_at hT7 hm.out (chF o y)
  rw [← eX.out] at st8
  rw [← hk.out] at st8
  have hq8 : QOff p (some g) w w8 := (QOff.of_below (hbB.out.trans (HI7.mono hbB.out.size))).trans off8 (NewO.refl _ _)
  replace hT8 := Lib.hid hT8
  replace hq8 := Lib.hid hq8
  clear hT7 off8 HI7
  go_wp2_with fail
  go_ret
  exact hfin.out _ _ rfl hT8.out hq8.out

set_option maxRecDepth 1000000 in
set_option maxHeartbeats 4000000 in
theorem turn_begin6_no {y : Jb} (h : PV w p (.slice (some ⟨g, 0, none⟩) L.length cap) L) (o : Cl) (h0 : earlyF o = 0) (hm : m < L.length) (hid : o.id = (m : Int) + 1) (hy : L[m]! = y) (hkd : o.kind = 6) (hs : y.state ≠ 1) : Calls Try.prog 15 #[.pointer (some ⟨p, 0, none⟩), .agg (encC o).toArray] w (TurnPost w p (.slice (some ⟨g, 0, none⟩) L.length cap) L o) := by
  have hmix := mixedO
  have zO := zE_op
  have lO := encC_len o
  obtain ⟨k14, hk14⟩ : ∃ k, k = 14 := ⟨_, rfl⟩
  rw [← hk14] at zO lO
  replace hk14 := Lib.hid hk14
  have hb1 := (Below.refl w.heap.size w).alloc (Nat.le_refl _) (.cells (encC o).toArray 38)
  have hC1 := heap_alloc_new w (.cells (encC o).toArray 38)
  have lc := op_load hC1 lO
  have hsz1 : (w.alloc (.cells (encC o).toArray 38)).heap.size = w.heap.size + 1 := by simp
  obtain ⟨w1, hw1⟩ : ∃ w1, w1 = w.alloc (.cells (encC o).toArray 38) := ⟨_, rfl⟩
  rw [← hw1] at hb1 hC1 hsz1
  have hev := early_fn o w1
  rw [h0] at hev
  have he : stepE L (earlyF o) o.id (okF o) = 8 := by
    unfold stepE
    rw [if_neg (by omega), if_neg (by omega), if_neg (by omega), show (o.id - 1).toNat = m from by omega, hy, if_neg (by unfold okF; simp [hkd, hs])]
  have hfin := fun (W : World) (e : Ending) hr hb => turnPost_no (w' := W) (e := e) h he (by decide) hr hb
  clear he
  replace hfin := Lib.hid hfin
  have hle := own_len h.own
  have s1 : (y.2.2.2.2.2.1 != 1) = true := bne_iff_ne.2 hs
  clear hs
  have e3 : (o.kind == 3) = false := by rw [hkd]; rfl
  have e4 : (o.kind == 4) = false := by rw [hkd]; rfl
  have e5 : (o.kind == 5) = false := by rw [hkd]; rfl
  have e6 : (o.kind == 6) = true := by rw [hkd]; rfl
  clear hkd
  have d1 : decide (o.id < 1) = false := decide_eq_false (by omega)
  have d2 : decide ((L.length : Int) < o.id) = false := decide_eq_false (by omega)
  clear h0
  replace h := Lib.hid h
  have b1 : (m : Int) < (L.length : Int) := by omega
  have b0 : (0 : Int) ≤ (m : Int) := by omega
  have wm : IntKind.i64.wrap (m : Int) = (m : Int) := by rw [IntKind.wrap_i64]; omega
  replace hid := Lib.hid hid
  go_enter Try.func15, Try.ntmps15
  go_wp2_with fail
  go_at_call 33
  rw [← hw1]
  replace hw1 := Lib.hid hw1
  refine hev.mono ?_
  clear hev lc
  rintro e w2 ⟨rfl, o2, rfl⟩
  have hb2 : Below w.heap.size w (w1.alloc o2) := hb1.alloc hb1.size _
  have hC2 : (w1.alloc o2).heap[w.heap.size]? = _ := (Go.heap_alloc_old w1 o2 (by omega)).trans hC1
  have hsz2 : w.heap.size + 1 ≤ (w1.alloc o2).heap.size := by simp [hsz1]
  generalize w1.alloc o2 = w2 at *
  have hT2 := h.out.kept hb2
  have g0 : ∀ n', (w2.drewN n').cell? ⟨p, 0, none⟩ = some (.slice (some ⟨g, 0, none⟩) L.length cap) := fun n' => hT2.c0
  have g2 : ∀ n', (w2.drewN n').cell? ⟨w.heap.size, 10, none⟩ = some (.int .i64 o.id) := fun n' => op_cells hC2 10 _ rfl
  clear hT2
  go_wp2_with fail
  go_quiet (fail)
  clear g0 g2
  have hb3 : Below w.heap.size w (w2.drewN nq) := ⟨hb2.os, hb2.tape, hb2.output, hb2.size, hb2.block⟩
  have hC3 : (w2.drewN nq).heap[w.heap.size]? = _ := hC2
  have hsz3 : w.heap.size + 1 ≤ (w2.drewN nq).heap.size := hsz2
  generalize w2.drewN nq = w3 at *
  clear hb2 hC2 hsz2
  have hT3 := h.out.kept hb3
  have zE := zE_job
  obtain ⟨k, hk⟩ : ∃ k, k = 10 := ⟨_, rfl⟩
  rw [← hk] at zE
  obtain ⟨cI, hcI⟩ : ∃ cI, cI = encJ y := ⟨_, rfl⟩
  have hld : Hid (∀ W, Below w3.heap.size w3 W → Sem.run Try.prog (loadCellsFrom ⟨g, m * k, none⟩ 0 k #[]) W = .ok cI.toArray W) := fun W hW => by
    have := (hT3.kept hW).row.load hk hm
    rw [Nat.zero_add, hy, ← hcI] at this
    exact this
  have lI : cI.length = k := by rw [hcI, hk]; rfl
  replace hk := Lib.hid hk
  replace hcI := Lib.hid hcI
  replace hT3 := Lib.hid hT3
  replace hC3 := Lib.hid hC3
  replace hy := Lib.hid hy
  replace hm := Lib.hid hm
  go_wp2_with fail
  refine Reg.region_mk 10 104 [[], [true], [true, true], [true, true, true], [false, false, false, false], [false, false, false, false, true], [false, false, false, false, true, true], [true, true, true, true, true, true, true], [true, true, true, true, true, true, true, true], [false, false, false, false, false, false, false, false, false]] [0, 0, 0, 1, 0, 1, 0, 0, 1, 1]
    [.pure, .pure, .pure, .minor Unit () (fun _ => .slice (some ⟨g, 0, none⟩) L.length cap) (fun _ _ => True), .pure, .minor Unit () (fun _ => .int .i64 ((m : Int) + 1)) (fun _ _ => True), .pure, .pure, .minor Unit () (fun _ => .agg cI.toArray) (fun _ _ => True), .minor Nat 0 (fun x => .pointer (some ⟨x, 0, none⟩)) (fun x W => W.heap[x]? = some (.cells #[.int .i64 0, .int .i64 0, .int .i64 0, .int .i64 0, .int .i64 0, .int .i64 0, .int .i64 0, .int .i64 0, .int .i64 0, .int .u64 0] 52 (0, 0)) ∧ w3.heap.size ≤ x)]
    (fun W => Below w3.heap.size w3 W) (fun _ _ => True) (fun a b => Below a.heap.size a b) (by kernel_rfl) (by kernel_rfl) rfl rfl (fun vs a b h hs => trivial) ?_ ?_ ?_ ?_ ?_ ?_
  · intro a b he hb; exact hb.trans (Below.mono he hb.size)
  · intro a b he hb; exact hb.trans (Below.mono he hb.size)
  · exact ⟨trivial, trivial, trivial, ⟨fun _ _ _ _ _ => trivial, fun _ _ _ _ _ => trivial⟩, trivial, ⟨fun _ _ _ _ _ => trivial, fun _ _ _ _ _ => trivial⟩, trivial, trivial, ⟨fun _ _ _ _ _ => trivial, fun _ _ _ _ _ => trivial⟩, ⟨fun x a b he h => ⟨(Below.block he x (Put.lt_of_heap h.1)).trans h.1, h.2⟩, fun x a b he h => ⟨(Below.block he x (Put.lt_of_heap h.1)).trans h.1, h.2⟩⟩, trivial⟩
  · exact ⟨rfl, rfl, rfl, Nat.le_refl _, fun _ _ => rfl⟩
  · trivial
  dsimp only [Reg.mk, List.zip, List.zipWith, List.take]
  repeat (refine' Reg.pass_is _ (by rfl) (fun wz => ?_) ?_; rotate_left; (go_simp; first | rfl | rw [if_neg (by omega)]); simp only [Act.put, List.setIfInBounds_toArray, List.set_cons_zero, List.set_cons_succ]; (try simp only [List.nil_append]); (try simp only [List.cons_append]); (try simp only [id]))
  refine Reg.pass_minor (by rfl) (fun wz hI hF => ?_) (fun r3 => ?_)
  · unfold Reg.One
    have d0 := (hT3.out.kept hI).c0
    go_wp2_with fail
    first | exact ⟨_, rfl, rfl, Reg.Ext.refl _⟩ | exact ⟨_, rfl, ⟨(), rfl, trivial⟩, Reg.Ext.refl _⟩
  simp only [Act.put, List.setIfInBounds_toArray, List.set_cons_zero, List.set_cons_succ]; (try simp only [List.nil_append]); (try simp only [List.cons_append]); (try simp only [id])
  repeat (refine' Reg.pass_is _ (by rfl) (fun wz => ?_) ?_; rotate_left; (go_simp; first | rfl | rw [if_neg (by omega)]); simp only [Act.put, List.setIfInBounds_toArray, List.set_cons_zero, List.set_cons_succ]; (try simp only [List.nil_append]); (try simp only [List.cons_append]); (try simp only [id]))
  refine Reg.pass_minor (by rfl) (fun wz hI hF => ?_) (fun r5 => ?_)
  · unfold Reg.One
    have d0 := op_cells (hI.block _ (Put.lt_of_heap hC3.out) |>.trans hC3.out) 10 _ rfl
    rw [hid.out] at d0
    go_wp2_with fail
    first | exact ⟨_, rfl, rfl, Reg.Ext.refl _⟩ | exact ⟨_, rfl, ⟨(), rfl, trivial⟩, Reg.Ext.refl _⟩
  simp only [Act.put, List.setIfInBounds_toArray, List.set_cons_zero, List.set_cons_succ]; (try simp only [List.nil_append]); (try simp only [List.cons_append]); (try simp only [id])
  refine Reg.pass_is (.int .i64 (m : Int)) (by rfl) (fun wz => ?_) ?_
  · go_simp
    (try rw [wm])
  simp only [Act.put, List.setIfInBounds_toArray, List.set_cons_zero, List.set_cons_succ]; (try simp only [List.nil_append]); (try simp only [List.cons_append]); (try simp only [id])
  refine Reg.pass_is (.pointer (some ⟨g, m * k, none⟩)) (by rfl) (fun wz => ?_) ?_
  · go_simp
    (try rw [if_pos ⟨by omega, by omega⟩])
    (try simp)
  simp only [Act.put, List.setIfInBounds_toArray, List.set_cons_zero, List.set_cons_succ]; (try simp only [List.nil_append]); (try simp only [List.cons_append]); (try simp only [id])
  refine Reg.pass_minor (by rfl) (fun wz hI hF => ?_) (fun r8 => ?_)
  · unfold Reg.One
    have d0 := hld.out wz hI
    go_wp2_with fail
    first | exact ⟨_, rfl, rfl, Reg.Ext.refl _⟩ | exact ⟨_, rfl, ⟨(), rfl, trivial⟩, Reg.Ext.refl _⟩
  simp only [Act.put, List.setIfInBounds_toArray, List.set_cons_zero, List.set_cons_succ]; (try simp only [List.nil_append]); (try simp only [List.cons_append]); (try simp only [id])
  refine Reg.pass_minor (by rfl) (fun wz hI hF => ?_) (fun r9 => ?_)
  · unfold Reg.One
    clear zE
    go_wp2_with fail
    exact ⟨_, rfl, ⟨wz.heap.size, rfl, heap_alloc_new wz _, by have := hI.size; omega⟩, (Below.refl wz.heap.size wz).alloc (Nat.le_refl _) _⟩
  simp only [Act.put, List.setIfInBounds_toArray, List.set_cons_zero, List.set_cons_succ]; (try simp only [List.nil_append]); (try simp only [List.cons_append]); (try simp only [id])
  refine Reg.pass_end ?_
  intro w5 HI5 _ HF5
  obtain ⟨hz5, hx5⟩ := HF5.2.2.2.2.2.2.2.2.2.1
  clear HF5 r3 r5 r8
  dsimp only [List.drop]
  obtain ⟨st5, hb6, off6⟩ := put_box (x := y) (cs := [.int .i64 0, .int .i64 0, .int .i64 0, .int .i64 0, .int .i64 0, .int .i64 0, .int .i64 0, .int .i64 0, .int .i64 0, .int .u64 0]) hz5 rfl
  rw [← hcI.out] at st5 hb6 off6
  have hT5 := hT3.out.kept HI5
  have hC5 := (HI5.block _ (Put.lt_of_heap hC3.out)).trans hC3.out
  have hx0 : r9 ≠ p := fun e => by have := hT3.out.lt; omega
  have hxr : w.heap.size ≠ r9 := fun e => by have := Put.lt_of_heap hC3.out; omega
  have hwR : w.heap.size ≤ r9 := by omega
  have hxg : g ≠ r9 := fun e => by have := (hT3.out.own.lt g rfl).2; omega
  have hb5 := hb3.trans (HI5.mono hb3.size)
  obtain ⟨w6, hw6⟩ : ∃ w6, w6 = w5.setRow r9 cI.toArray := ⟨_, rfl⟩
  rw [← hw6] at st5 hb6 off6
  replace hw6 := Lib.hid hw6
  have kI : ∀ j u, (encJ y)[j]? = some u → w6.cell? ⟨r9, j, none⟩ = some u := job_cells (by rw [← hcI.out]; exact hb6)
  have k3 := kI 3 _ rfl
  have f3 : w6.frozen? ⟨r9, 3, none⟩ = false := by simp [World.frozen?, hb6]
  have k5 := kI 5 _ rfl
  have f5 : w6.frozen? ⟨r9, 5, none⟩ = false := by simp [World.frozen?, hb6]
  have hC6 := (off6.block w.heap.size (Put.lt_of_heap hC5) hxr hxr).trans hC5
  have q0 := op_cells hC6 0 _ rfl
  have q3 := op_cells hC6 11 _ rfl
  have q5 := op_cells hC6 13 _ rfl
  have hfb := Lib.hid (hb5.trans (off6.below hwR hwR hb5.size))
  clear hb5 hb3 HI5 hz5 hx5 hT5 hC5 off6 hb6 kI hC6 hld hT3 hC3
  go_wp2_with fail
  go_ret
  exact hfin.out _ _ rfl hfb.out

set_option maxRecDepth 1000000 in
set_option maxHeartbeats 4000000 in
theorem turn_begin6_yes {y : Jb} (h : PV w p (.slice (some ⟨g, 0, none⟩) L.length cap) L) (o : Cl) (h0 : earlyF o = 0) (hm : m < L.length) (hid : o.id = (m : Int) + 1) (hy : L[m]! = y) (hkd : o.kind = 6) (hs : y.state = 1) (hlim : 1 ≤ y.limit ∧ y.limit ≤ 1048576) (hat : 0 ≤ o.at_ ∧ o.at_ ≤ 1099511627776) : Calls Try.prog 15 #[.pointer (some ⟨p, 0, none⟩), .agg (encC o).toArray] w (TurnPost w p (.slice (some ⟨g, 0, none⟩) L.length cap) L o) := by
  have hmix := mixedO
  have zO := zE_op
  have lO := encC_len o
  obtain ⟨k14, hk14⟩ : ∃ k, k = 14 := ⟨_, rfl⟩
  rw [← hk14] at zO lO
  replace hk14 := Lib.hid hk14
  have hb1 := (Below.refl w.heap.size w).alloc (Nat.le_refl _) (.cells (encC o).toArray 38)
  have hC1 := heap_alloc_new w (.cells (encC o).toArray 38)
  have lc := op_load hC1 lO
  have hsz1 : (w.alloc (.cells (encC o).toArray 38)).heap.size = w.heap.size + 1 := by simp
  obtain ⟨w1, hw1⟩ : ∃ w1, w1 = w.alloc (.cells (encC o).toArray 38) := ⟨_, rfl⟩
  rw [← hw1] at hb1 hC1 hsz1
  have hev := early_fn o w1
  rw [h0] at hev
  have hfin := fun (W : World) (e : Ending) hr hP hq => turnPost_yes (w := w) (w' := W) (p := p) (v := .slice (some ⟨g, 0, none⟩) L.length cap) (e := e) (o := o) (y := y) h0 hm hid hy (by unfold okF; simp [hkd, hs]) hr hP hq
  have hch : chF o y = beginJ o.at_ o.nodes y := by unfold chF; simp [hkd]
  replace hfin := Lib.hid hfin
  have hle := own_len h.own
  have s1 : (y.2.2.2.2.2.1 != 1) = false := by rw [show y.2.2.2.2.2.1 = 1 from hs]; rfl
  clear hs
  have e3 : (o.kind == 3) = false := by rw [hkd]; rfl
  have e4 : (o.kind == 4) = false := by rw [hkd]; rfl
  have e5 : (o.kind == 5) = false := by rw [hkd]; rfl
  have e6 : (o.kind == 6) = true := by rw [hkd]; rfl
  clear hkd
  have wl : IntKind.i64.wrap (o.at_ + y.2.2.2.1) = o.at_ + y.2.2.2.1 := by (have : y.limit = y.2.2.2.1 := rfl); rw [IntKind.wrap_i64]; omega
  clear hlim hat
  have d1 : decide (o.id < 1) = false := decide_eq_false (by omega)
  have d2 : decide ((L.length : Int) < o.id) = false := decide_eq_false (by omega)
  clear h0
  replace h := Lib.hid h
  have b1 : (m : Int) < (L.length : Int) := by omega
  have b0 : (0 : Int) ≤ (m : Int) := by omega
  have wm : IntKind.i64.wrap (m : Int) = (m : Int) := by rw [IntKind.wrap_i64]; omega
  replace hid := Lib.hid hid
  go_enter Try.func15, Try.ntmps15
  go_wp2_with fail
  go_at_call 33
  rw [← hw1]
  replace hw1 := Lib.hid hw1
  refine hev.mono ?_
  clear hev lc
  rintro e w2 ⟨rfl, o2, rfl⟩
  have hb2 : Below w.heap.size w (w1.alloc o2) := hb1.alloc hb1.size _
  have hC2 : (w1.alloc o2).heap[w.heap.size]? = _ := (Go.heap_alloc_old w1 o2 (by omega)).trans hC1
  have hsz2 : w.heap.size + 1 ≤ (w1.alloc o2).heap.size := by simp [hsz1]
  generalize w1.alloc o2 = w2 at *
  have hT2 := h.out.kept hb2
  have g0 : ∀ n', (w2.drewN n').cell? ⟨p, 0, none⟩ = some (.slice (some ⟨g, 0, none⟩) L.length cap) := fun n' => hT2.c0
  have g2 : ∀ n', (w2.drewN n').cell? ⟨w.heap.size, 10, none⟩ = some (.int .i64 o.id) := fun n' => op_cells hC2 10 _ rfl
  clear hT2
  go_wp2_with fail
  go_quiet (fail)
  clear g0 g2
  have hb3 : Below w.heap.size w (w2.drewN nq) := ⟨hb2.os, hb2.tape, hb2.output, hb2.size, hb2.block⟩
  have hC3 : (w2.drewN nq).heap[w.heap.size]? = _ := hC2
  have hsz3 : w.heap.size + 1 ≤ (w2.drewN nq).heap.size := hsz2
  generalize w2.drewN nq = w3 at *
  clear hb2 hC2 hsz2
  have hT3 := h.out.kept hb3
  have zE := zE_job
  obtain ⟨k, hk⟩ : ∃ k, k = 10 := ⟨_, rfl⟩
  rw [← hk] at zE
  obtain ⟨cI, hcI⟩ : ∃ cI, cI = encJ y := ⟨_, rfl⟩
  have hld : Hid (∀ W, Below w3.heap.size w3 W → Sem.run Try.prog (loadCellsFrom ⟨g, m * k, none⟩ 0 k #[]) W = .ok cI.toArray W) := fun W hW => by
    have := (hT3.kept hW).row.load hk hm
    rw [Nat.zero_add, hy, ← hcI] at this
    exact this
  have lI : cI.length = k := by rw [hcI, hk]; rfl
  replace hk := Lib.hid hk
  replace hcI := Lib.hid hcI
  replace hT3 := Lib.hid hT3
  replace hC3 := Lib.hid hC3
  replace hy := Lib.hid hy
  replace hm := Lib.hid hm
  go_wp2_with fail
  refine Reg.region_mk 10 104 [[], [true], [true, true], [true, true, true], [false, false, false, false], [false, false, false, false, true], [false, false, false, false, true, true], [true, true, true, true, true, true, true], [true, true, true, true, true, true, true, true], [false, false, false, false, false, false, false, false, false]] [0, 0, 0, 1, 0, 1, 0, 0, 1, 1]
    [.pure, .pure, .pure, .minor Unit () (fun _ => .slice (some ⟨g, 0, none⟩) L.length cap) (fun _ _ => True), .pure, .minor Unit () (fun _ => .int .i64 ((m : Int) + 1)) (fun _ _ => True), .pure, .pure, .minor Unit () (fun _ => .agg cI.toArray) (fun _ _ => True), .minor Nat 0 (fun x => .pointer (some ⟨x, 0, none⟩)) (fun x W => W.heap[x]? = some (.cells #[.int .i64 0, .int .i64 0, .int .i64 0, .int .i64 0, .int .i64 0, .int .i64 0, .int .i64 0, .int .i64 0, .int .i64 0, .int .u64 0] 52 (0, 0)) ∧ w3.heap.size ≤ x)]
    (fun W => Below w3.heap.size w3 W) (fun _ _ => True) (fun a b => Below a.heap.size a b) (by kernel_rfl) (by kernel_rfl) rfl rfl (fun vs a b h hs => trivial) ?_ ?_ ?_ ?_ ?_ ?_
  · intro a b he hb; exact hb.trans (Below.mono he hb.size)
  · intro a b he hb; exact hb.trans (Below.mono he hb.size)
  · exact ⟨trivial, trivial, trivial, ⟨fun _ _ _ _ _ => trivial, fun _ _ _ _ _ => trivial⟩, trivial, ⟨fun _ _ _ _ _ => trivial, fun _ _ _ _ _ => trivial⟩, trivial, trivial, ⟨fun _ _ _ _ _ => trivial, fun _ _ _ _ _ => trivial⟩, ⟨fun x a b he h => ⟨(Below.block he x (Put.lt_of_heap h.1)).trans h.1, h.2⟩, fun x a b he h => ⟨(Below.block he x (Put.lt_of_heap h.1)).trans h.1, h.2⟩⟩, trivial⟩
  · exact ⟨rfl, rfl, rfl, Nat.le_refl _, fun _ _ => rfl⟩
  · trivial
  dsimp only [Reg.mk, List.zip, List.zipWith, List.take]
  repeat (refine' Reg.pass_is _ (by rfl) (fun wz => ?_) ?_; rotate_left; (go_simp; first | rfl | rw [if_neg (by omega)]); simp only [Act.put, List.setIfInBounds_toArray, List.set_cons_zero, List.set_cons_succ]; (try simp only [List.nil_append]); (try simp only [List.cons_append]); (try simp only [id]))
  refine Reg.pass_minor (by rfl) (fun wz hI hF => ?_) (fun r3 => ?_)
  · unfold Reg.One
    have d0 := (hT3.out.kept hI).c0
    go_wp2_with fail
    first | exact ⟨_, rfl, rfl, Reg.Ext.refl _⟩ | exact ⟨_, rfl, ⟨(), rfl, trivial⟩, Reg.Ext.refl _⟩
  simp only [Act.put, List.setIfInBounds_toArray, List.set_cons_zero, List.set_cons_succ]; (try simp only [List.nil_append]); (try simp only [List.cons_append]); (try simp only [id])
  repeat (refine' Reg.pass_is _ (by rfl) (fun wz => ?_) ?_; rotate_left; (go_simp; first | rfl | rw [if_neg (by omega)]); simp only [Act.put, List.setIfInBounds_toArray, List.set_cons_zero, List.set_cons_succ]; (try simp only [List.nil_append]); (try simp only [List.cons_append]); (try simp only [id]))
  refine Reg.pass_minor (by rfl) (fun wz hI hF => ?_) (fun r5 => ?_)
  · unfold Reg.One
    have d0 := op_cells (hI.block _ (Put.lt_of_heap hC3.out) |>.trans hC3.out) 10 _ rfl
    rw [hid.out] at d0
    go_wp2_with fail
    first | exact ⟨_, rfl, rfl, Reg.Ext.refl _⟩ | exact ⟨_, rfl, ⟨(), rfl, trivial⟩, Reg.Ext.refl _⟩
  simp only [Act.put, List.setIfInBounds_toArray, List.set_cons_zero, List.set_cons_succ]; (try simp only [List.nil_append]); (try simp only [List.cons_append]); (try simp only [id])
  refine Reg.pass_is (.int .i64 (m : Int)) (by rfl) (fun wz => ?_) ?_
  · go_simp
    (try rw [wm])
  simp only [Act.put, List.setIfInBounds_toArray, List.set_cons_zero, List.set_cons_succ]; (try simp only [List.nil_append]); (try simp only [List.cons_append]); (try simp only [id])
  refine Reg.pass_is (.pointer (some ⟨g, m * k, none⟩)) (by rfl) (fun wz => ?_) ?_
  · go_simp
    (try rw [if_pos ⟨by omega, by omega⟩])
    (try simp)
  simp only [Act.put, List.setIfInBounds_toArray, List.set_cons_zero, List.set_cons_succ]; (try simp only [List.nil_append]); (try simp only [List.cons_append]); (try simp only [id])
  refine Reg.pass_minor (by rfl) (fun wz hI hF => ?_) (fun r8 => ?_)
  · unfold Reg.One
    have d0 := hld.out wz hI
    go_wp2_with fail
    first | exact ⟨_, rfl, rfl, Reg.Ext.refl _⟩ | exact ⟨_, rfl, ⟨(), rfl, trivial⟩, Reg.Ext.refl _⟩
  simp only [Act.put, List.setIfInBounds_toArray, List.set_cons_zero, List.set_cons_succ]; (try simp only [List.nil_append]); (try simp only [List.cons_append]); (try simp only [id])
  refine Reg.pass_minor (by rfl) (fun wz hI hF => ?_) (fun r9 => ?_)
  · unfold Reg.One
    clear zE
    go_wp2_with fail
    exact ⟨_, rfl, ⟨wz.heap.size, rfl, heap_alloc_new wz _, by have := hI.size; omega⟩, (Below.refl wz.heap.size wz).alloc (Nat.le_refl _) _⟩
  simp only [Act.put, List.setIfInBounds_toArray, List.set_cons_zero, List.set_cons_succ]; (try simp only [List.nil_append]); (try simp only [List.cons_append]); (try simp only [id])
  refine Reg.pass_end ?_
  intro w5 HI5 _ HF5
  obtain ⟨hz5, hx5⟩ := HF5.2.2.2.2.2.2.2.2.2.1
  clear HF5 r3 r5 r8
  dsimp only [List.drop]
  obtain ⟨st5, hb6, off6⟩ := put_box (x := y) (cs := [.int .i64 0, .int .i64 0, .int .i64 0, .int .i64 0, .int .i64 0, .int .i64 0, .int .i64 0, .int .i64 0, .int .i64 0, .int .u64 0]) hz5 rfl
  rw [← hcI.out] at st5 hb6 off6
  have hT5 := hT3.out.kept HI5
  have hC5 := (HI5.block _ (Put.lt_of_heap hC3.out)).trans hC3.out
  have hx0 : r9 ≠ p := fun e => by have := hT3.out.lt; omega
  have hxr : w.heap.size ≠ r9 := fun e => by have := Put.lt_of_heap hC3.out; omega
  have hwR : w.heap.size ≤ r9 := by omega
  have hxg : g ≠ r9 := fun e => by have := (hT3.out.own.lt g rfl).2; omega
  have hb5 := hb3.trans (HI5.mono hb3.size)
  obtain ⟨w6, hw6⟩ : ∃ w6, w6 = w5.setRow r9 cI.toArray := ⟨_, rfl⟩
  rw [← hw6] at st5 hb6 off6
  replace hw6 := Lib.hid hw6
  have kI : ∀ j u, (encJ y)[j]? = some u → w6.cell? ⟨r9, j, none⟩ = some u := job_cells (by rw [← hcI.out]; exact hb6)
  have k3 := kI 3 _ rfl
  have f3 : w6.frozen? ⟨r9, 3, none⟩ = false := by simp [World.frozen?, hb6]
  have k5 := kI 5 _ rfl
  have f5 : w6.frozen? ⟨r9, 5, none⟩ = false := by simp [World.frozen?, hb6]
  have k6 := kI 6 _ rfl
  have f6 : w6.frozen? ⟨r9, 6, none⟩ = false := by simp [World.frozen?, hb6]
  have k7 := kI 7 _ rfl
  have f7 : w6.frozen? ⟨r9, 7, none⟩ = false := by simp [World.frozen?, hb6]
  have k8 := kI 8 _ rfl
  have f8 : w6.frozen? ⟨r9, 8, none⟩ = false := by simp [World.frozen?, hb6]
  have k9 := kI 9 _ rfl
  have f9 : w6.frozen? ⟨r9, 9, none⟩ = false := by simp [World.frozen?, hb6]
  have hC6 := (off6.block w.heap.size (Put.lt_of_heap hC5) hxr hxr).trans hC5
  have q0 := op_cells hC6 0 _ rfl
  have q3 := op_cells hC6 11 _ rfl
  have q5 := op_cells hC6 13 _ rfl
  have hT6 : PV w6 p (.slice (some ⟨g, 0, none⟩) L.length cap) L := ⟨(off6.block p hT5.lt hx0.symm hx0.symm).trans hT5.cell, off6.own hT5.own fun k hk => by
    have : g = k := by simpa [Value.ownBlock] using hk
    subst this
    exact ⟨hxg, hxg⟩⟩
  obtain ⟨sb0, so0⟩ := set_box (j := 5) (u := .int .i64 3) hb6
  obtain ⟨sb1, so1⟩ := set_box (j := 6) (u := .int .i64 o.at_) sb0
  obtain ⟨sb2, so2⟩ := set_box (j := 7) (u := .int .i64 (o.at_ + y.2.2.2.1)) sb1
  obtain ⟨sb3, so3⟩ := set_box (j := 8) (u := .int .i64 (-1)) sb2
  obtain ⟨sb4, so4⟩ := set_box (j := 9) (u := .int .u64 o.nodes) sb3
  have offB := ((((((Off.refl r9 r9 w6).trans so0 (.inl rfl)).trans so1 (.inl rfl)).trans so2 (.inl rfl)).trans so3 (.inl rfl)).trans so4 (.inl rfl))
  obtain ⟨wB, hwB⟩ : ∃ wB, wB = (((((w6.setCell ⟨r9, 5, none⟩ (.int .i64 3)).setCell ⟨r9, 6, none⟩ (.int .i64 o.at_)).setCell ⟨r9, 7, none⟩ (.int .i64 (o.at_ + y.2.2.2.1))).setCell ⟨r9, 8, none⟩ (.int .i64 (-1))).setCell ⟨r9, 9, none⟩ (.int .u64 o.nodes)) := ⟨_, rfl⟩
  obtain ⟨cX, hcX⟩ : ∃ cX, cX = (((((cI.set 5 (.int .i64 3)).set 6 (.int .i64 o.at_)).set 7 (.int .i64 (o.at_ + y.2.2.2.1))).set 8 (.int .i64 (-1))).set 9 (.int .u64 o.nodes)) := ⟨_, rfl⟩
  have hXB := sb4
  rw [← hwB] at hXB offB
  rw [← hcX] at hXB
  have eX : cX = encJ (chF o y) := by rw [hcX, hcI.out, hch]; rfl
  have lX : cX.length = k := by rw [eX, hk.out]; rfl
  have hTB : PV wB p (.slice (some ⟨g, 0, none⟩) L.length cap) L := ⟨(offB.block p hT6.lt hx0.symm hx0.symm).trans hT6.cell, offB.own hT6.own fun k hk => by
    have : g = k := by simpa [Value.ownBlock] using hk
    subst this
    exact ⟨hxg, hxg⟩⟩
  have hCB := (offB.block w.heap.size (Put.lt_of_heap hC6) hxr hxr).trans hC6
  have hbB : Below w.heap.size w wB := (hb5.trans (off6.below hwR hwR hb5.size)).trans (offB.below hwR hwR (Nat.le_trans hb5.size off6.size))
  clear offB sb0 so0 sb1 so1 sb2 so2 sb3 so3 sb4 so4 hT6 hC6 hT5 hC5 off6 hb6 kI hz5 hx5 HI5 hb3 hb5 hT3 hC3 hld hch
  replace hTB := Lib.hid hTB
  replace hCB := Lib.hid hCB
  replace hXB := Lib.hid hXB
  replace hbB := Lib.hid hbB
  replace eX := Lib.hid eX
  replace hcX := Lib.hid hcX
  replace hwB := Lib.hid hwB
  go_wp2_with fail
  rw [← hwB.out]
  refine Reg.region_mk 8 104 [[], [true], [true, true], [true, true, true], [false, false, false, false], [false, false, false, false, true], [false, false, false, false, true, true], [false, false, false, false, false, false, false]] [0, 0, 0, 1, 0, 1, 0, 1]
    [.pure, .pure, .pure, .minor Unit () (fun _ => .slice (some ⟨g, 0, none⟩) L.length cap) (fun _ _ => True), .pure, .minor Unit () (fun _ => .int .i64 ((m : Int) + 1)) (fun _ _ => True), .pure, .minor Unit () (fun _ => .agg cX.toArray) (fun _ _ => True)]
    (fun W => Below wB.heap.size wB W) (fun _ _ => True) (fun a b => Below a.heap.size a b) (by kernel_rfl) (by kernel_rfl) rfl rfl (fun vs a b h hs => trivial) ?_ ?_ ?_ ?_ ?_ ?_
  · intro a b he hb; exact hb.trans (Below.mono he hb.size)
  · intro a b he hb; exact hb.trans (Below.mono he hb.size)
  · exact ⟨trivial, trivial, trivial, ⟨fun _ _ _ _ _ => trivial, fun _ _ _ _ _ => trivial⟩, trivial, ⟨fun _ _ _ _ _ => trivial, fun _ _ _ _ _ => trivial⟩, trivial, ⟨fun _ _ _ _ _ => trivial, fun _ _ _ _ _ => trivial⟩, trivial⟩
  · exact ⟨rfl, rfl, rfl, Nat.le_refl _, fun _ _ => rfl⟩
  · trivial
  dsimp only [Reg.mk, List.zip, List.zipWith, List.take]
  repeat (refine' Reg.pass_is _ (by rfl) (fun wz => ?_) ?_; rotate_left; (go_simp; first | rfl | rw [if_neg (by omega)]); simp only [Act.put, List.setIfInBounds_toArray, List.set_cons_zero, List.set_cons_succ]; (try simp only [List.nil_append]); (try simp only [List.cons_append]); (try simp only [id]))
  refine Reg.pass_minor (by rfl) (fun wz hI hF => ?_) (fun s3 => ?_)
  · unfold Reg.One
    have d0 := (hTB.out.kept hI).c0
    go_wp2_with fail
    first | exact ⟨_, rfl, rfl, Reg.Ext.refl _⟩ | exact ⟨_, rfl, ⟨(), rfl, trivial⟩, Reg.Ext.refl _⟩
  simp only [Act.put, List.setIfInBounds_toArray, List.set_cons_zero, List.set_cons_succ]; (try simp only [List.nil_append]); (try simp only [List.cons_append]); (try simp only [id])
  repeat (refine' Reg.pass_is _ (by rfl) (fun wz => ?_) ?_; rotate_left; (go_simp; first | rfl | rw [if_neg (by omega)]); simp only [Act.put, List.setIfInBounds_toArray, List.set_cons_zero, List.set_cons_succ]; (try simp only [List.nil_append]); (try simp only [List.cons_append]); (try simp only [id]))
  refine Reg.pass_minor (by rfl) (fun wz hI hF => ?_) (fun s5 => ?_)
  · unfold Reg.One
    have d0 := op_cells (hI.block _ (Put.lt_of_heap hCB.out) |>.trans hCB.out) 10 _ rfl
    rw [hid.out] at d0
    go_wp2_with fail
    first | exact ⟨_, rfl, rfl, Reg.Ext.refl _⟩ | exact ⟨_, rfl, ⟨(), rfl, trivial⟩, Reg.Ext.refl _⟩
  simp only [Act.put, List.setIfInBounds_toArray, List.set_cons_zero, List.set_cons_succ]; (try simp only [List.nil_append]); (try simp only [List.cons_append]); (try simp only [id])
  refine Reg.pass_is (.int .i64 (m : Int)) (by rfl) (fun wz => ?_) ?_
  · go_simp
    (try rw [wm])
  simp only [Act.put, List.setIfInBounds_toArray, List.set_cons_zero, List.set_cons_succ]; (try simp only [List.nil_append]); (try simp only [List.cons_append]); (try simp only [id])
  refine Reg.pass_minor (by rfl) (fun wz hI hF => ?_) (fun s7 => ?_)
  · unfold Reg.One
    have d0 := load_box ((hI.block _ (Put.lt_of_heap hXB.out)).trans hXB.out) lX
    go_wp2_with fail
    first | exact ⟨_, rfl, rfl, Reg.Ext.refl _⟩ | exact ⟨_, rfl, ⟨(), rfl, trivial⟩, Reg.Ext.refl _⟩
  simp only [Act.put, List.setIfInBounds_toArray, List.set_cons_zero, List.set_cons_succ]; (try simp only [List.nil_append]); (try simp only [List.cons_append]); (try simp only [id])
  refine Reg.pass_end ?_
  intro w7 HI7 _ HF7
  clear HF7 s3 s5 s7
  dsimp only [List.drop]
  have hT7 := hTB.out.kept HI7
  obtain ⟨w8, st8, hT8, off8⟩ := put_at hT7 hm.out (chF o y)
  rw [← eX.out] at st8
  rw [← hk.out] at st8
  have hq8 : QOff p (some g) w w8 := (QOff.of_below (hbB.out.trans (HI7.mono hbB.out.size))).trans off8 (NewO.refl _ _)
  replace hT8 := Lib.hid hT8
  replace hq8 := Lib.hid hq8
  clear hT7 off8 HI7
  go_wp2_with fail
  go_ret
  exact hfin.out _ _ rfl hT8.out hq8.out

set_option maxRecDepth 1000000 in
set_option maxHeartbeats 4000000 in
theorem turn_begin7_no {y : Jb} (h : PV w p (.slice (some ⟨g, 0, none⟩) L.length cap) L) (o : Cl) (h0 : earlyF o = 0) (hm : m < L.length) (hid : o.id = (m : Int) + 1) (hy : L[m]! = y) (hkd : o.kind = 7) (hs : y.state ≠ 1) : Calls Try.prog 15 #[.pointer (some ⟨p, 0, none⟩), .agg (encC o).toArray] w (TurnPost w p (.slice (some ⟨g, 0, none⟩) L.length cap) L o) := by
  have hmix := mixedO
  have zO := zE_op
  have lO := encC_len o
  obtain ⟨k14, hk14⟩ : ∃ k, k = 14 := ⟨_, rfl⟩
  rw [← hk14] at zO lO
  replace hk14 := Lib.hid hk14
  have hb1 := (Below.refl w.heap.size w).alloc (Nat.le_refl _) (.cells (encC o).toArray 38)
  have hC1 := heap_alloc_new w (.cells (encC o).toArray 38)
  have lc := op_load hC1 lO
  have hsz1 : (w.alloc (.cells (encC o).toArray 38)).heap.size = w.heap.size + 1 := by simp
  obtain ⟨w1, hw1⟩ : ∃ w1, w1 = w.alloc (.cells (encC o).toArray 38) := ⟨_, rfl⟩
  rw [← hw1] at hb1 hC1 hsz1
  have hev := early_fn o w1
  rw [h0] at hev
  have he : stepE L (earlyF o) o.id (okF o) = 8 := by
    unfold stepE
    rw [if_neg (by omega), if_neg (by omega), if_neg (by omega), show (o.id - 1).toNat = m from by omega, hy, if_neg (by unfold okF; simp [hkd, hs])]
  have hfin := fun (W : World) (e : Ending) hr hb => turnPost_no (w' := W) (e := e) h he (by decide) hr hb
  clear he
  replace hfin := Lib.hid hfin
  have hle := own_len h.own
  have s1 : (y.2.2.2.2.2.1 != 1) = true := bne_iff_ne.2 hs
  clear hs
  have e3 : (o.kind == 3) = false := by rw [hkd]; rfl
  have e4 : (o.kind == 4) = false := by rw [hkd]; rfl
  have e5 : (o.kind == 5) = false := by rw [hkd]; rfl
  have e6 : (o.kind == 6) = false := by rw [hkd]; rfl
  have e7 : (o.kind == 7) = true := by rw [hkd]; rfl
  clear hkd
  have d1 : decide (o.id < 1) = false := decide_eq_false (by omega)
  have d2 : decide ((L.length : Int) < o.id) = false := decide_eq_false (by omega)
  clear h0
  replace h := Lib.hid h
  have b1 : (m : Int) < (L.length : Int) := by omega
  have b0 : (0 : Int) ≤ (m : Int) := by omega
  have wm : IntKind.i64.wrap (m : Int) = (m : Int) := by rw [IntKind.wrap_i64]; omega
  replace hid := Lib.hid hid
  go_enter Try.func15, Try.ntmps15
  go_wp2_with fail
  go_at_call 33
  rw [← hw1]
  replace hw1 := Lib.hid hw1
  refine hev.mono ?_
  clear hev lc
  rintro e w2 ⟨rfl, o2, rfl⟩
  have hb2 : Below w.heap.size w (w1.alloc o2) := hb1.alloc hb1.size _
  have hC2 : (w1.alloc o2).heap[w.heap.size]? = _ := (Go.heap_alloc_old w1 o2 (by omega)).trans hC1
  have hsz2 : w.heap.size + 1 ≤ (w1.alloc o2).heap.size := by simp [hsz1]
  generalize w1.alloc o2 = w2 at *
  have hT2 := h.out.kept hb2
  have g0 : ∀ n', (w2.drewN n').cell? ⟨p, 0, none⟩ = some (.slice (some ⟨g, 0, none⟩) L.length cap) := fun n' => hT2.c0
  have g2 : ∀ n', (w2.drewN n').cell? ⟨w.heap.size, 10, none⟩ = some (.int .i64 o.id) := fun n' => op_cells hC2 10 _ rfl
  clear hT2
  go_wp2_with fail
  go_quiet (fail)
  clear g0 g2
  have hb3 : Below w.heap.size w (w2.drewN nq) := ⟨hb2.os, hb2.tape, hb2.output, hb2.size, hb2.block⟩
  have hC3 : (w2.drewN nq).heap[w.heap.size]? = _ := hC2
  have hsz3 : w.heap.size + 1 ≤ (w2.drewN nq).heap.size := hsz2
  generalize w2.drewN nq = w3 at *
  clear hb2 hC2 hsz2
  have hT3 := h.out.kept hb3
  have zE := zE_job
  obtain ⟨k, hk⟩ : ∃ k, k = 10 := ⟨_, rfl⟩
  rw [← hk] at zE
  obtain ⟨cI, hcI⟩ : ∃ cI, cI = encJ y := ⟨_, rfl⟩
  have hld : Hid (∀ W, Below w3.heap.size w3 W → Sem.run Try.prog (loadCellsFrom ⟨g, m * k, none⟩ 0 k #[]) W = .ok cI.toArray W) := fun W hW => by
    have := (hT3.kept hW).row.load hk hm
    rw [Nat.zero_add, hy, ← hcI] at this
    exact this
  have lI : cI.length = k := by rw [hcI, hk]; rfl
  replace hk := Lib.hid hk
  replace hcI := Lib.hid hcI
  replace hT3 := Lib.hid hT3
  replace hC3 := Lib.hid hC3
  replace hy := Lib.hid hy
  replace hm := Lib.hid hm
  go_wp2_with fail
  refine Reg.region_mk 10 104 [[], [true], [true, true], [true, true, true], [false, false, false, false], [false, false, false, false, true], [false, false, false, false, true, true], [true, true, true, true, true, true, true], [true, true, true, true, true, true, true, true], [false, false, false, false, false, false, false, false, false]] [0, 0, 0, 1, 0, 1, 0, 0, 1, 1]
    [.pure, .pure, .pure, .minor Unit () (fun _ => .slice (some ⟨g, 0, none⟩) L.length cap) (fun _ _ => True), .pure, .minor Unit () (fun _ => .int .i64 ((m : Int) + 1)) (fun _ _ => True), .pure, .pure, .minor Unit () (fun _ => .agg cI.toArray) (fun _ _ => True), .minor Nat 0 (fun x => .pointer (some ⟨x, 0, none⟩)) (fun x W => W.heap[x]? = some (.cells #[.int .i64 0, .int .i64 0, .int .i64 0, .int .i64 0, .int .i64 0, .int .i64 0, .int .i64 0, .int .i64 0, .int .i64 0, .int .u64 0] 52 (0, 0)) ∧ w3.heap.size ≤ x)]
    (fun W => Below w3.heap.size w3 W) (fun _ _ => True) (fun a b => Below a.heap.size a b) (by kernel_rfl) (by kernel_rfl) rfl rfl (fun vs a b h hs => trivial) ?_ ?_ ?_ ?_ ?_ ?_
  · intro a b he hb; exact hb.trans (Below.mono he hb.size)
  · intro a b he hb; exact hb.trans (Below.mono he hb.size)
  · exact ⟨trivial, trivial, trivial, ⟨fun _ _ _ _ _ => trivial, fun _ _ _ _ _ => trivial⟩, trivial, ⟨fun _ _ _ _ _ => trivial, fun _ _ _ _ _ => trivial⟩, trivial, trivial, ⟨fun _ _ _ _ _ => trivial, fun _ _ _ _ _ => trivial⟩, ⟨fun x a b he h => ⟨(Below.block he x (Put.lt_of_heap h.1)).trans h.1, h.2⟩, fun x a b he h => ⟨(Below.block he x (Put.lt_of_heap h.1)).trans h.1, h.2⟩⟩, trivial⟩
  · exact ⟨rfl, rfl, rfl, Nat.le_refl _, fun _ _ => rfl⟩
  · trivial
  dsimp only [Reg.mk, List.zip, List.zipWith, List.take]
  repeat (refine' Reg.pass_is _ (by rfl) (fun wz => ?_) ?_; rotate_left; (go_simp; first | rfl | rw [if_neg (by omega)]); simp only [Act.put, List.setIfInBounds_toArray, List.set_cons_zero, List.set_cons_succ]; (try simp only [List.nil_append]); (try simp only [List.cons_append]); (try simp only [id]))
  refine Reg.pass_minor (by rfl) (fun wz hI hF => ?_) (fun r3 => ?_)
  · unfold Reg.One
    have d0 := (hT3.out.kept hI).c0
    go_wp2_with fail
    first | exact ⟨_, rfl, rfl, Reg.Ext.refl _⟩ | exact ⟨_, rfl, ⟨(), rfl, trivial⟩, Reg.Ext.refl _⟩
  simp only [Act.put, List.setIfInBounds_toArray, List.set_cons_zero, List.set_cons_succ]; (try simp only [List.nil_append]); (try simp only [List.cons_append]); (try simp only [id])
  repeat (refine' Reg.pass_is _ (by rfl) (fun wz => ?_) ?_; rotate_left; (go_simp; first | rfl | rw [if_neg (by omega)]); simp only [Act.put, List.setIfInBounds_toArray, List.set_cons_zero, List.set_cons_succ]; (try simp only [List.nil_append]); (try simp only [List.cons_append]); (try simp only [id]))
  refine Reg.pass_minor (by rfl) (fun wz hI hF => ?_) (fun r5 => ?_)
  · unfold Reg.One
    have d0 := op_cells (hI.block _ (Put.lt_of_heap hC3.out) |>.trans hC3.out) 10 _ rfl
    rw [hid.out] at d0
    go_wp2_with fail
    first | exact ⟨_, rfl, rfl, Reg.Ext.refl _⟩ | exact ⟨_, rfl, ⟨(), rfl, trivial⟩, Reg.Ext.refl _⟩
  simp only [Act.put, List.setIfInBounds_toArray, List.set_cons_zero, List.set_cons_succ]; (try simp only [List.nil_append]); (try simp only [List.cons_append]); (try simp only [id])
  refine Reg.pass_is (.int .i64 (m : Int)) (by rfl) (fun wz => ?_) ?_
  · go_simp
    (try rw [wm])
  simp only [Act.put, List.setIfInBounds_toArray, List.set_cons_zero, List.set_cons_succ]; (try simp only [List.nil_append]); (try simp only [List.cons_append]); (try simp only [id])
  refine Reg.pass_is (.pointer (some ⟨g, m * k, none⟩)) (by rfl) (fun wz => ?_) ?_
  · go_simp
    (try rw [if_pos ⟨by omega, by omega⟩])
    (try simp)
  simp only [Act.put, List.setIfInBounds_toArray, List.set_cons_zero, List.set_cons_succ]; (try simp only [List.nil_append]); (try simp only [List.cons_append]); (try simp only [id])
  refine Reg.pass_minor (by rfl) (fun wz hI hF => ?_) (fun r8 => ?_)
  · unfold Reg.One
    have d0 := hld.out wz hI
    go_wp2_with fail
    first | exact ⟨_, rfl, rfl, Reg.Ext.refl _⟩ | exact ⟨_, rfl, ⟨(), rfl, trivial⟩, Reg.Ext.refl _⟩
  simp only [Act.put, List.setIfInBounds_toArray, List.set_cons_zero, List.set_cons_succ]; (try simp only [List.nil_append]); (try simp only [List.cons_append]); (try simp only [id])
  refine Reg.pass_minor (by rfl) (fun wz hI hF => ?_) (fun r9 => ?_)
  · unfold Reg.One
    clear zE
    go_wp2_with fail
    exact ⟨_, rfl, ⟨wz.heap.size, rfl, heap_alloc_new wz _, by have := hI.size; omega⟩, (Below.refl wz.heap.size wz).alloc (Nat.le_refl _) _⟩
  simp only [Act.put, List.setIfInBounds_toArray, List.set_cons_zero, List.set_cons_succ]; (try simp only [List.nil_append]); (try simp only [List.cons_append]); (try simp only [id])
  refine Reg.pass_end ?_
  intro w5 HI5 _ HF5
  obtain ⟨hz5, hx5⟩ := HF5.2.2.2.2.2.2.2.2.2.1
  clear HF5 r3 r5 r8
  dsimp only [List.drop]
  obtain ⟨st5, hb6, off6⟩ := put_box (x := y) (cs := [.int .i64 0, .int .i64 0, .int .i64 0, .int .i64 0, .int .i64 0, .int .i64 0, .int .i64 0, .int .i64 0, .int .i64 0, .int .u64 0]) hz5 rfl
  rw [← hcI.out] at st5 hb6 off6
  have hT5 := hT3.out.kept HI5
  have hC5 := (HI5.block _ (Put.lt_of_heap hC3.out)).trans hC3.out
  have hx0 : r9 ≠ p := fun e => by have := hT3.out.lt; omega
  have hxr : w.heap.size ≠ r9 := fun e => by have := Put.lt_of_heap hC3.out; omega
  have hwR : w.heap.size ≤ r9 := by omega
  have hxg : g ≠ r9 := fun e => by have := (hT3.out.own.lt g rfl).2; omega
  have hb5 := hb3.trans (HI5.mono hb3.size)
  obtain ⟨w6, hw6⟩ : ∃ w6, w6 = w5.setRow r9 cI.toArray := ⟨_, rfl⟩
  rw [← hw6] at st5 hb6 off6
  replace hw6 := Lib.hid hw6
  have kI : ∀ j u, (encJ y)[j]? = some u → w6.cell? ⟨r9, j, none⟩ = some u := job_cells (by rw [← hcI.out]; exact hb6)
  have k3 := kI 3 _ rfl
  have f3 : w6.frozen? ⟨r9, 3, none⟩ = false := by simp [World.frozen?, hb6]
  have k5 := kI 5 _ rfl
  have f5 : w6.frozen? ⟨r9, 5, none⟩ = false := by simp [World.frozen?, hb6]
  have hC6 := (off6.block w.heap.size (Put.lt_of_heap hC5) hxr hxr).trans hC5
  have q0 := op_cells hC6 0 _ rfl
  have q3 := op_cells hC6 11 _ rfl
  have q5 := op_cells hC6 13 _ rfl
  have hfb := Lib.hid (hb5.trans (off6.below hwR hwR hb5.size))
  clear hb5 hb3 HI5 hz5 hx5 hT5 hC5 off6 hb6 kI hC6 hld hT3 hC3
  go_wp2_with fail
  go_ret
  exact hfin.out _ _ rfl hfb.out

set_option maxRecDepth 1000000 in
set_option maxHeartbeats 4000000 in
theorem turn_begin7_yes {y : Jb} (h : PV w p (.slice (some ⟨g, 0, none⟩) L.length cap) L) (o : Cl) (h0 : earlyF o = 0) (hm : m < L.length) (hid : o.id = (m : Int) + 1) (hy : L[m]! = y) (hkd : o.kind = 7) (hs : y.state = 1) (hlim : 1 ≤ y.limit ∧ y.limit ≤ 1048576) (hat : 0 ≤ o.at_ ∧ o.at_ ≤ 1099511627776) : Calls Try.prog 15 #[.pointer (some ⟨p, 0, none⟩), .agg (encC o).toArray] w (TurnPost w p (.slice (some ⟨g, 0, none⟩) L.length cap) L o) := by
  have hmix := mixedO
  have zO := zE_op
  have lO := encC_len o
  obtain ⟨k14, hk14⟩ : ∃ k, k = 14 := ⟨_, rfl⟩
  rw [← hk14] at zO lO
  replace hk14 := Lib.hid hk14
  have hb1 := (Below.refl w.heap.size w).alloc (Nat.le_refl _) (.cells (encC o).toArray 38)
  have hC1 := heap_alloc_new w (.cells (encC o).toArray 38)
  have lc := op_load hC1 lO
  have hsz1 : (w.alloc (.cells (encC o).toArray 38)).heap.size = w.heap.size + 1 := by simp
  obtain ⟨w1, hw1⟩ : ∃ w1, w1 = w.alloc (.cells (encC o).toArray 38) := ⟨_, rfl⟩
  rw [← hw1] at hb1 hC1 hsz1
  have hev := early_fn o w1
  rw [h0] at hev
  have hfin := fun (W : World) (e : Ending) hr hP hq => turnPost_yes (w := w) (w' := W) (p := p) (v := .slice (some ⟨g, 0, none⟩) L.length cap) (e := e) (o := o) (y := y) h0 hm hid hy (by unfold okF; simp [hkd, hs]) hr hP hq
  have hch : chF o y = beginJ o.at_ o.nodes y := by unfold chF; simp [hkd]
  replace hfin := Lib.hid hfin
  have hle := own_len h.own
  have s1 : (y.2.2.2.2.2.1 != 1) = false := by rw [show y.2.2.2.2.2.1 = 1 from hs]; rfl
  clear hs
  have e3 : (o.kind == 3) = false := by rw [hkd]; rfl
  have e4 : (o.kind == 4) = false := by rw [hkd]; rfl
  have e5 : (o.kind == 5) = false := by rw [hkd]; rfl
  have e6 : (o.kind == 6) = false := by rw [hkd]; rfl
  have e7 : (o.kind == 7) = true := by rw [hkd]; rfl
  clear hkd
  have wl : IntKind.i64.wrap (o.at_ + y.2.2.2.1) = o.at_ + y.2.2.2.1 := by (have : y.limit = y.2.2.2.1 := rfl); rw [IntKind.wrap_i64]; omega
  clear hlim hat
  have d1 : decide (o.id < 1) = false := decide_eq_false (by omega)
  have d2 : decide ((L.length : Int) < o.id) = false := decide_eq_false (by omega)
  clear h0
  replace h := Lib.hid h
  have b1 : (m : Int) < (L.length : Int) := by omega
  have b0 : (0 : Int) ≤ (m : Int) := by omega
  have wm : IntKind.i64.wrap (m : Int) = (m : Int) := by rw [IntKind.wrap_i64]; omega
  replace hid := Lib.hid hid
  go_enter Try.func15, Try.ntmps15
  go_wp2_with fail
  go_at_call 33
  rw [← hw1]
  replace hw1 := Lib.hid hw1
  refine hev.mono ?_
  clear hev lc
  rintro e w2 ⟨rfl, o2, rfl⟩
  have hb2 : Below w.heap.size w (w1.alloc o2) := hb1.alloc hb1.size _
  have hC2 : (w1.alloc o2).heap[w.heap.size]? = _ := (Go.heap_alloc_old w1 o2 (by omega)).trans hC1
  have hsz2 : w.heap.size + 1 ≤ (w1.alloc o2).heap.size := by simp [hsz1]
  generalize w1.alloc o2 = w2 at *
  have hT2 := h.out.kept hb2
  have g0 : ∀ n', (w2.drewN n').cell? ⟨p, 0, none⟩ = some (.slice (some ⟨g, 0, none⟩) L.length cap) := fun n' => hT2.c0
  have g2 : ∀ n', (w2.drewN n').cell? ⟨w.heap.size, 10, none⟩ = some (.int .i64 o.id) := fun n' => op_cells hC2 10 _ rfl
  clear hT2
  go_wp2_with fail
  go_quiet (fail)
  clear g0 g2
  have hb3 : Below w.heap.size w (w2.drewN nq) := ⟨hb2.os, hb2.tape, hb2.output, hb2.size, hb2.block⟩
  have hC3 : (w2.drewN nq).heap[w.heap.size]? = _ := hC2
  have hsz3 : w.heap.size + 1 ≤ (w2.drewN nq).heap.size := hsz2
  generalize w2.drewN nq = w3 at *
  clear hb2 hC2 hsz2
  have hT3 := h.out.kept hb3
  have zE := zE_job
  obtain ⟨k, hk⟩ : ∃ k, k = 10 := ⟨_, rfl⟩
  rw [← hk] at zE
  obtain ⟨cI, hcI⟩ : ∃ cI, cI = encJ y := ⟨_, rfl⟩
  have hld : Hid (∀ W, Below w3.heap.size w3 W → Sem.run Try.prog (loadCellsFrom ⟨g, m * k, none⟩ 0 k #[]) W = .ok cI.toArray W) := fun W hW => by
    have := (hT3.kept hW).row.load hk hm
    rw [Nat.zero_add, hy, ← hcI] at this
    exact this
  have lI : cI.length = k := by rw [hcI, hk]; rfl
  replace hk := Lib.hid hk
  replace hcI := Lib.hid hcI
  replace hT3 := Lib.hid hT3
  replace hC3 := Lib.hid hC3
  replace hy := Lib.hid hy
  replace hm := Lib.hid hm
  go_wp2_with fail
  refine Reg.region_mk 10 104 [[], [true], [true, true], [true, true, true], [false, false, false, false], [false, false, false, false, true], [false, false, false, false, true, true], [true, true, true, true, true, true, true], [true, true, true, true, true, true, true, true], [false, false, false, false, false, false, false, false, false]] [0, 0, 0, 1, 0, 1, 0, 0, 1, 1]
    [.pure, .pure, .pure, .minor Unit () (fun _ => .slice (some ⟨g, 0, none⟩) L.length cap) (fun _ _ => True), .pure, .minor Unit () (fun _ => .int .i64 ((m : Int) + 1)) (fun _ _ => True), .pure, .pure, .minor Unit () (fun _ => .agg cI.toArray) (fun _ _ => True), .minor Nat 0 (fun x => .pointer (some ⟨x, 0, none⟩)) (fun x W => W.heap[x]? = some (.cells #[.int .i64 0, .int .i64 0, .int .i64 0, .int .i64 0, .int .i64 0, .int .i64 0, .int .i64 0, .int .i64 0, .int .i64 0, .int .u64 0] 52 (0, 0)) ∧ w3.heap.size ≤ x)]
    (fun W => Below w3.heap.size w3 W) (fun _ _ => True) (fun a b => Below a.heap.size a b) (by kernel_rfl) (by kernel_rfl) rfl rfl (fun vs a b h hs => trivial) ?_ ?_ ?_ ?_ ?_ ?_
  · intro a b he hb; exact hb.trans (Below.mono he hb.size)
  · intro a b he hb; exact hb.trans (Below.mono he hb.size)
  · exact ⟨trivial, trivial, trivial, ⟨fun _ _ _ _ _ => trivial, fun _ _ _ _ _ => trivial⟩, trivial, ⟨fun _ _ _ _ _ => trivial, fun _ _ _ _ _ => trivial⟩, trivial, trivial, ⟨fun _ _ _ _ _ => trivial, fun _ _ _ _ _ => trivial⟩, ⟨fun x a b he h => ⟨(Below.block he x (Put.lt_of_heap h.1)).trans h.1, h.2⟩, fun x a b he h => ⟨(Below.block he x (Put.lt_of_heap h.1)).trans h.1, h.2⟩⟩, trivial⟩
  · exact ⟨rfl, rfl, rfl, Nat.le_refl _, fun _ _ => rfl⟩
  · trivial
  dsimp only [Reg.mk, List.zip, List.zipWith, List.take]
  repeat (refine' Reg.pass_is _ (by rfl) (fun wz => ?_) ?_; rotate_left; (go_simp; first | rfl | rw [if_neg (by omega)]); simp only [Act.put, List.setIfInBounds_toArray, List.set_cons_zero, List.set_cons_succ]; (try simp only [List.nil_append]); (try simp only [List.cons_append]); (try simp only [id]))
  refine Reg.pass_minor (by rfl) (fun wz hI hF => ?_) (fun r3 => ?_)
  · unfold Reg.One
    have d0 := (hT3.out.kept hI).c0
    go_wp2_with fail
    first | exact ⟨_, rfl, rfl, Reg.Ext.refl _⟩ | exact ⟨_, rfl, ⟨(), rfl, trivial⟩, Reg.Ext.refl _⟩
  simp only [Act.put, List.setIfInBounds_toArray, List.set_cons_zero, List.set_cons_succ]; (try simp only [List.nil_append]); (try simp only [List.cons_append]); (try simp only [id])
  repeat (refine' Reg.pass_is _ (by rfl) (fun wz => ?_) ?_; rotate_left; (go_simp; first | rfl | rw [if_neg (by omega)]); simp only [Act.put, List.setIfInBounds_toArray, List.set_cons_zero, List.set_cons_succ]; (try simp only [List.nil_append]); (try simp only [List.cons_append]); (try simp only [id]))
  refine Reg.pass_minor (by rfl) (fun wz hI hF => ?_) (fun r5 => ?_)
  · unfold Reg.One
    have d0 := op_cells (hI.block _ (Put.lt_of_heap hC3.out) |>.trans hC3.out) 10 _ rfl
    rw [hid.out] at d0
    go_wp2_with fail
    first | exact ⟨_, rfl, rfl, Reg.Ext.refl _⟩ | exact ⟨_, rfl, ⟨(), rfl, trivial⟩, Reg.Ext.refl _⟩
  simp only [Act.put, List.setIfInBounds_toArray, List.set_cons_zero, List.set_cons_succ]; (try simp only [List.nil_append]); (try simp only [List.cons_append]); (try simp only [id])
  refine Reg.pass_is (.int .i64 (m : Int)) (by rfl) (fun wz => ?_) ?_
  · go_simp
    (try rw [wm])
  simp only [Act.put, List.setIfInBounds_toArray, List.set_cons_zero, List.set_cons_succ]; (try simp only [List.nil_append]); (try simp only [List.cons_append]); (try simp only [id])
  refine Reg.pass_is (.pointer (some ⟨g, m * k, none⟩)) (by rfl) (fun wz => ?_) ?_
  · go_simp
    (try rw [if_pos ⟨by omega, by omega⟩])
    (try simp)
  simp only [Act.put, List.setIfInBounds_toArray, List.set_cons_zero, List.set_cons_succ]; (try simp only [List.nil_append]); (try simp only [List.cons_append]); (try simp only [id])
  refine Reg.pass_minor (by rfl) (fun wz hI hF => ?_) (fun r8 => ?_)
  · unfold Reg.One
    have d0 := hld.out wz hI
    go_wp2_with fail
    first | exact ⟨_, rfl, rfl, Reg.Ext.refl _⟩ | exact ⟨_, rfl, ⟨(), rfl, trivial⟩, Reg.Ext.refl _⟩
  simp only [Act.put, List.setIfInBounds_toArray, List.set_cons_zero, List.set_cons_succ]; (try simp only [List.nil_append]); (try simp only [List.cons_append]); (try simp only [id])
  refine Reg.pass_minor (by rfl) (fun wz hI hF => ?_) (fun r9 => ?_)
  · unfold Reg.One
    clear zE
    go_wp2_with fail
    exact ⟨_, rfl, ⟨wz.heap.size, rfl, heap_alloc_new wz _, by have := hI.size; omega⟩, (Below.refl wz.heap.size wz).alloc (Nat.le_refl _) _⟩
  simp only [Act.put, List.setIfInBounds_toArray, List.set_cons_zero, List.set_cons_succ]; (try simp only [List.nil_append]); (try simp only [List.cons_append]); (try simp only [id])
  refine Reg.pass_end ?_
  intro w5 HI5 _ HF5
  obtain ⟨hz5, hx5⟩ := HF5.2.2.2.2.2.2.2.2.2.1
  clear HF5 r3 r5 r8
  dsimp only [List.drop]
  obtain ⟨st5, hb6, off6⟩ := put_box (x := y) (cs := [.int .i64 0, .int .i64 0, .int .i64 0, .int .i64 0, .int .i64 0, .int .i64 0, .int .i64 0, .int .i64 0, .int .i64 0, .int .u64 0]) hz5 rfl
  rw [← hcI.out] at st5 hb6 off6
  have hT5 := hT3.out.kept HI5
  have hC5 := (HI5.block _ (Put.lt_of_heap hC3.out)).trans hC3.out
  have hx0 : r9 ≠ p := fun e => by have := hT3.out.lt; omega
  have hxr : w.heap.size ≠ r9 := fun e => by have := Put.lt_of_heap hC3.out; omega
  have hwR : w.heap.size ≤ r9 := by omega
  have hxg : g ≠ r9 := fun e => by have := (hT3.out.own.lt g rfl).2; omega
  have hb5 := hb3.trans (HI5.mono hb3.size)
  obtain ⟨w6, hw6⟩ : ∃ w6, w6 = w5.setRow r9 cI.toArray := ⟨_, rfl⟩
  rw [← hw6] at st5 hb6 off6
  replace hw6 := Lib.hid hw6
  have kI : ∀ j u, (encJ y)[j]? = some u → w6.cell? ⟨r9, j, none⟩ = some u := job_cells (by rw [← hcI.out]; exact hb6)
  have k3 := kI 3 _ rfl
  have f3 : w6.frozen? ⟨r9, 3, none⟩ = false := by simp [World.frozen?, hb6]
  have k5 := kI 5 _ rfl
  have f5 : w6.frozen? ⟨r9, 5, none⟩ = false := by simp [World.frozen?, hb6]
  have k6 := kI 6 _ rfl
  have f6 : w6.frozen? ⟨r9, 6, none⟩ = false := by simp [World.frozen?, hb6]
  have k7 := kI 7 _ rfl
  have f7 : w6.frozen? ⟨r9, 7, none⟩ = false := by simp [World.frozen?, hb6]
  have k8 := kI 8 _ rfl
  have f8 : w6.frozen? ⟨r9, 8, none⟩ = false := by simp [World.frozen?, hb6]
  have k9 := kI 9 _ rfl
  have f9 : w6.frozen? ⟨r9, 9, none⟩ = false := by simp [World.frozen?, hb6]
  have hC6 := (off6.block w.heap.size (Put.lt_of_heap hC5) hxr hxr).trans hC5
  have q0 := op_cells hC6 0 _ rfl
  have q3 := op_cells hC6 11 _ rfl
  have q5 := op_cells hC6 13 _ rfl
  have hT6 : PV w6 p (.slice (some ⟨g, 0, none⟩) L.length cap) L := ⟨(off6.block p hT5.lt hx0.symm hx0.symm).trans hT5.cell, off6.own hT5.own fun k hk => by
    have : g = k := by simpa [Value.ownBlock] using hk
    subst this
    exact ⟨hxg, hxg⟩⟩
  obtain ⟨sb0, so0⟩ := set_box (j := 5) (u := .int .i64 3) hb6
  obtain ⟨sb1, so1⟩ := set_box (j := 6) (u := .int .i64 o.at_) sb0
  obtain ⟨sb2, so2⟩ := set_box (j := 7) (u := .int .i64 (o.at_ + y.2.2.2.1)) sb1
  obtain ⟨sb3, so3⟩ := set_box (j := 8) (u := .int .i64 (-1)) sb2
  obtain ⟨sb4, so4⟩ := set_box (j := 9) (u := .int .u64 o.nodes) sb3
  have offB := ((((((Off.refl r9 r9 w6).trans so0 (.inl rfl)).trans so1 (.inl rfl)).trans so2 (.inl rfl)).trans so3 (.inl rfl)).trans so4 (.inl rfl))
  obtain ⟨wB, hwB⟩ : ∃ wB, wB = (((((w6.setCell ⟨r9, 5, none⟩ (.int .i64 3)).setCell ⟨r9, 6, none⟩ (.int .i64 o.at_)).setCell ⟨r9, 7, none⟩ (.int .i64 (o.at_ + y.2.2.2.1))).setCell ⟨r9, 8, none⟩ (.int .i64 (-1))).setCell ⟨r9, 9, none⟩ (.int .u64 o.nodes)) := ⟨_, rfl⟩
  obtain ⟨cX, hcX⟩ : ∃ cX, cX = (((((cI.set 5 (.int .i64 3)).set 6 (.int .i64 o.at_)).set 7 (.int .i64 (o.at_ + y.2.2.2.1))).set 8 (.int .i64 (-1))).set 9 (.int .u64 o.nodes)) := ⟨_, rfl⟩
  have hXB := sb4
  rw [← hwB] at hXB offB
  rw [← hcX] at hXB
  have eX : cX = encJ (chF o y) := by rw [hcX, hcI.out, hch]; rfl
  have lX : cX.length = k := by rw [eX, hk.out]; rfl
  have hTB : PV wB p (.slice (some ⟨g, 0, none⟩) L.length cap) L := ⟨(offB.block p hT6.lt hx0.symm hx0.symm).trans hT6.cell, offB.own hT6.own fun k hk => by
    have : g = k := by simpa [Value.ownBlock] using hk
    subst this
    exact ⟨hxg, hxg⟩⟩
  have hCB := (offB.block w.heap.size (Put.lt_of_heap hC6) hxr hxr).trans hC6
  have hbB : Below w.heap.size w wB := (hb5.trans (off6.below hwR hwR hb5.size)).trans (offB.below hwR hwR (Nat.le_trans hb5.size off6.size))
  clear offB sb0 so0 sb1 so1 sb2 so2 sb3 so3 sb4 so4 hT6 hC6 hT5 hC5 off6 hb6 kI hz5 hx5 HI5 hb3 hb5 hT3 hC3 hld hch
  replace hTB := Lib.hid hTB
  replace hCB := Lib.hid hCB
  replace hXB := Lib.hid hXB
  replace hbB := Lib.hid hbB
  replace eX := Lib.hid eX
  replace hcX := Lib.hid hcX
  replace hwB := Lib.hid hwB
  go_wp2_with fail
  rw [← hwB.out]
  refine Reg.region_mk 8 104 [[], [true], [true, true], [true, true, true], [false, false, false, false], [false, false, false, false, true], [false, false, false, false, true, true], [false, false, false, false, false, false, false]] [0, 0, 0, 1, 0, 1, 0, 1]
    [.pure, .pure, .pure, .minor Unit () (fun _ => .slice (some ⟨g, 0, none⟩) L.length cap) (fun _ _ => True), .pure, .minor Unit () (fun _ => .int .i64 ((m : Int) + 1)) (fun _ _ => True), .pure, .minor Unit () (fun _ => .agg cX.toArray) (fun _ _ => True)]
    (fun W => Below wB.heap.size wB W) (fun _ _ => True) (fun a b => Below a.heap.size a b) (by kernel_rfl) (by kernel_rfl) rfl rfl (fun vs a b h hs => trivial) ?_ ?_ ?_ ?_ ?_ ?_
  · intro a b he hb; exact hb.trans (Below.mono he hb.size)
  · intro a b he hb; exact hb.trans (Below.mono he hb.size)
  · exact ⟨trivial, trivial, trivial, ⟨fun _ _ _ _ _ => trivial, fun _ _ _ _ _ => trivial⟩, trivial, ⟨fun _ _ _ _ _ => trivial, fun _ _ _ _ _ => trivial⟩, trivial, ⟨fun _ _ _ _ _ => trivial, fun _ _ _ _ _ => trivial⟩, trivial⟩
  · exact ⟨rfl, rfl, rfl, Nat.le_refl _, fun _ _ => rfl⟩
  · trivial
  dsimp only [Reg.mk, List.zip, List.zipWith, List.take]
  repeat (refine' Reg.pass_is _ (by rfl) (fun wz => ?_) ?_; rotate_left; (go_simp; first | rfl | rw [if_neg (by omega)]); simp only [Act.put, List.setIfInBounds_toArray, List.set_cons_zero, List.set_cons_succ]; (try simp only [List.nil_append]); (try simp only [List.cons_append]); (try simp only [id]))
  refine Reg.pass_minor (by rfl) (fun wz hI hF => ?_) (fun s3 => ?_)
  · unfold Reg.One
    have d0 := (hTB.out.kept hI).c0
    go_wp2_with fail
    first | exact ⟨_, rfl, rfl, Reg.Ext.refl _⟩ | exact ⟨_, rfl, ⟨(), rfl, trivial⟩, Reg.Ext.refl _⟩
  simp only [Act.put, List.setIfInBounds_toArray, List.set_cons_zero, List.set_cons_succ]; (try simp only [List.nil_append]); (try simp only [List.cons_append]); (try simp only [id])
  repeat (refine' Reg.pass_is _ (by rfl) (fun wz => ?_) ?_; rotate_left; (go_simp; first | rfl | rw [if_neg (by omega)]); simp only [Act.put, List.setIfInBounds_toArray, List.set_cons_zero, List.set_cons_succ]; (try simp only [List.nil_append]); (try simp only [List.cons_append]); (try simp only [id]))
  refine Reg.pass_minor (by rfl) (fun wz hI hF => ?_) (fun s5 => ?_)
  · unfold Reg.One
    have d0 := op_cells (hI.block _ (Put.lt_of_heap hCB.out) |>.trans hCB.out) 10 _ rfl
    rw [hid.out] at d0
    go_wp2_with fail
    first | exact ⟨_, rfl, rfl, Reg.Ext.refl _⟩ | exact ⟨_, rfl, ⟨(), rfl, trivial⟩, Reg.Ext.refl _⟩
  simp only [Act.put, List.setIfInBounds_toArray, List.set_cons_zero, List.set_cons_succ]; (try simp only [List.nil_append]); (try simp only [List.cons_append]); (try simp only [id])
  refine Reg.pass_is (.int .i64 (m : Int)) (by rfl) (fun wz => ?_) ?_
  · go_simp
    (try rw [wm])
  simp only [Act.put, List.setIfInBounds_toArray, List.set_cons_zero, List.set_cons_succ]; (try simp only [List.nil_append]); (try simp only [List.cons_append]); (try simp only [id])
  refine Reg.pass_minor (by rfl) (fun wz hI hF => ?_) (fun s7 => ?_)
  · unfold Reg.One
    have d0 := load_box ((hI.block _ (Put.lt_of_heap hXB.out)).trans hXB.out) lX
    go_wp2_with fail
    first | exact ⟨_, rfl, rfl, Reg.Ext.refl _⟩ | exact ⟨_, rfl, ⟨(), rfl, trivial⟩, Reg.Ext.refl _⟩
  simp only [Act.put, List.setIfInBounds_toArray, List.set_cons_zero, List.set_cons_succ]; (try simp only [List.nil_append]); (try simp only [List.cons_append]); (try simp only [id])
  refine Reg.pass_end ?_
  intro w7 HI7 _ HF7
  clear HF7 s3 s5 s7
  dsimp only [List.drop]
  have hT7 := hTB.out.kept HI7
  obtain ⟨w8, st8, hT8, off8⟩ := put_at hT7 hm.out (chF o y)
  rw [← eX.out] at st8
  rw [← hk.out] at st8
  have hq8 : QOff p (some g) w w8 := (QOff.of_below (hbB.out.trans (HI7.mono hbB.out.size))).trans off8 (NewO.refl _ _)
  replace hT8 := Lib.hid hT8
  replace hq8 := Lib.hid hq8
  clear hT7 off8 HI7
  go_wp2_with fail
  go_ret
  exact hfin.out _ _ rfl hT8.out hq8.out

set_option maxRecDepth 1000000 in
set_option maxHeartbeats 4000000 in
theorem turn_fin_no1 {y : Jb} (h : PV w p (.slice (some ⟨g, 0, none⟩) L.length cap) L) (o : Cl) (h0 : earlyF o = 0) (hm : m < L.length) (hid : o.id = (m : Int) + 1) (hy : L[m]! = y) (hkd : o.kind ≠ 3 ∧ o.kind ≠ 4 ∧ o.kind ≠ 5 ∧ o.kind ≠ 6 ∧ o.kind ≠ 7) (hs : y.state ≠ 3) (h5 : o.state ≠ 5) : Calls Try.prog 15 #[.pointer (some ⟨p, 0, none⟩), .agg (encC o).toArray] w (TurnPost w p (.slice (some ⟨g, 0, none⟩) L.length cap) L o) := by
  have hmix := mixedO
  have zO := zE_op
  have lO := encC_len o
  obtain ⟨k14, hk14⟩ : ∃ k, k = 14 := ⟨_, rfl⟩
  rw [← hk14] at zO lO
  replace hk14 := Lib.hid hk14
  have hb1 := (Below.refl w.heap.size w).alloc (Nat.le_refl _) (.cells (encC o).toArray 38)
  have hC1 := heap_alloc_new w (.cells (encC o).toArray 38)
  have lc := op_load hC1 lO
  have hsz1 : (w.alloc (.cells (encC o).toArray 38)).heap.size = w.heap.size + 1 := by simp
  obtain ⟨w1, hw1⟩ : ∃ w1, w1 = w.alloc (.cells (encC o).toArray 38) := ⟨_, rfl⟩
  rw [← hw1] at hb1 hC1 hsz1
  have hev := early_fn o w1
  rw [h0] at hev
  have he : stepE L (earlyF o) o.id (okF o) = 8 := by
    unfold stepE
    rw [if_neg (by omega), if_neg (by omega), if_neg (by omega), show (o.id - 1).toNat = m from by omega, hy, if_neg (by unfold okF; simp [hkd, hs, h5])]
  have hfin := fun (W : World) (e : Ending) hr hb => turnPost_no (w' := W) (e := e) h he (by decide) hr hb
  clear he
  replace hfin := Lib.hid hfin
  have hle := own_len h.own
  have s3 : (y.2.2.2.2.2.1 != 3) = true := bne_iff_ne.2 hs
  have s5 : (o.state != 5) = true := bne_iff_ne.2 h5
  clear hs h5
  have e3 : (o.kind == 3) = false := beq_eq_false_iff_ne.2 (by omega)
  have e4 : (o.kind == 4) = false := beq_eq_false_iff_ne.2 (by omega)
  have e5 : (o.kind == 5) = false := beq_eq_false_iff_ne.2 (by omega)
  have e6 : (o.kind == 6) = false := beq_eq_false_iff_ne.2 (by omega)
  have e7 : (o.kind == 7) = false := beq_eq_false_iff_ne.2 (by omega)
  clear hkd
  have d1 : decide (o.id < 1) = false := decide_eq_false (by omega)
  have d2 : decide ((L.length : Int) < o.id) = false := decide_eq_false (by omega)
  clear h0
  replace h := Lib.hid h
  have b1 : (m : Int) < (L.length : Int) := by omega
  have b0 : (0 : Int) ≤ (m : Int) := by omega
  have wm : IntKind.i64.wrap (m : Int) = (m : Int) := by rw [IntKind.wrap_i64]; omega
  replace hid := Lib.hid hid
  go_enter Try.func15, Try.ntmps15
  go_wp2_with fail
  go_at_call 33
  rw [← hw1]
  replace hw1 := Lib.hid hw1
  refine hev.mono ?_
  clear hev lc
  rintro e w2 ⟨rfl, o2, rfl⟩
  have hb2 : Below w.heap.size w (w1.alloc o2) := hb1.alloc hb1.size _
  have hC2 : (w1.alloc o2).heap[w.heap.size]? = _ := (Go.heap_alloc_old w1 o2 (by omega)).trans hC1
  have hsz2 : w.heap.size + 1 ≤ (w1.alloc o2).heap.size := by simp [hsz1]
  generalize w1.alloc o2 = w2 at *
  have hT2 := h.out.kept hb2
  have g0 : ∀ n', (w2.drewN n').cell? ⟨p, 0, none⟩ = some (.slice (some ⟨g, 0, none⟩) L.length cap) := fun n' => hT2.c0
  have g2 : ∀ n', (w2.drewN n').cell? ⟨w.heap.size, 10, none⟩ = some (.int .i64 o.id) := fun n' => op_cells hC2 10 _ rfl
  clear hT2
  go_wp2_with fail
  go_quiet (fail)
  clear g0 g2
  have hb3 : Below w.heap.size w (w2.drewN nq) := ⟨hb2.os, hb2.tape, hb2.output, hb2.size, hb2.block⟩
  have hC3 : (w2.drewN nq).heap[w.heap.size]? = _ := hC2
  have hsz3 : w.heap.size + 1 ≤ (w2.drewN nq).heap.size := hsz2
  generalize w2.drewN nq = w3 at *
  clear hb2 hC2 hsz2
  have hT3 := h.out.kept hb3
  have zE := zE_job
  obtain ⟨k, hk⟩ : ∃ k, k = 10 := ⟨_, rfl⟩
  rw [← hk] at zE
  obtain ⟨cI, hcI⟩ : ∃ cI, cI = encJ y := ⟨_, rfl⟩
  have hld : Hid (∀ W, Below w3.heap.size w3 W → Sem.run Try.prog (loadCellsFrom ⟨g, m * k, none⟩ 0 k #[]) W = .ok cI.toArray W) := fun W hW => by
    have := (hT3.kept hW).row.load hk hm
    rw [Nat.zero_add, hy, ← hcI] at this
    exact this
  have lI : cI.length = k := by rw [hcI, hk]; rfl
  replace hk := Lib.hid hk
  replace hcI := Lib.hid hcI
  replace hT3 := Lib.hid hT3
  replace hC3 := Lib.hid hC3
  replace hy := Lib.hid hy
  replace hm := Lib.hid hm
  go_wp2_with fail
  refine Reg.region_mk 10 104 [[], [true], [true, true], [true, true, true], [false, false, false, false], [false, false, false, false, true], [false, false, false, false, true, true], [true, true, true, true, true, true, true], [true, true, true, true, true, true, true, true], [false, false, false, false, false, false, false, false, false]] [0, 0, 0, 1, 0, 1, 0, 0, 1, 1]
    [.pure, .pure, .pure, .minor Unit () (fun _ => .slice (some ⟨g, 0, none⟩) L.length cap) (fun _ _ => True), .pure, .minor Unit () (fun _ => .int .i64 ((m : Int) + 1)) (fun _ _ => True), .pure, .pure, .minor Unit () (fun _ => .agg cI.toArray) (fun _ _ => True), .minor Nat 0 (fun x => .pointer (some ⟨x, 0, none⟩)) (fun x W => W.heap[x]? = some (.cells #[.int .i64 0, .int .i64 0, .int .i64 0, .int .i64 0, .int .i64 0, .int .i64 0, .int .i64 0, .int .i64 0, .int .i64 0, .int .u64 0] 52 (0, 0)) ∧ w3.heap.size ≤ x)]
    (fun W => Below w3.heap.size w3 W) (fun _ _ => True) (fun a b => Below a.heap.size a b) (by kernel_rfl) (by kernel_rfl) rfl rfl (fun vs a b h hs => trivial) ?_ ?_ ?_ ?_ ?_ ?_
  · intro a b he hb; exact hb.trans (Below.mono he hb.size)
  · intro a b he hb; exact hb.trans (Below.mono he hb.size)
  · exact ⟨trivial, trivial, trivial, ⟨fun _ _ _ _ _ => trivial, fun _ _ _ _ _ => trivial⟩, trivial, ⟨fun _ _ _ _ _ => trivial, fun _ _ _ _ _ => trivial⟩, trivial, trivial, ⟨fun _ _ _ _ _ => trivial, fun _ _ _ _ _ => trivial⟩, ⟨fun x a b he h => ⟨(Below.block he x (Put.lt_of_heap h.1)).trans h.1, h.2⟩, fun x a b he h => ⟨(Below.block he x (Put.lt_of_heap h.1)).trans h.1, h.2⟩⟩, trivial⟩
  · exact ⟨rfl, rfl, rfl, Nat.le_refl _, fun _ _ => rfl⟩
  · trivial
  dsimp only [Reg.mk, List.zip, List.zipWith, List.take]
  repeat (refine' Reg.pass_is _ (by rfl) (fun wz => ?_) ?_; rotate_left; (go_simp; first | rfl | rw [if_neg (by omega)]); simp only [Act.put, List.setIfInBounds_toArray, List.set_cons_zero, List.set_cons_succ]; (try simp only [List.nil_append]); (try simp only [List.cons_append]); (try simp only [id]))
  refine Reg.pass_minor (by rfl) (fun wz hI hF => ?_) (fun r3 => ?_)
  · unfold Reg.One
    have d0 := (hT3.out.kept hI).c0
    go_wp2_with fail
    first | exact ⟨_, rfl, rfl, Reg.Ext.refl _⟩ | exact ⟨_, rfl, ⟨(), rfl, trivial⟩, Reg.Ext.refl _⟩
  simp only [Act.put, List.setIfInBounds_toArray, List.set_cons_zero, List.set_cons_succ]; (try simp only [List.nil_append]); (try simp only [List.cons_append]); (try simp only [id])
  repeat (refine' Reg.pass_is _ (by rfl) (fun wz => ?_) ?_; rotate_left; (go_simp; first | rfl | rw [if_neg (by omega)]); simp only [Act.put, List.setIfInBounds_toArray, List.set_cons_zero, List.set_cons_succ]; (try simp only [List.nil_append]); (try simp only [List.cons_append]); (try simp only [id]))
  refine Reg.pass_minor (by rfl) (fun wz hI hF => ?_) (fun r5 => ?_)
  · unfold Reg.One
    have d0 := op_cells (hI.block _ (Put.lt_of_heap hC3.out) |>.trans hC3.out) 10 _ rfl
    rw [hid.out] at d0
    go_wp2_with fail
    first | exact ⟨_, rfl, rfl, Reg.Ext.refl _⟩ | exact ⟨_, rfl, ⟨(), rfl, trivial⟩, Reg.Ext.refl _⟩
  simp only [Act.put, List.setIfInBounds_toArray, List.set_cons_zero, List.set_cons_succ]; (try simp only [List.nil_append]); (try simp only [List.cons_append]); (try simp only [id])
  refine Reg.pass_is (.int .i64 (m : Int)) (by rfl) (fun wz => ?_) ?_
  · go_simp
    (try rw [wm])
  simp only [Act.put, List.setIfInBounds_toArray, List.set_cons_zero, List.set_cons_succ]; (try simp only [List.nil_append]); (try simp only [List.cons_append]); (try simp only [id])
  refine Reg.pass_is (.pointer (some ⟨g, m * k, none⟩)) (by rfl) (fun wz => ?_) ?_
  · go_simp
    (try rw [if_pos ⟨by omega, by omega⟩])
    (try simp)
  simp only [Act.put, List.setIfInBounds_toArray, List.set_cons_zero, List.set_cons_succ]; (try simp only [List.nil_append]); (try simp only [List.cons_append]); (try simp only [id])
  refine Reg.pass_minor (by rfl) (fun wz hI hF => ?_) (fun r8 => ?_)
  · unfold Reg.One
    have d0 := hld.out wz hI
    go_wp2_with fail
    first | exact ⟨_, rfl, rfl, Reg.Ext.refl _⟩ | exact ⟨_, rfl, ⟨(), rfl, trivial⟩, Reg.Ext.refl _⟩
  simp only [Act.put, List.setIfInBounds_toArray, List.set_cons_zero, List.set_cons_succ]; (try simp only [List.nil_append]); (try simp only [List.cons_append]); (try simp only [id])
  refine Reg.pass_minor (by rfl) (fun wz hI hF => ?_) (fun r9 => ?_)
  · unfold Reg.One
    clear zE
    go_wp2_with fail
    exact ⟨_, rfl, ⟨wz.heap.size, rfl, heap_alloc_new wz _, by have := hI.size; omega⟩, (Below.refl wz.heap.size wz).alloc (Nat.le_refl _) _⟩
  simp only [Act.put, List.setIfInBounds_toArray, List.set_cons_zero, List.set_cons_succ]; (try simp only [List.nil_append]); (try simp only [List.cons_append]); (try simp only [id])
  refine Reg.pass_end ?_
  intro w5 HI5 _ HF5
  obtain ⟨hz5, hx5⟩ := HF5.2.2.2.2.2.2.2.2.2.1
  clear HF5 r3 r5 r8
  dsimp only [List.drop]
  obtain ⟨st5, hb6, off6⟩ := put_box (x := y) (cs := [.int .i64 0, .int .i64 0, .int .i64 0, .int .i64 0, .int .i64 0, .int .i64 0, .int .i64 0, .int .i64 0, .int .i64 0, .int .u64 0]) hz5 rfl
  rw [← hcI.out] at st5 hb6 off6
  have hT5 := hT3.out.kept HI5
  have hC5 := (HI5.block _ (Put.lt_of_heap hC3.out)).trans hC3.out
  have hx0 : r9 ≠ p := fun e => by have := hT3.out.lt; omega
  have hxr : w.heap.size ≠ r9 := fun e => by have := Put.lt_of_heap hC3.out; omega
  have hwR : w.heap.size ≤ r9 := by omega
  have hxg : g ≠ r9 := fun e => by have := (hT3.out.own.lt g rfl).2; omega
  have hb5 := hb3.trans (HI5.mono hb3.size)
  obtain ⟨w6, hw6⟩ : ∃ w6, w6 = w5.setRow r9 cI.toArray := ⟨_, rfl⟩
  rw [← hw6] at st5 hb6 off6
  replace hw6 := Lib.hid hw6
  have kI : ∀ j u, (encJ y)[j]? = some u → w6.cell? ⟨r9, j, none⟩ = some u := job_cells (by rw [← hcI.out]; exact hb6)
  have k5 := kI 5 _ rfl
  have f5 : w6.frozen? ⟨r9, 5, none⟩ = false := by simp [World.frozen?, hb6]
  have hC6 := (off6.block w.heap.size (Put.lt_of_heap hC5) hxr hxr).trans hC5
  have q0 := op_cells hC6 0 _ rfl
  have q3 := op_cells hC6 11 _ rfl
  have q4 := op_cells hC6 12 _ rfl
  have hfb := Lib.hid (hb5.trans (off6.below hwR hwR hb5.size))
  clear hb5 hb3 HI5 hz5 hx5 hT5 hC5 off6 hb6 kI hC6 hld hT3 hC3
  go_wp2_with fail
  go_ret
  exact hfin.out _ _ rfl hfb.out

set_option maxRecDepth 1000000 in
set_option maxHeartbeats 4000000 in
theorem turn_fin_no2 {y : Jb} (h : PV w p (.slice (some ⟨g, 0, none⟩) L.length cap) L) (o : Cl) (h0 : earlyF o = 0) (hm : m < L.length) (hid : o.id = (m : Int) + 1) (hy : L[m]! = y) (hkd : o.kind ≠ 3 ∧ o.kind ≠ 4 ∧ o.kind ≠ 5 ∧ o.kind ≠ 6 ∧ o.kind ≠ 7) (hs : y.state ≠ 3) (h5 : o.state = 5) (h2 : ¬ y.state ≤ 2) : Calls Try.prog 15 #[.pointer (some ⟨p, 0, none⟩), .agg (encC o).toArray] w (TurnPost w p (.slice (some ⟨g, 0, none⟩) L.length cap) L o) := by
  have hmix := mixedO
  have zO := zE_op
  have lO := encC_len o
  obtain ⟨k14, hk14⟩ : ∃ k, k = 14 := ⟨_, rfl⟩
  rw [← hk14] at zO lO
  replace hk14 := Lib.hid hk14
  have hb1 := (Below.refl w.heap.size w).alloc (Nat.le_refl _) (.cells (encC o).toArray 38)
  have hC1 := heap_alloc_new w (.cells (encC o).toArray 38)
  have lc := op_load hC1 lO
  have hsz1 : (w.alloc (.cells (encC o).toArray 38)).heap.size = w.heap.size + 1 := by simp
  obtain ⟨w1, hw1⟩ : ∃ w1, w1 = w.alloc (.cells (encC o).toArray 38) := ⟨_, rfl⟩
  rw [← hw1] at hb1 hC1 hsz1
  have hev := early_fn o w1
  rw [h0] at hev
  have he : stepE L (earlyF o) o.id (okF o) = 8 := by
    unfold stepE
    rw [if_neg (by omega), if_neg (by omega), if_neg (by omega), show (o.id - 1).toNat = m from by omega, hy, if_neg (by unfold okF; simp [hkd, hs, h2])]
  have hfin := fun (W : World) (e : Ending) hr hb => turnPost_no (w' := W) (e := e) h he (by decide) hr hb
  clear he
  replace hfin := Lib.hid hfin
  have hle := own_len h.own
  have s3 : (y.2.2.2.2.2.1 != 3) = true := bne_iff_ne.2 hs
  have s5 : (o.state != 5) = false := by rw [h5]; rfl
  have s2 : decide ((2 : Int) < y.2.2.2.2.2.1) = true := decide_eq_true (by have : y.state = y.2.2.2.2.2.1 := rfl; omega)
  clear hs h5 h2
  have e3 : (o.kind == 3) = false := beq_eq_false_iff_ne.2 (by omega)
  have e4 : (o.kind == 4) = false := beq_eq_false_iff_ne.2 (by omega)
  have e5 : (o.kind == 5) = false := beq_eq_false_iff_ne.2 (by omega)
  have e6 : (o.kind == 6) = false := beq_eq_false_iff_ne.2 (by omega)
  have e7 : (o.kind == 7) = false := beq_eq_false_iff_ne.2 (by omega)
  clear hkd
  have d1 : decide (o.id < 1) = false := decide_eq_false (by omega)
  have d2 : decide ((L.length : Int) < o.id) = false := decide_eq_false (by omega)
  clear h0
  replace h := Lib.hid h
  have b1 : (m : Int) < (L.length : Int) := by omega
  have b0 : (0 : Int) ≤ (m : Int) := by omega
  have wm : IntKind.i64.wrap (m : Int) = (m : Int) := by rw [IntKind.wrap_i64]; omega
  replace hid := Lib.hid hid
  go_enter Try.func15, Try.ntmps15
  go_wp2_with fail
  go_at_call 33
  rw [← hw1]
  replace hw1 := Lib.hid hw1
  refine hev.mono ?_
  clear hev lc
  rintro e w2 ⟨rfl, o2, rfl⟩
  have hb2 : Below w.heap.size w (w1.alloc o2) := hb1.alloc hb1.size _
  have hC2 : (w1.alloc o2).heap[w.heap.size]? = _ := (Go.heap_alloc_old w1 o2 (by omega)).trans hC1
  have hsz2 : w.heap.size + 1 ≤ (w1.alloc o2).heap.size := by simp [hsz1]
  generalize w1.alloc o2 = w2 at *
  have hT2 := h.out.kept hb2
  have g0 : ∀ n', (w2.drewN n').cell? ⟨p, 0, none⟩ = some (.slice (some ⟨g, 0, none⟩) L.length cap) := fun n' => hT2.c0
  have g2 : ∀ n', (w2.drewN n').cell? ⟨w.heap.size, 10, none⟩ = some (.int .i64 o.id) := fun n' => op_cells hC2 10 _ rfl
  clear hT2
  go_wp2_with fail
  go_quiet (fail)
  clear g0 g2
  have hb3 : Below w.heap.size w (w2.drewN nq) := ⟨hb2.os, hb2.tape, hb2.output, hb2.size, hb2.block⟩
  have hC3 : (w2.drewN nq).heap[w.heap.size]? = _ := hC2
  have hsz3 : w.heap.size + 1 ≤ (w2.drewN nq).heap.size := hsz2
  generalize w2.drewN nq = w3 at *
  clear hb2 hC2 hsz2
  have hT3 := h.out.kept hb3
  have zE := zE_job
  obtain ⟨k, hk⟩ : ∃ k, k = 10 := ⟨_, rfl⟩
  rw [← hk] at zE
  obtain ⟨cI, hcI⟩ : ∃ cI, cI = encJ y := ⟨_, rfl⟩
  have hld : Hid (∀ W, Below w3.heap.size w3 W → Sem.run Try.prog (loadCellsFrom ⟨g, m * k, none⟩ 0 k #[]) W = .ok cI.toArray W) := fun W hW => by
    have := (hT3.kept hW).row.load hk hm
    rw [Nat.zero_add, hy, ← hcI] at this
    exact this
  have lI : cI.length = k := by rw [hcI, hk]; rfl
  replace hk := Lib.hid hk
  replace hcI := Lib.hid hcI
  replace hT3 := Lib.hid hT3
  replace hC3 := Lib.hid hC3
  replace hy := Lib.hid hy
  replace hm := Lib.hid hm
  go_wp2_with fail
  refine Reg.region_mk 10 104 [[], [true], [true, true], [true, true, true], [false, false, false, false], [false, false, false, false, true], [false, false, false, false, true, true], [true, true, true, true, true, true, true], [true, true, true, true, true, true, true, true], [false, false, false, false, false, false, false, false, false]] [0, 0, 0, 1, 0, 1, 0, 0, 1, 1]
    [.pure, .pure, .pure, .minor Unit () (fun _ => .slice (some ⟨g, 0, none⟩) L.length cap) (fun _ _ => True), .pure, .minor Unit () (fun _ => .int .i64 ((m : Int) + 1)) (fun _ _ => True), .pure, .pure, .minor Unit () (fun _ => .agg cI.toArray) (fun _ _ => True), .minor Nat 0 (fun x => .pointer (some ⟨x, 0, none⟩)) (fun x W => W.heap[x]? = some (.cells #[.int .i64 0, .int .i64 0, .int .i64 0, .int .i64 0, .int .i64 0, .int .i64 0, .int .i64 0, .int .i64 0, .int .i64 0, .int .u64 0] 52 (0, 0)) ∧ w3.heap.size ≤ x)]
    (fun W => Below w3.heap.size w3 W) (fun _ _ => True) (fun a b => Below a.heap.size a b) (by kernel_rfl) (by kernel_rfl) rfl rfl (fun vs a b h hs => trivial) ?_ ?_ ?_ ?_ ?_ ?_
  · intro a b he hb; exact hb.trans (Below.mono he hb.size)
  · intro a b he hb; exact hb.trans (Below.mono he hb.size)
  · exact ⟨trivial, trivial, trivial, ⟨fun _ _ _ _ _ => trivial, fun _ _ _ _ _ => trivial⟩, trivial, ⟨fun _ _ _ _ _ => trivial, fun _ _ _ _ _ => trivial⟩, trivial, trivial, ⟨fun _ _ _ _ _ => trivial, fun _ _ _ _ _ => trivial⟩, ⟨fun x a b he h => ⟨(Below.block he x (Put.lt_of_heap h.1)).trans h.1, h.2⟩, fun x a b he h => ⟨(Below.block he x (Put.lt_of_heap h.1)).trans h.1, h.2⟩⟩, trivial⟩
  · exact ⟨rfl, rfl, rfl, Nat.le_refl _, fun _ _ => rfl⟩
  · trivial
  dsimp only [Reg.mk, List.zip, List.zipWith, List.take]
  repeat (refine' Reg.pass_is _ (by rfl) (fun wz => ?_) ?_; rotate_left; (go_simp; first | rfl | rw [if_neg (by omega)]); simp only [Act.put, List.setIfInBounds_toArray, List.set_cons_zero, List.set_cons_succ]; (try simp only [List.nil_append]); (try simp only [List.cons_append]); (try simp only [id]))
  refine Reg.pass_minor (by rfl) (fun wz hI hF => ?_) (fun r3 => ?_)
  · unfold Reg.One
    have d0 := (hT3.out.kept hI).c0
    go_wp2_with fail
    first | exact ⟨_, rfl, rfl, Reg.Ext.refl _⟩ | exact ⟨_, rfl, ⟨(), rfl, trivial⟩, Reg.Ext.refl _⟩
  simp only [Act.put, List.setIfInBounds_toArray, List.set_cons_zero, List.set_cons_succ]; (try simp only [List.nil_append]); (try simp only [List.cons_append]); (try simp only [id])
  repeat (refine' Reg.pass_is _ (by rfl) (fun wz => ?_) ?_; rotate_left; (go_simp; first | rfl | rw [if_neg (by omega)]); simp only [Act.put, List.setIfInBounds_toArray, List.set_cons_zero, List.set_cons_succ]; (try simp only [List.nil_append]); (try simp only [List.cons_append]); (try simp only [id]))
  refine Reg.pass_minor (by rfl) (fun wz hI hF => ?_) (fun r5 => ?_)
  · unfold Reg.One
    have d0 := op_cells (hI.block _ (Put.lt_of_heap hC3.out) |>.trans hC3.out) 10 _ rfl
    rw [hid.out] at d0
    go_wp2_with fail
    first | exact ⟨_, rfl, rfl, Reg.Ext.refl _⟩ | exact ⟨_, rfl, ⟨(), rfl, trivial⟩, Reg.Ext.refl _⟩
  simp only [Act.put, List.setIfInBounds_toArray, List.set_cons_zero, List.set_cons_succ]; (try simp only [List.nil_append]); (try simp only [List.cons_append]); (try simp only [id])
  refine Reg.pass_is (.int .i64 (m : Int)) (by rfl) (fun wz => ?_) ?_
  · go_simp
    (try rw [wm])
  simp only [Act.put, List.setIfInBounds_toArray, List.set_cons_zero, List.set_cons_succ]; (try simp only [List.nil_append]); (try simp only [List.cons_append]); (try simp only [id])
  refine Reg.pass_is (.pointer (some ⟨g, m * k, none⟩)) (by rfl) (fun wz => ?_) ?_
  · go_simp
    (try rw [if_pos ⟨by omega, by omega⟩])
    (try simp)
  simp only [Act.put, List.setIfInBounds_toArray, List.set_cons_zero, List.set_cons_succ]; (try simp only [List.nil_append]); (try simp only [List.cons_append]); (try simp only [id])
  refine Reg.pass_minor (by rfl) (fun wz hI hF => ?_) (fun r8 => ?_)
  · unfold Reg.One
    have d0 := hld.out wz hI
    go_wp2_with fail
    first | exact ⟨_, rfl, rfl, Reg.Ext.refl _⟩ | exact ⟨_, rfl, ⟨(), rfl, trivial⟩, Reg.Ext.refl _⟩
  simp only [Act.put, List.setIfInBounds_toArray, List.set_cons_zero, List.set_cons_succ]; (try simp only [List.nil_append]); (try simp only [List.cons_append]); (try simp only [id])
  refine Reg.pass_minor (by rfl) (fun wz hI hF => ?_) (fun r9 => ?_)
  · unfold Reg.One
    clear zE
    go_wp2_with fail
    exact ⟨_, rfl, ⟨wz.heap.size, rfl, heap_alloc_new wz _, by have := hI.size; omega⟩, (Below.refl wz.heap.size wz).alloc (Nat.le_refl _) _⟩
  simp only [Act.put, List.setIfInBounds_toArray, List.set_cons_zero, List.set_cons_succ]; (try simp only [List.nil_append]); (try simp only [List.cons_append]); (try simp only [id])
  refine Reg.pass_end ?_
  intro w5 HI5 _ HF5
  obtain ⟨hz5, hx5⟩ := HF5.2.2.2.2.2.2.2.2.2.1
  clear HF5 r3 r5 r8
  dsimp only [List.drop]
  obtain ⟨st5, hb6, off6⟩ := put_box (x := y) (cs := [.int .i64 0, .int .i64 0, .int .i64 0, .int .i64 0, .int .i64 0, .int .i64 0, .int .i64 0, .int .i64 0, .int .i64 0, .int .u64 0]) hz5 rfl
  rw [← hcI.out] at st5 hb6 off6
  have hT5 := hT3.out.kept HI5
  have hC5 := (HI5.block _ (Put.lt_of_heap hC3.out)).trans hC3.out
  have hx0 : r9 ≠ p := fun e => by have := hT3.out.lt; omega
  have hxr : w.heap.size ≠ r9 := fun e => by have := Put.lt_of_heap hC3.out; omega
  have hwR : w.heap.size ≤ r9 := by omega
  have hxg : g ≠ r9 := fun e => by have := (hT3.out.own.lt g rfl).2; omega
  have hb5 := hb3.trans (HI5.mono hb3.size)
  obtain ⟨w6, hw6⟩ : ∃ w6, w6 = w5.setRow r9 cI.toArray := ⟨_, rfl⟩
  rw [← hw6] at st5 hb6 off6
  replace hw6 := Lib.hid hw6
  have kI : ∀ j u, (encJ y)[j]? = some u → w6.cell? ⟨r9, j, none⟩ = some u := job_cells (by rw [← hcI.out]; exact hb6)
  have k5 := kI 5 _ rfl
  have f5 : w6.frozen? ⟨r9, 5, none⟩ = false := by simp [World.frozen?, hb6]
  have hC6 := (off6.block w.heap.size (Put.lt_of_heap hC5) hxr hxr).trans hC5
  have q0 := op_cells hC6 0 _ rfl
  have q3 := op_cells hC6 11 _ rfl
  have q4 := op_cells hC6 12 _ rfl
  have hfb := Lib.hid (hb5.trans (off6.below hwR hwR hb5.size))
  clear hb5 hb3 HI5 hz5 hx5 hT5 hC5 off6 hb6 kI hC6 hld hT3 hC3
  go_wp2_with fail
  go_ret
  exact hfin.out _ _ rfl hfb.out

set_option maxRecDepth 1000000 in
set_option maxHeartbeats 4000000 in
theorem turn_fin_run {y : Jb} (h : PV w p (.slice (some ⟨g, 0, none⟩) L.length cap) L) (o : Cl) (h0 : earlyF o = 0) (hm : m < L.length) (hid : o.id = (m : Int) + 1) (hy : L[m]! = y) (hkd : o.kind ≠ 3 ∧ o.kind ≠ 4 ∧ o.kind ≠ 5 ∧ o.kind ≠ 6 ∧ o.kind ≠ 7) (hs : y.state = 3) : Calls Try.prog 15 #[.pointer (some ⟨p, 0, none⟩), .agg (encC o).toArray] w (TurnPost w p (.slice (some ⟨g, 0, none⟩) L.length cap) L o) := by
  have hmix := mixedO
  have zO := zE_op
  have lO := encC_len o
  obtain ⟨k14, hk14⟩ : ∃ k, k = 14 := ⟨_, rfl⟩
  rw [← hk14] at zO lO
  replace hk14 := Lib.hid hk14
  have hb1 := (Below.refl w.heap.size w).alloc (Nat.le_refl _) (.cells (encC o).toArray 38)
  have hC1 := heap_alloc_new w (.cells (encC o).toArray 38)
  have lc := op_load hC1 lO
  have hsz1 : (w.alloc (.cells (encC o).toArray 38)).heap.size = w.heap.size + 1 := by simp
  obtain ⟨w1, hw1⟩ : ∃ w1, w1 = w.alloc (.cells (encC o).toArray 38) := ⟨_, rfl⟩
  rw [← hw1] at hb1 hC1 hsz1
  have hev := early_fn o w1
  rw [h0] at hev
  have hfin := fun (W : World) (e : Ending) hr hP hq => turnPost_yes (w := w) (w' := W) (p := p) (v := .slice (some ⟨g, 0, none⟩) L.length cap) (e := e) (o := o) (y := y) h0 hm hid hy (by unfold okF; simp [hkd, hs]) hr hP hq
  have hch : chF o y = (y.1, y.2.1, y.2.2.1, y.2.2.2.1, y.2.2.2.2.1, o.state, y.2.2.2.2.2.2.1, o.at_, -1, y.2.2.2.2.2.2.2.2.2) := by unfold chF finishJ; rw [if_neg hkd.1, if_neg hkd.2.1, if_neg hkd.2.2.1, if_neg hkd.2.2.2.1, if_neg hkd.2.2.2.2, if_pos (show y.2.2.2.2.2.1 = 3 from hs)]
  replace hfin := Lib.hid hfin
  have hle := own_len h.own
  have s3 : (y.2.2.2.2.2.1 != 3) = false := by rw [show y.2.2.2.2.2.1 = 3 from hs]; rfl
  have s3e : (y.2.2.2.2.2.1 == 3) = true := by rw [show y.2.2.2.2.2.1 = 3 from hs]; rfl
  clear hs
  have e3 : (o.kind == 3) = false := beq_eq_false_iff_ne.2 (by omega)
  have e4 : (o.kind == 4) = false := beq_eq_false_iff_ne.2 (by omega)
  have e5 : (o.kind == 5) = false := beq_eq_false_iff_ne.2 (by omega)
  have e6 : (o.kind == 6) = false := beq_eq_false_iff_ne.2 (by omega)
  have e7 : (o.kind == 7) = false := beq_eq_false_iff_ne.2 (by omega)
  clear hkd
  have d1 : decide (o.id < 1) = false := decide_eq_false (by omega)
  have d2 : decide ((L.length : Int) < o.id) = false := decide_eq_false (by omega)
  clear h0
  replace h := Lib.hid h
  have b1 : (m : Int) < (L.length : Int) := by omega
  have b0 : (0 : Int) ≤ (m : Int) := by omega
  have wm : IntKind.i64.wrap (m : Int) = (m : Int) := by rw [IntKind.wrap_i64]; omega
  replace hid := Lib.hid hid
  go_enter Try.func15, Try.ntmps15
  go_wp2_with fail
  go_at_call 33
  rw [← hw1]
  replace hw1 := Lib.hid hw1
  refine hev.mono ?_
  clear hev lc
  rintro e w2 ⟨rfl, o2, rfl⟩
  have hb2 : Below w.heap.size w (w1.alloc o2) := hb1.alloc hb1.size _
  have hC2 : (w1.alloc o2).heap[w.heap.size]? = _ := (Go.heap_alloc_old w1 o2 (by omega)).trans hC1
  have hsz2 : w.heap.size + 1 ≤ (w1.alloc o2).heap.size := by simp [hsz1]
  generalize w1.alloc o2 = w2 at *
  have hT2 := h.out.kept hb2
  have g0 : ∀ n', (w2.drewN n').cell? ⟨p, 0, none⟩ = some (.slice (some ⟨g, 0, none⟩) L.length cap) := fun n' => hT2.c0
  have g2 : ∀ n', (w2.drewN n').cell? ⟨w.heap.size, 10, none⟩ = some (.int .i64 o.id) := fun n' => op_cells hC2 10 _ rfl
  clear hT2
  go_wp2_with fail
  go_quiet (fail)
  clear g0 g2
  have hb3 : Below w.heap.size w (w2.drewN nq) := ⟨hb2.os, hb2.tape, hb2.output, hb2.size, hb2.block⟩
  have hC3 : (w2.drewN nq).heap[w.heap.size]? = _ := hC2
  have hsz3 : w.heap.size + 1 ≤ (w2.drewN nq).heap.size := hsz2
  generalize w2.drewN nq = w3 at *
  clear hb2 hC2 hsz2
  have hT3 := h.out.kept hb3
  have zE := zE_job
  obtain ⟨k, hk⟩ : ∃ k, k = 10 := ⟨_, rfl⟩
  rw [← hk] at zE
  obtain ⟨cI, hcI⟩ : ∃ cI, cI = encJ y := ⟨_, rfl⟩
  have hld : Hid (∀ W, Below w3.heap.size w3 W → Sem.run Try.prog (loadCellsFrom ⟨g, m * k, none⟩ 0 k #[]) W = .ok cI.toArray W) := fun W hW => by
    have := (hT3.kept hW).row.load hk hm
    rw [Nat.zero_add, hy, ← hcI] at this
    exact this
  have lI : cI.length = k := by rw [hcI, hk]; rfl
  replace hk := Lib.hid hk
  replace hcI := Lib.hid hcI
  replace hT3 := Lib.hid hT3
  replace hC3 := Lib.hid hC3
  replace hy := Lib.hid hy
  replace hm := Lib.hid hm
  go_wp2_with fail
  refine Reg.region_mk 10 104 [[], [true], [true, true], [true, true, true], [false, false, false, false], [false, false, false, false, true], [false, false, false, false, true, true], [true, true, true, true, true, true, true], [true, true, true, true, true, true, true, true], [false, false, false, false, false, false, false, false, false]] [0, 0, 0, 1, 0, 1, 0, 0, 1, 1]
    [.pure, .pure, .pure, .minor Unit () (fun _ => .slice (some ⟨g, 0, none⟩) L.length cap) (fun _ _ => True), .pure, .minor Unit () (fun _ => .int .i64 ((m : Int) + 1)) (fun _ _ => True), .pure, .pure, .minor Unit () (fun _ => .agg cI.toArray) (fun _ _ => True), .minor Nat 0 (fun x => .pointer (some ⟨x, 0, none⟩)) (fun x W => W.heap[x]? = some (.cells #[.int .i64 0, .int .i64 0, .int .i64 0, .int .i64 0, .int .i64 0, .int .i64 0, .int .i64 0, .int .i64 0, .int .i64 0, .int .u64 0] 52 (0, 0)) ∧ w3.heap.size ≤ x)]
    (fun W => Below w3.heap.size w3 W) (fun _ _ => True) (fun a b => Below a.heap.size a b) (by kernel_rfl) (by kernel_rfl) rfl rfl (fun vs a b h hs => trivial) ?_ ?_ ?_ ?_ ?_ ?_
  · intro a b he hb; exact hb.trans (Below.mono he hb.size)
  · intro a b he hb; exact hb.trans (Below.mono he hb.size)
  · exact ⟨trivial, trivial, trivial, ⟨fun _ _ _ _ _ => trivial, fun _ _ _ _ _ => trivial⟩, trivial, ⟨fun _ _ _ _ _ => trivial, fun _ _ _ _ _ => trivial⟩, trivial, trivial, ⟨fun _ _ _ _ _ => trivial, fun _ _ _ _ _ => trivial⟩, ⟨fun x a b he h => ⟨(Below.block he x (Put.lt_of_heap h.1)).trans h.1, h.2⟩, fun x a b he h => ⟨(Below.block he x (Put.lt_of_heap h.1)).trans h.1, h.2⟩⟩, trivial⟩
  · exact ⟨rfl, rfl, rfl, Nat.le_refl _, fun _ _ => rfl⟩
  · trivial
  dsimp only [Reg.mk, List.zip, List.zipWith, List.take]
  repeat (refine' Reg.pass_is _ (by rfl) (fun wz => ?_) ?_; rotate_left; (go_simp; first | rfl | rw [if_neg (by omega)]); simp only [Act.put, List.setIfInBounds_toArray, List.set_cons_zero, List.set_cons_succ]; (try simp only [List.nil_append]); (try simp only [List.cons_append]); (try simp only [id]))
  refine Reg.pass_minor (by rfl) (fun wz hI hF => ?_) (fun r3 => ?_)
  · unfold Reg.One
    have d0 := (hT3.out.kept hI).c0
    go_wp2_with fail
    first | exact ⟨_, rfl, rfl, Reg.Ext.refl _⟩ | exact ⟨_, rfl, ⟨(), rfl, trivial⟩, Reg.Ext.refl _⟩
  simp only [Act.put, List.setIfInBounds_toArray, List.set_cons_zero, List.set_cons_succ]; (try simp only [List.nil_append]); (try simp only [List.cons_append]); (try simp only [id])
  repeat (refine' Reg.pass_is _ (by rfl) (fun wz => ?_) ?_; rotate_left; (go_simp; first | rfl | rw [if_neg (by omega)]); simp only [Act.put, List.setIfInBounds_toArray, List.set_cons_zero, List.set_cons_succ]; (try simp only [List.nil_append]); (try simp only [List.cons_append]); (try simp only [id]))
  refine Reg.pass_minor (by rfl) (fun wz hI hF => ?_) (fun r5 => ?_)
  · unfold Reg.One
    have d0 := op_cells (hI.block _ (Put.lt_of_heap hC3.out) |>.trans hC3.out) 10 _ rfl
    rw [hid.out] at d0
    go_wp2_with fail
    first | exact ⟨_, rfl, rfl, Reg.Ext.refl _⟩ | exact ⟨_, rfl, ⟨(), rfl, trivial⟩, Reg.Ext.refl _⟩
  simp only [Act.put, List.setIfInBounds_toArray, List.set_cons_zero, List.set_cons_succ]; (try simp only [List.nil_append]); (try simp only [List.cons_append]); (try simp only [id])
  refine Reg.pass_is (.int .i64 (m : Int)) (by rfl) (fun wz => ?_) ?_
  · go_simp
    (try rw [wm])
  simp only [Act.put, List.setIfInBounds_toArray, List.set_cons_zero, List.set_cons_succ]; (try simp only [List.nil_append]); (try simp only [List.cons_append]); (try simp only [id])
  refine Reg.pass_is (.pointer (some ⟨g, m * k, none⟩)) (by rfl) (fun wz => ?_) ?_
  · go_simp
    (try rw [if_pos ⟨by omega, by omega⟩])
    (try simp)
  simp only [Act.put, List.setIfInBounds_toArray, List.set_cons_zero, List.set_cons_succ]; (try simp only [List.nil_append]); (try simp only [List.cons_append]); (try simp only [id])
  refine Reg.pass_minor (by rfl) (fun wz hI hF => ?_) (fun r8 => ?_)
  · unfold Reg.One
    have d0 := hld.out wz hI
    go_wp2_with fail
    first | exact ⟨_, rfl, rfl, Reg.Ext.refl _⟩ | exact ⟨_, rfl, ⟨(), rfl, trivial⟩, Reg.Ext.refl _⟩
  simp only [Act.put, List.setIfInBounds_toArray, List.set_cons_zero, List.set_cons_succ]; (try simp only [List.nil_append]); (try simp only [List.cons_append]); (try simp only [id])
  refine Reg.pass_minor (by rfl) (fun wz hI hF => ?_) (fun r9 => ?_)
  · unfold Reg.One
    clear zE
    go_wp2_with fail
    exact ⟨_, rfl, ⟨wz.heap.size, rfl, heap_alloc_new wz _, by have := hI.size; omega⟩, (Below.refl wz.heap.size wz).alloc (Nat.le_refl _) _⟩
  simp only [Act.put, List.setIfInBounds_toArray, List.set_cons_zero, List.set_cons_succ]; (try simp only [List.nil_append]); (try simp only [List.cons_append]); (try simp only [id])
  refine Reg.pass_end ?_
  intro w5 HI5 _ HF5
  obtain ⟨hz5, hx5⟩ := HF5.2.2.2.2.2.2.2.2.2.1
  clear HF5 r3 r5 r8
  dsimp only [List.drop]
  obtain ⟨st5, hb6, off6⟩ := put_box (x := y) (cs := [.int .i64 0, .int .i64 0, .int .i64 0, .int .i64 0, .int .i64 0, .int .i64 0, .int .i64 0, .int .i64 0, .int .i64 0, .int .u64 0]) hz5 rfl
  rw [← hcI.out] at st5 hb6 off6
  have hT5 := hT3.out.kept HI5
  have hC5 := (HI5.block _ (Put.lt_of_heap hC3.out)).trans hC3.out
  have hx0 : r9 ≠ p := fun e => by have := hT3.out.lt; omega
  have hxr : w.heap.size ≠ r9 := fun e => by have := Put.lt_of_heap hC3.out; omega
  have hwR : w.heap.size ≤ r9 := by omega
  have hxg : g ≠ r9 := fun e => by have := (hT3.out.own.lt g rfl).2; omega
  have hb5 := hb3.trans (HI5.mono hb3.size)
  obtain ⟨w6, hw6⟩ : ∃ w6, w6 = w5.setRow r9 cI.toArray := ⟨_, rfl⟩
  rw [← hw6] at st5 hb6 off6
  replace hw6 := Lib.hid hw6
  have kI : ∀ j u, (encJ y)[j]? = some u → w6.cell? ⟨r9, j, none⟩ = some u := job_cells (by rw [← hcI.out]; exact hb6)
  have k5 := kI 5 _ rfl
  have f5 : w6.frozen? ⟨r9, 5, none⟩ = false := by simp [World.frozen?, hb6]
  have k7 := kI 7 _ rfl
  have f7 : w6.frozen? ⟨r9, 7, none⟩ = false := by simp [World.frozen?, hb6]
  have k8 := kI 8 _ rfl
  have f8 : w6.frozen? ⟨r9, 8, none⟩ = false := by simp [World.frozen?, hb6]
  have hC6 := (off6.block w.heap.size (Put.lt_of_heap hC5) hxr hxr).trans hC5
  have q0 := op_cells hC6 0 _ rfl
  have q3 := op_cells hC6 11 _ rfl
  have q4 := op_cells hC6 12 _ rfl
  have hT6 : PV w6 p (.slice (some ⟨g, 0, none⟩) L.length cap) L := ⟨(off6.block p hT5.lt hx0.symm hx0.symm).trans hT5.cell, off6.own hT5.own fun k hk => by
    have : g = k := by simpa [Value.ownBlock] using hk
    subst this
    exact ⟨hxg, hxg⟩⟩
  obtain ⟨sb0, so0⟩ := set_box (j := 7) (u := .int .i64 o.at_) hb6
  obtain ⟨sb1, so1⟩ := set_box (j := 5) (u := .int .i64 o.state) sb0
  obtain ⟨sb2, so2⟩ := set_box (j := 8) (u := .int .i64 (-1)) sb1
  have offB := ((((Off.refl r9 r9 w6).trans so0 (.inl rfl)).trans so1 (.inl rfl)).trans so2 (.inl rfl))
  obtain ⟨wB, hwB⟩ : ∃ wB, wB = (((w6.setCell ⟨r9, 7, none⟩ (.int .i64 o.at_)).setCell ⟨r9, 5, none⟩ (.int .i64 o.state)).setCell ⟨r9, 8, none⟩ (.int .i64 (-1))) := ⟨_, rfl⟩
  obtain ⟨cX, hcX⟩ : ∃ cX, cX = (((cI.set 7 (.int .i64 o.at_)).set 5 (.int .i64 o.state)).set 8 (.int .i64 (-1))) := ⟨_, rfl⟩
  have hXB := sb2
  rw [← hwB] at hXB offB
  rw [← hcX] at hXB
  have eX : cX = encJ (chF o y) := by rw [hcX, hcI.out, hch]; rfl
  have lX : cX.length = k := by rw [eX, hk.out]; rfl
  have hTB : PV wB p (.slice (some ⟨g, 0, none⟩) L.length cap) L := ⟨(offB.block p hT6.lt hx0.symm hx0.symm).trans hT6.cell, offB.own hT6.own fun k hk => by
    have : g = k := by simpa [Value.ownBlock] using hk
    subst this
    exact ⟨hxg, hxg⟩⟩
  have hCB := (offB.block w.heap.size (Put.lt_of_heap hC6) hxr hxr).trans hC6
  have hbB : Below w.heap.size w wB := (hb5.trans (off6.below hwR hwR hb5.size)).trans (offB.below hwR hwR (Nat.le_trans hb5.size off6.size))
  clear offB sb0 so0 sb1 so1 sb2 so2 hT6 hC6 hT5 hC5 off6 hb6 kI hz5 hx5 HI5 hb3 hb5 hT3 hC3 hld hch
  replace hTB := Lib.hid hTB
  replace hCB := Lib.hid hCB
  replace hXB := Lib.hid hXB
  replace hbB := Lib.hid hbB
  replace eX := Lib.hid eX
  replace hcX := Lib.hid hcX
  replace hwB := Lib.hid hwB
  go_wp2_with fail
  rw [← hwB.out]
  refine Reg.region_mk 8 104 [[], [true], [true, true], [true, true, true], [false, false, false, false], [false, false, false, false, true], [false, false, false, false, true, true], [false, false, false, false, false, false, false]] [0, 0, 0, 1, 0, 1, 0, 1]
    [.pure, .pure, .pure, .minor Unit () (fun _ => .slice (some ⟨g, 0, none⟩) L.length cap) (fun _ _ => True), .pure, .minor Unit () (fun _ => .int .i64 ((m : Int) + 1)) (fun _ _ => True), .pure, .minor Unit () (fun _ => .agg cX.toArray) (fun _ _ => True)]
    (fun W => Below wB.heap.size wB W) (fun _ _ => True) (fun a b => Below a.heap.size a b) (by kernel_rfl) (by kernel_rfl) rfl rfl (fun vs a b h hs => trivial) ?_ ?_ ?_ ?_ ?_ ?_
  · intro a b he hb; exact hb.trans (Below.mono he hb.size)
  · intro a b he hb; exact hb.trans (Below.mono he hb.size)
  · exact ⟨trivial, trivial, trivial, ⟨fun _ _ _ _ _ => trivial, fun _ _ _ _ _ => trivial⟩, trivial, ⟨fun _ _ _ _ _ => trivial, fun _ _ _ _ _ => trivial⟩, trivial, ⟨fun _ _ _ _ _ => trivial, fun _ _ _ _ _ => trivial⟩, trivial⟩
  · exact ⟨rfl, rfl, rfl, Nat.le_refl _, fun _ _ => rfl⟩
  · trivial
  dsimp only [Reg.mk, List.zip, List.zipWith, List.take]
  repeat (refine' Reg.pass_is _ (by rfl) (fun wz => ?_) ?_; rotate_left; (go_simp; first | rfl | rw [if_neg (by omega)]); simp only [Act.put, List.setIfInBounds_toArray, List.set_cons_zero, List.set_cons_succ]; (try simp only [List.nil_append]); (try simp only [List.cons_append]); (try simp only [id]))
  refine Reg.pass_minor (by rfl) (fun wz hI hF => ?_) (fun s3 => ?_)
  · unfold Reg.One
    have d0 := (hTB.out.kept hI).c0
    go_wp2_with fail
    first | exact ⟨_, rfl, rfl, Reg.Ext.refl _⟩ | exact ⟨_, rfl, ⟨(), rfl, trivial⟩, Reg.Ext.refl _⟩
  simp only [Act.put, List.setIfInBounds_toArray, List.set_cons_zero, List.set_cons_succ]; (try simp only [List.nil_append]); (try simp only [List.cons_append]); (try simp only [id])
  repeat (refine' Reg.pass_is _ (by rfl) (fun wz => ?_) ?_; rotate_left; (go_simp; first | rfl | rw [if_neg (by omega)]); simp only [Act.put, List.setIfInBounds_toArray, List.set_cons_zero, List.set_cons_succ]; (try simp only [List.nil_append]); (try simp only [List.cons_append]); (try simp only [id]))
  refine Reg.pass_minor (by rfl) (fun wz hI hF => ?_) (fun s5 => ?_)
  · unfold Reg.One
    have d0 := op_cells (hI.block _ (Put.lt_of_heap hCB.out) |>.trans hCB.out) 10 _ rfl
    rw [hid.out] at d0
    go_wp2_with fail
    first | exact ⟨_, rfl, rfl, Reg.Ext.refl _⟩ | exact ⟨_, rfl, ⟨(), rfl, trivial⟩, Reg.Ext.refl _⟩
  simp only [Act.put, List.setIfInBounds_toArray, List.set_cons_zero, List.set_cons_succ]; (try simp only [List.nil_append]); (try simp only [List.cons_append]); (try simp only [id])
  refine Reg.pass_is (.int .i64 (m : Int)) (by rfl) (fun wz => ?_) ?_
  · go_simp
    (try rw [wm])
  simp only [Act.put, List.setIfInBounds_toArray, List.set_cons_zero, List.set_cons_succ]; (try simp only [List.nil_append]); (try simp only [List.cons_append]); (try simp only [id])
  refine Reg.pass_minor (by rfl) (fun wz hI hF => ?_) (fun s7 => ?_)
  · unfold Reg.One
    have d0 := load_box ((hI.block _ (Put.lt_of_heap hXB.out)).trans hXB.out) lX
    go_wp2_with fail
    first | exact ⟨_, rfl, rfl, Reg.Ext.refl _⟩ | exact ⟨_, rfl, ⟨(), rfl, trivial⟩, Reg.Ext.refl _⟩
  simp only [Act.put, List.setIfInBounds_toArray, List.set_cons_zero, List.set_cons_succ]; (try simp only [List.nil_append]); (try simp only [List.cons_append]); (try simp only [id])
  refine Reg.pass_end ?_
  intro w7 HI7 _ HF7
  clear HF7 s3 s5 s7
  dsimp only [List.drop]
  have hT7 := hTB.out.kept HI7
  obtain ⟨w8, st8, hT8, off8⟩ := put_at hT7 hm.out (chF o y)
  rw [← eX.out] at st8
  rw [← hk.out] at st8
  have hq8 : QOff p (some g) w w8 := (QOff.of_below (hbB.out.trans (HI7.mono hbB.out.size))).trans off8 (NewO.refl _ _)
  replace hT8 := Lib.hid hT8
  replace hq8 := Lib.hid hq8
  clear hT7 off8 HI7
  go_wp2_with fail
  go_ret
  exact hfin.out _ _ rfl hT8.out hq8.out

set_option maxRecDepth 1000000 in
set_option maxHeartbeats 4000000 in
theorem turn_fin_wait {y : Jb} (h : PV w p (.slice (some ⟨g, 0, none⟩) L.length cap) L) (o : Cl) (h0 : earlyF o = 0) (hm : m < L.length) (hid : o.id = (m : Int) + 1) (hy : L[m]! = y) (hkd : o.kind ≠ 3 ∧ o.kind ≠ 4 ∧ o.kind ≠ 5 ∧ o.kind ≠ 6 ∧ o.kind ≠ 7) (hs : y.state ≠ 3) (h5 : o.state = 5) (h2 : y.state ≤ 2) : Calls Try.prog 15 #[.pointer (some ⟨p, 0, none⟩), .agg (encC o).toArray] w (TurnPost w p (.slice (some ⟨g, 0, none⟩) L.length cap) L o) := by
  have hmix := mixedO
  have zO := zE_op
  have lO := encC_len o
  obtain ⟨k14, hk14⟩ : ∃ k, k = 14 := ⟨_, rfl⟩
  rw [← hk14] at zO lO
  replace hk14 := Lib.hid hk14
  have hb1 := (Below.refl w.heap.size w).alloc (Nat.le_refl _) (.cells (encC o).toArray 38)
  have hC1 := heap_alloc_new w (.cells (encC o).toArray 38)
  have lc := op_load hC1 lO
  have hsz1 : (w.alloc (.cells (encC o).toArray 38)).heap.size = w.heap.size + 1 := by simp
  obtain ⟨w1, hw1⟩ : ∃ w1, w1 = w.alloc (.cells (encC o).toArray 38) := ⟨_, rfl⟩
  rw [← hw1] at hb1 hC1 hsz1
  have hev := early_fn o w1
  rw [h0] at hev
  have hfin := fun (W : World) (e : Ending) hr hP hq => turnPost_yes (w := w) (w' := W) (p := p) (v := .slice (some ⟨g, 0, none⟩) L.length cap) (e := e) (o := o) (y := y) h0 hm hid hy (by unfold okF; simp [hkd, h5, h2]) hr hP hq
  have hch : chF o y = (y.1, y.2.1, y.2.2.1, y.2.2.2.1, y.2.2.2.2.1, o.state, y.2.2.2.2.2.2.1, y.2.2.2.2.2.2.2.1, -1, y.2.2.2.2.2.2.2.2.2) := by unfold chF finishJ; rw [if_neg hkd.1, if_neg hkd.2.1, if_neg hkd.2.2.1, if_neg hkd.2.2.2.1, if_neg hkd.2.2.2.2, if_neg (show ¬ y.2.2.2.2.2.1 = 3 from hs)]
  replace hfin := Lib.hid hfin
  have hle := own_len h.own
  have s3 : (y.2.2.2.2.2.1 != 3) = true := bne_iff_ne.2 hs
  have s3e : (y.2.2.2.2.2.1 == 3) = false := beq_eq_false_iff_ne.2 hs
  have s5 : (o.state != 5) = false := by rw [h5]; rfl
  have s2 : decide ((2 : Int) < y.2.2.2.2.2.1) = false := decide_eq_false (by have : y.state = y.2.2.2.2.2.1 := rfl; omega)
  clear hs h5 h2
  have e3 : (o.kind == 3) = false := beq_eq_false_iff_ne.2 (by omega)
  have e4 : (o.kind == 4) = false := beq_eq_false_iff_ne.2 (by omega)
  have e5 : (o.kind == 5) = false := beq_eq_false_iff_ne.2 (by omega)
  have e6 : (o.kind == 6) = false := beq_eq_false_iff_ne.2 (by omega)
  have e7 : (o.kind == 7) = false := beq_eq_false_iff_ne.2 (by omega)
  clear hkd
  have d1 : decide (o.id < 1) = false := decide_eq_false (by omega)
  have d2 : decide ((L.length : Int) < o.id) = false := decide_eq_false (by omega)
  clear h0
  replace h := Lib.hid h
  have b1 : (m : Int) < (L.length : Int) := by omega
  have b0 : (0 : Int) ≤ (m : Int) := by omega
  have wm : IntKind.i64.wrap (m : Int) = (m : Int) := by rw [IntKind.wrap_i64]; omega
  replace hid := Lib.hid hid
  go_enter Try.func15, Try.ntmps15
  go_wp2_with fail
  go_at_call 33
  rw [← hw1]
  replace hw1 := Lib.hid hw1
  refine hev.mono ?_
  clear hev lc
  rintro e w2 ⟨rfl, o2, rfl⟩
  have hb2 : Below w.heap.size w (w1.alloc o2) := hb1.alloc hb1.size _
  have hC2 : (w1.alloc o2).heap[w.heap.size]? = _ := (Go.heap_alloc_old w1 o2 (by omega)).trans hC1
  have hsz2 : w.heap.size + 1 ≤ (w1.alloc o2).heap.size := by simp [hsz1]
  generalize w1.alloc o2 = w2 at *
  have hT2 := h.out.kept hb2
  have g0 : ∀ n', (w2.drewN n').cell? ⟨p, 0, none⟩ = some (.slice (some ⟨g, 0, none⟩) L.length cap) := fun n' => hT2.c0
  have g2 : ∀ n', (w2.drewN n').cell? ⟨w.heap.size, 10, none⟩ = some (.int .i64 o.id) := fun n' => op_cells hC2 10 _ rfl
  clear hT2
  go_wp2_with fail
  go_quiet (fail)
  clear g0 g2
  have hb3 : Below w.heap.size w (w2.drewN nq) := ⟨hb2.os, hb2.tape, hb2.output, hb2.size, hb2.block⟩
  have hC3 : (w2.drewN nq).heap[w.heap.size]? = _ := hC2
  have hsz3 : w.heap.size + 1 ≤ (w2.drewN nq).heap.size := hsz2
  generalize w2.drewN nq = w3 at *
  clear hb2 hC2 hsz2
  have hT3 := h.out.kept hb3
  have zE := zE_job
  obtain ⟨k, hk⟩ : ∃ k, k = 10 := ⟨_, rfl⟩
  rw [← hk] at zE
  obtain ⟨cI, hcI⟩ : ∃ cI, cI = encJ y := ⟨_, rfl⟩
  have hld : Hid (∀ W, Below w3.heap.size w3 W → Sem.run Try.prog (loadCellsFrom ⟨g, m * k, none⟩ 0 k #[]) W = .ok cI.toArray W) := fun W hW => by
    have := (hT3.kept hW).row.load hk hm
    rw [Nat.zero_add, hy, ← hcI] at this
    exact this
  have lI : cI.length = k := by rw [hcI, hk]; rfl
  replace hk := Lib.hid hk
  replace hcI := Lib.hid hcI
  replace hT3 := Lib.hid hT3
  replace hC3 := Lib.hid hC3
  replace hy := Lib.hid hy
  replace hm := Lib.hid hm
  go_wp2_with fail
  refine Reg.region_mk 10 104 [[], [true], [true, true], [true, true, true], [false, false, false, false], [false, false, false, false, true], [false, false, false, false, true, true], [true, true, true, true, true, true, true], [true, true, true, true, true, true, true, true], [false, false, false, false, false, false, false, false, false]] [0, 0, 0, 1, 0, 1, 0, 0, 1, 1]
    [.pure, .pure, .pure, .minor Unit () (fun _ => .slice (some ⟨g, 0, none⟩) L.length cap) (fun _ _ => True), .pure, .minor Unit () (fun _ => .int .i64 ((m : Int) + 1)) (fun _ _ => True), .pure, .pure, .minor Unit () (fun _ => .agg cI.toArray) (fun _ _ => True), .minor Nat 0 (fun x => .pointer (some ⟨x, 0, none⟩)) (fun x W => W.heap[x]? = some (.cells #[.int .i64 0, .int .i64 0, .int .i64 0, .int .i64 0, .int .i64 0, .int .i64 0, .int .i64 0, .int .i64 0, .int .i64 0, .int .u64 0] 52 (0, 0)) ∧ w3.heap.size ≤ x)]
    (fun W => Below w3.heap.size w3 W) (fun _ _ => True) (fun a b => Below a.heap.size a b) (by kernel_rfl) (by kernel_rfl) rfl rfl (fun vs a b h hs => trivial) ?_ ?_ ?_ ?_ ?_ ?_
  · intro a b he hb; exact hb.trans (Below.mono he hb.size)
  · intro a b he hb; exact hb.trans (Below.mono he hb.size)
  · exact ⟨trivial, trivial, trivial, ⟨fun _ _ _ _ _ => trivial, fun _ _ _ _ _ => trivial⟩, trivial, ⟨fun _ _ _ _ _ => trivial, fun _ _ _ _ _ => trivial⟩, trivial, trivial, ⟨fun _ _ _ _ _ => trivial, fun _ _ _ _ _ => trivial⟩, ⟨fun x a b he h => ⟨(Below.block he x (Put.lt_of_heap h.1)).trans h.1, h.2⟩, fun x a b he h => ⟨(Below.block he x (Put.lt_of_heap h.1)).trans h.1, h.2⟩⟩, trivial⟩
  · exact ⟨rfl, rfl, rfl, Nat.le_refl _, fun _ _ => rfl⟩
  · trivial
  dsimp only [Reg.mk, List.zip, List.zipWith, List.take]
  repeat (refine' Reg.pass_is _ (by rfl) (fun wz => ?_) ?_; rotate_left; (go_simp; first | rfl | rw [if_neg (by omega)]); simp only [Act.put, List.setIfInBounds_toArray, List.set_cons_zero, List.set_cons_succ]; (try simp only [List.nil_append]); (try simp only [List.cons_append]); (try simp only [id]))
  refine Reg.pass_minor (by rfl) (fun wz hI hF => ?_) (fun r3 => ?_)
  · unfold Reg.One
    have d0 := (hT3.out.kept hI).c0
    go_wp2_with fail
    first | exact ⟨_, rfl, rfl, Reg.Ext.refl _⟩ | exact ⟨_, rfl, ⟨(), rfl, trivial⟩, Reg.Ext.refl _⟩
  simp only [Act.put, List.setIfInBounds_toArray, List.set_cons_zero, List.set_cons_succ]; (try simp only [List.nil_append]); (try simp only [List.cons_append]); (try simp only [id])
  repeat (refine' Reg.pass_is _ (by rfl) (fun wz => ?_) ?_; rotate_left; (go_simp; first | rfl | rw [if_neg (by omega)]); simp only [Act.put, List.setIfInBounds_toArray, List.set_cons_zero, List.set_cons_succ]; (try simp only [List.nil_append]); (try simp only [List.cons_append]); (try simp only [id]))
  refine Reg.pass_minor (by rfl) (fun wz hI hF => ?_) (fun r5 => ?_)
  · unfold Reg.One
    have d0 := op_cells (hI.block _ (Put.lt_of_heap hC3.out) |>.trans hC3.out) 10 _ rfl
    rw [hid.out] at d0
    go_wp2_with fail
    first | exact ⟨_, rfl, rfl, Reg.Ext.refl _⟩ | exact ⟨_, rfl, ⟨(), rfl, trivial⟩, Reg.Ext.refl _⟩
  simp only [Act.put, List.setIfInBounds_toArray, List.set_cons_zero, List.set_cons_succ]; (try simp only [List.nil_append]); (try simp only [List.cons_append]); (try simp only [id])
  refine Reg.pass_is (.int .i64 (m : Int)) (by rfl) (fun wz => ?_) ?_
  · go_simp
    (try rw [wm])
  simp only [Act.put, List.setIfInBounds_toArray, List.set_cons_zero, List.set_cons_succ]; (try simp only [List.nil_append]); (try simp only [List.cons_append]); (try simp only [id])
  refine Reg.pass_is (.pointer (some ⟨g, m * k, none⟩)) (by rfl) (fun wz => ?_) ?_
  · go_simp
    (try rw [if_pos ⟨by omega, by omega⟩])
    (try simp)
  simp only [Act.put, List.setIfInBounds_toArray, List.set_cons_zero, List.set_cons_succ]; (try simp only [List.nil_append]); (try simp only [List.cons_append]); (try simp only [id])
  refine Reg.pass_minor (by rfl) (fun wz hI hF => ?_) (fun r8 => ?_)
  · unfold Reg.One
    have d0 := hld.out wz hI
    go_wp2_with fail
    first | exact ⟨_, rfl, rfl, Reg.Ext.refl _⟩ | exact ⟨_, rfl, ⟨(), rfl, trivial⟩, Reg.Ext.refl _⟩
  simp only [Act.put, List.setIfInBounds_toArray, List.set_cons_zero, List.set_cons_succ]; (try simp only [List.nil_append]); (try simp only [List.cons_append]); (try simp only [id])
  refine Reg.pass_minor (by rfl) (fun wz hI hF => ?_) (fun r9 => ?_)
  · unfold Reg.One
    clear zE
    go_wp2_with fail
    exact ⟨_, rfl, ⟨wz.heap.size, rfl, heap_alloc_new wz _, by have := hI.size; omega⟩, (Below.refl wz.heap.size wz).alloc (Nat.le_refl _) _⟩
  simp only [Act.put, List.setIfInBounds_toArray, List.set_cons_zero, List.set_cons_succ]; (try simp only [List.nil_append]); (try simp only [List.cons_append]); (try simp only [id])
  refine Reg.pass_end ?_
  intro w5 HI5 _ HF5
  obtain ⟨hz5, hx5⟩ := HF5.2.2.2.2.2.2.2.2.2.1
  clear HF5 r3 r5 r8
  dsimp only [List.drop]
  obtain ⟨st5, hb6, off6⟩ := put_box (x := y) (cs := [.int .i64 0, .int .i64 0, .int .i64 0, .int .i64 0, .int .i64 0, .int .i64 0, .int .i64 0, .int .i64 0, .int .i64 0, .int .u64 0]) hz5 rfl
  rw [← hcI.out] at st5 hb6 off6
  have hT5 := hT3.out.kept HI5
  have hC5 := (HI5.block _ (Put.lt_of_heap hC3.out)).trans hC3.out
  have hx0 : r9 ≠ p := fun e => by have := hT3.out.lt; omega
  have hxr : w.heap.size ≠ r9 := fun e => by have := Put.lt_of_heap hC3.out; omega
  have hwR : w.heap.size ≤ r9 := by omega
  have hxg : g ≠ r9 := fun e => by have := (hT3.out.own.lt g rfl).2; omega
  have hb5 := hb3.trans (HI5.mono hb3.size)
  obtain ⟨w6, hw6⟩ : ∃ w6, w6 = w5.setRow r9 cI.toArray := ⟨_, rfl⟩
  rw [← hw6] at st5 hb6 off6
  replace hw6 := Lib.hid hw6
  have kI : ∀ j u, (encJ y)[j]? = some u → w6.cell? ⟨r9, j, none⟩ = some u := job_cells (by rw [← hcI.out]; exact hb6)
  have k5 := kI 5 _ rfl
  have f5 : w6.frozen? ⟨r9, 5, none⟩ = false := by simp [World.frozen?, hb6]
  have k8 := kI 8 _ rfl
  have f8 : w6.frozen? ⟨r9, 8, none⟩ = false := by simp [World.frozen?, hb6]
  have hC6 := (off6.block w.heap.size (Put.lt_of_heap hC5) hxr hxr).trans hC5
  have q0 := op_cells hC6 0 _ rfl
  have q3 := op_cells hC6 11 _ rfl
  have q4 := op_cells hC6 12 _ rfl
  have hT6 : PV w6 p (.slice (some ⟨g, 0, none⟩) L.length cap) L := ⟨(off6.block p hT5.lt hx0.symm hx0.symm).trans hT5.cell, off6.own hT5.own fun k hk => by
    have : g = k := by simpa [Value.ownBlock] using hk
    subst this
    exact ⟨hxg, hxg⟩⟩
  obtain ⟨sb0, so0⟩ := set_box (j := 5) (u := .int .i64 o.state) hb6
  obtain ⟨sb1, so1⟩ := set_box (j := 8) (u := .int .i64 (-1)) sb0
  have offB := (((Off.refl r9 r9 w6).trans so0 (.inl rfl)).trans so1 (.inl rfl))
  obtain ⟨wB, hwB⟩ : ∃ wB, wB = ((w6.setCell ⟨r9, 5, none⟩ (.int .i64 o.state)).setCell ⟨r9, 8, none⟩ (.int .i64 (-1))) := ⟨_, rfl⟩
  obtain ⟨cX, hcX⟩ : ∃ cX, cX = ((cI.set 5 (.int .i64 o.state)).set 8 (.int .i64 (-1))) := ⟨_, rfl⟩
  have hXB := sb1
  rw [← hwB] at hXB offB
  rw [← hcX] at hXB
  have eX : cX = encJ (chF o y) := by rw [hcX, hcI.out, hch]; rfl
  have lX : cX.length = k := by rw [eX, hk.out]; rfl
  have hTB : PV wB p (.slice (some ⟨g, 0, none⟩) L.length cap) L := ⟨(offB.block p hT6.lt hx0.symm hx0.symm).trans hT6.cell, offB.own hT6.own fun k hk => by
    have : g = k := by simpa [Value.ownBlock] using hk
    subst this
    exact ⟨hxg, hxg⟩⟩
  have hCB := (offB.block w.heap.size (Put.lt_of_heap hC6) hxr hxr).trans hC6
  have hbB : Below w.heap.size w wB := (hb5.trans (off6.below hwR hwR hb5.size)).trans (offB.below hwR hwR (Nat.le_trans hb5.size off6.size))
  clear offB sb0 so0 sb1 so1 hT6 hC6 hT5 hC5 off6 hb6 kI hz5 hx5 HI5 hb3 hb5 hT3 hC3 hld hch
  replace hTB := Lib.hid hTB
  replace hCB := Lib.hid hCB
  replace hXB := Lib.hid hXB
  replace hbB := Lib.hid hbB
  replace eX := Lib.hid eX
  replace hcX := Lib.hid hcX
  replace hwB := Lib.hid hwB
  go_wp2_with fail
  rw [← hwB.out]
  refine Reg.region_mk 8 104 [[], [true], [true, true], [true, true, true], [false, false, false, false], [false, false, false, false, true], [false, false, false, false, true, true], [false, false, false, false, false, false, false]] [0, 0, 0, 1, 0, 1, 0, 1]
    [.pure, .pure, .pure, .minor Unit () (fun _ => .slice (some ⟨g, 0, none⟩) L.length cap) (fun _ _ => True), .pure, .minor Unit () (fun _ => .int .i64 ((m : Int) + 1)) (fun _ _ => True), .pure, .minor Unit () (fun _ => .agg cX.toArray) (fun _ _ => True)]
    (fun W => Below wB.heap.size wB W) (fun _ _ => True) (fun a b => Below a.heap.size a b) (by kernel_rfl) (by kernel_rfl) rfl rfl (fun vs a b h hs => trivial) ?_ ?_ ?_ ?_ ?_ ?_
  · intro a b he hb; exact hb.trans (Below.mono he hb.size)
  · intro a b he hb; exact hb.trans (Below.mono he hb.size)
  · exact ⟨trivial, trivial, trivial, ⟨fun _ _ _ _ _ => trivial, fun _ _ _ _ _ => trivial⟩, trivial, ⟨fun _ _ _ _ _ => trivial, fun _ _ _ _ _ => trivial⟩, trivial, ⟨fun _ _ _ _ _ => trivial, fun _ _ _ _ _ => trivial⟩, trivial⟩
  · exact ⟨rfl, rfl, rfl, Nat.le_refl _, fun _ _ => rfl⟩
  · trivial
  dsimp only [Reg.mk, List.zip, List.zipWith, List.take]
  repeat (refine' Reg.pass_is _ (by rfl) (fun wz => ?_) ?_; rotate_left; (go_simp; first | rfl | rw [if_neg (by omega)]); simp only [Act.put, List.setIfInBounds_toArray, List.set_cons_zero, List.set_cons_succ]; (try simp only [List.nil_append]); (try simp only [List.cons_append]); (try simp only [id]))
  refine Reg.pass_minor (by rfl) (fun wz hI hF => ?_) (fun s3 => ?_)
  · unfold Reg.One
    have d0 := (hTB.out.kept hI).c0
    go_wp2_with fail
    first | exact ⟨_, rfl, rfl, Reg.Ext.refl _⟩ | exact ⟨_, rfl, ⟨(), rfl, trivial⟩, Reg.Ext.refl _⟩
  simp only [Act.put, List.setIfInBounds_toArray, List.set_cons_zero, List.set_cons_succ]; (try simp only [List.nil_append]); (try simp only [List.cons_append]); (try simp only [id])
  repeat (refine' Reg.pass_is _ (by rfl) (fun wz => ?_) ?_; rotate_left; (go_simp; first | rfl | rw [if_neg (by omega)]); simp only [Act.put, List.setIfInBounds_toArray, List.set_cons_zero, List.set_cons_succ]; (try simp only [List.nil_append]); (try simp only [List.cons_append]); (try simp only [id]))
  refine Reg.pass_minor (by rfl) (fun wz hI hF => ?_) (fun s5 => ?_)
  · unfold Reg.One
    have d0 := op_cells (hI.block _ (Put.lt_of_heap hCB.out) |>.trans hCB.out) 10 _ rfl
    rw [hid.out] at d0
    go_wp2_with fail
    first | exact ⟨_, rfl, rfl, Reg.Ext.refl _⟩ | exact ⟨_, rfl, ⟨(), rfl, trivial⟩, Reg.Ext.refl _⟩
  simp only [Act.put, List.setIfInBounds_toArray, List.set_cons_zero, List.set_cons_succ]; (try simp only [List.nil_append]); (try simp only [List.cons_append]); (try simp only [id])
  refine Reg.pass_is (.int .i64 (m : Int)) (by rfl) (fun wz => ?_) ?_
  · go_simp
    (try rw [wm])
  simp only [Act.put, List.setIfInBounds_toArray, List.set_cons_zero, List.set_cons_succ]; (try simp only [List.nil_append]); (try simp only [List.cons_append]); (try simp only [id])
  refine Reg.pass_minor (by rfl) (fun wz hI hF => ?_) (fun s7 => ?_)
  · unfold Reg.One
    have d0 := load_box ((hI.block _ (Put.lt_of_heap hXB.out)).trans hXB.out) lX
    go_wp2_with fail
    first | exact ⟨_, rfl, rfl, Reg.Ext.refl _⟩ | exact ⟨_, rfl, ⟨(), rfl, trivial⟩, Reg.Ext.refl _⟩
  simp only [Act.put, List.setIfInBounds_toArray, List.set_cons_zero, List.set_cons_succ]; (try simp only [List.nil_append]); (try simp only [List.cons_append]); (try simp only [id])
  refine Reg.pass_end ?_
  intro w7 HI7 _ HF7
  clear HF7 s3 s5 s7
  dsimp only [List.drop]
  have hT7 := hTB.out.kept HI7
  obtain ⟨w8, st8, hT8, off8⟩ := put_at hT7 hm.out (chF o y)
  rw [← eX.out] at st8
  rw [← hk.out] at st8
  have hq8 : QOff p (some g) w w8 := (QOff.of_below (hbB.out.trans (HI7.mono hbB.out.size))).trans off8 (NewO.refl _ _)
  replace hT8 := Lib.hid hT8
  replace hq8 := Lib.hid hq8
  clear hT7 off8 HI7
  go_wp2_with fail
  go_ret
  exact hfin.out _ _ rfl hT8.out hq8.out


end
end Go.Proofs.Ytmlmehpcfgchgaa
