/-
  Own walks: Events, Of, Order, Find.
-/
import Derived.Test.YtdlfbkiihkhmmaaHiC
import Derived.Laws.CopyRow
namespace Go.Proofs.Ytdlfbkiihkhmmaa
set_option maxRecDepth 8000
open Go.RowKit Go.Lib Put

/-- 'copy' into an owned row. -/
theorem copy_own {w : World} {base g n cap sz : Nat} {e : TypeId} {xs : List Value} {P : Program} (dT sT : TypeId) (hu : P.underlying dT = some (.slice e)) (hs : (P.info? e).map (·.size) = some sz) (h : w.ownsRow base e sz (.slice (some ⟨g, 0, none⟩) n cap) n xs) (vs : List Value) (hfit : vs.length = n * sz) (h1 : ∀ u ∈ vs, u.oneCell' = true)
    (a : Addr) (m : Nat) (hvl : vs.length = m * sz) (hsrc : ∀ j v, vs[j]? = some v → w.cell? (a.add j) = some v) :
    ∃ w', (∀ ty dLen dCap sLen sCap, m = Nat.min sLen dLen → (Builtin.copy_ #[dT, sT] ty #[.slice (some ⟨g, 0, none⟩) dLen dCap, .slice (some a) sLen sCap]).run P w = .ok (goInt m) w') ∧ w'.ownsRow base e sz (.slice (some ⟨g, 0, none⟩) n cap) n vs ∧ Off g g w w' := by
  obtain ⟨w', hst, h2, h3⟩ := own_put h 0 vs (by omega) h1
  have hxl : xs.length = n * sz := h.1
  rw [List.take_zero, List.nil_append, List.drop_of_length_le (by omega), List.append_nil] at h2
  refine ⟨w', fun ty dLen dCap sLen sCap hm => ?_, h2, h3⟩
  have hl := run_loadCells_list (P := P) w a vs hsrc
  cases hq : P.info? e with
  | none => simp [hq] at hs
  | some i =>
    have hi : i.size = sz := by simpa [hq] using hs
    simp [Builtin.copy_, run_underlying hu, Builtin.lenOf, Builtin.firstCells, sizeOf, typeInfo, hq, hi, ← hm, ← hvl, hl, hst]
theorem flatE_len (l : List Ev) : (l.flatMap encE).length = l.length * 24 := by
  induction l with
  | nil => rfl
  | cons a l ih => rw [List.flatMap_cons, List.length_append, ih, encE_len, List.length_cons, Nat.add_mul]; omega
theorem flatE_one (l : List Ev) : ∀ u ∈ l.flatMap encE, u.oneCell' = true := by
  intro u hu
  obtain ⟨x, _, hx⟩ := List.mem_flatMap.1 hu
  exact encE_one x u hx

def EvRes (w : World) (l : List Ev) (e : Ending) (w' : World) : Prop := ∃ v, e = .returned v ∧ RowAt encE 24 w' v l ∧ Below w.heap.size w w'

section
variable {B s : Nat} {w w' : World} {st : Int} {v va : Value} {L l : List Ev}
theorem Events_nil (w : World) : Calls Try.prog 9 #[.pointer none] w fun e w' => e = .returned (.slice none 0 0) ∧ w = w' := by
  go_enter Try.func9, Try.ntmps9
  go_wp2_with fail
  go_ret
  exact ⟨rfl, rfl⟩
theorem Of_nil (w : World) : Calls Try.prog 10 #[.pointer none, va] w fun e w' => e = .returned (.slice none 0 0) ∧ w = w' := by
  go_enter Try.func10, Try.ntmps10
  go_wp2_with fail
  go_ret
  exact ⟨rfl, rfl⟩

set_option maxRecDepth 1000000 in
set_option maxHeartbeats 4000000 in
theorem Events_fn (h : LG B w s st v L) (hl : L.length ≤ 900) : Calls Try.prog 9 #[.pointer (some ⟨s, 0, none⟩)] w (EvRes w L) := by
  obtain ⟨i0, hi0, hz0, hz1, hz2⟩ := info_parts infoE
  obtain ⟨n, hn⟩ : ∃ n, L.length = n := ⟨_, rfl⟩
  have c1 := h.c1
  have how := h.own
  have hslt := h.lt
  obtain ⟨ao, cap, rfl, hao⟩ := own_shape how
  rw [hn] at hl c1 how hao
  replace hn := Lib.hid hn
  replace h := Lib.hid h
  replace hao := Lib.hid hao
  have hfl := Lib.hid (flatE_len L)
  rw [hn.out] at hfl
  have hlo : n ≤ 9223372036854775807 := by omega
  go_enter Try.func9, Try.ntmps9
  go_wp2_with (at_make; refine wpList_make_full w rfl _ _ 22 rfl w.heap.size 36 i0 (.agg #[.int .i64 0, .int .i64 0, .int .i64 0, .int .i64 0, .int .i64 0, .int .i64 0, .int .i64 0, .int .i64 0, .int .i64 0, .bool false, .int .i64 0, .int .i64 0, .int .i64 0, .int .i64 0, .int .i64 0, .int .i64 0, .int .i64 0, .int .i64 0, .int .i64 0, .int .i64 0, .int .i64 0, .int .i64 0, .int .i64 0, .bool false]) 24 Try.underlying22 hi0 hz0 hz1 .i64 .i64 n n n rfl rfl rfl rfl (by rw [hz2]; omega) (by unfold maxLen; omega) (Nat.le_refl _) ?_)
  intro w1 ho1 hg1
  have hb1 : Below w.heap.size w w1 := (Below.refl _ w).grown hg1 (Nat.le_refl _) fun k hk => by cases hk
  have c1' := (hb1.cell (p := ⟨s, 1, none⟩) hslt).trans c1
  rcases how.2 with ⟨e0, h0⟩ | ⟨g, c', cur, e0, _, hg, hc1, hc2, _, _⟩
  · cases e0
    have hcp := fun ty => run_copy_nil (P := Try.prog) w1 22 22 ty 36 ⟨w.heap.size, 0, none⟩ 0 0 Try.underlying22 (by rw [hi0]; rfl)
    have hL : L = [] := List.eq_nil_of_length_eq_zero hn.out
    have hfin : Hid (EvRes w L (.returned (.slice (some ⟨w.heap.size, 0, none⟩) 0 0)) w1) := ⟨_, rfl, by
      subst hL
      exact RowAt.of_own ho1 (fun _ => rfl) (List.eq_nil_of_length_eq_zero (by rw [ho1.1])) rfl, hb1⟩
    clear ho1 hg1 how hL
    go_wp2_with (at_builtin; refine Lib.wpList_copy_run _ rfl _ _ _ _ rfl _ _ rfl rfl (hcp _) ?_)
    go_ret
    exact hfin.out
  · cases e0
    obtain ⟨w2, hcp, ho2, hoff⟩ := copy_own (P := Try.prog) 22 22 Try.underlying22 (by rw [hi0]; exact congrArg some hz1) ho1 (L.flatMap encE) hfl.out (flatE_one L) ⟨g, 0, none⟩ n hfl.out (fun j u hj => by
      have := (Put.own_kept how hb1).cells (g := g) rfl j u hj
      exact this)
    have hb2 : Below w.heap.size w w2 := hb1.trans (hoff.below (Nat.le_refl _) (Nat.le_refl _) hb1.size)
    have hfin : Hid (EvRes w L (.returned (.slice (some ⟨w.heap.size, 0, none⟩) n n)) w2) := ⟨_, rfl, RowAt.of_own ho2 (fun _ => rfl) rfl hn.out.symm, hb2⟩
    clear ho1 hg1 how ho2 hoff
    go_wp2_with (at_builtin; refine Lib.wpList_copy_run _ rfl _ _ _ _ rfl _ _ rfl rfl (hcp _ _ _ _ _ (Nat.min_self n).symm) ?_)
    go_ret
    exact hfin.out

set_option maxRecDepth 1000000 in
set_option maxHeartbeats 4000000 in
theorem Of_fn {ks : List Int} (h : LG B w s st v L) (hr : RowAt enc1 1 w va ks) (hl : L.length ≤ 900) : Calls Try.prog 10 #[.pointer (some ⟨s, 0, none⟩), va] w (EvRes w (L.filter fun x => decide (x.kd ∈ ks))) := by
  have zE := zE_ev
  obtain ⟨i0, hi0, hz0, hz1, hz2⟩ := info_parts infoE
  obtain ⟨k, hk⟩ : ∃ k, k = 24 := ⟨_, rfl⟩
  rw [← hk] at zE
  replace hk := Lib.hid hk
  obtain ⟨n, hn⟩ : ∃ n, L.length = n := ⟨_, rfl⟩
  have c1 := h.c1
  have hrow := Lib.hid h.row
  obtain ⟨ao, cap, rfl, hao⟩ := own_shape h.own
  have hslt := h.lt
  rw [hn] at hl c1 hao hrow
  have hlo : n ≤ 9223372036854775807 := by omega
  have hcap : cap ≤ 9223372036854775807 := by
    obtain ⟨_, _, e, _, h3, _⟩ := hrow.out
    injection e with _ _ e
    subst e; unfold maxLen at h3; exact h3
  have hnc : n ≤ cap := by
    obtain ⟨_, _, e, h3, _, _⟩ := hrow.out
    injection e with _ _ e
    subst e; rw [hn] at h3; exact h3
  replace hn := Lib.hid hn
  replace hao := Lib.hid hao
  replace hr := Lib.hid hr
  clear h
  go_enter Try.func10, Try.ntmps10
  go_wp2_with fail
  go_loopw [5, 15] (fun uu ii wr => ∃ (i : Nat) (vs : Value), i ≤ n ∧ ii = .int .i64 i ∧ vs = uu ∧ Hid (wr.ownsRow w.heap.size 36 24 vs ((L.take i).filter fun x => decide (x.kd ∈ ks)).length (((L.take i).filter fun x => decide (x.kd ∈ ks)).flatMap encE)) ∧ Hid (Below w.heap.size w wr)) (fun _ ii _ => n - (intOf ii).toNat)
  case atStart => exact ⟨0, _, Nat.zero_le _, rfl, rfl, World.ownsRow_nil w w.heap.size _ _, Below.refl _ _⟩
  case round =>
    obtain ⟨i, vs, hin, rfl, rfl, ho, hb⟩ := hrel
    by_cases hlt : i < n
    · have b2 : (i : Int) < (n : Int) := by omega
      have wi : IntKind.i64.wrap ((i : Int) + 1) = (i : Int) + 1 := by rw [IntKind.wrap_i64]; omega
      obtain ⟨g, rfl⟩ := hao.out (by omega)
      have hiL : i < L.length := by have := hn.out; omega
      have LI := ev_row (hrow.out.below hb.out) hk.out hiL
      simp only [Nat.zero_add] at LI
      have hst := List.take_succ_eq_append_getElem hiL
      rw [← getElem!_pos L i hiL] at hst
      generalize L[i]! = y at *
      have hml : ((L.take i).filter fun x => decide (x.kd ∈ ks)).length ≤ 1000 := by
        refine Nat.le_trans (List.length_filter_le _ _) ?_
        rw [List.length_take]; omega
      obtain ⟨M, hM⟩ : ∃ M, M = (L.take i).filter fun x => decide (x.kd ∈ ks) := ⟨_, rfl⟩
      rw [← hM] at ho hml
      by_cases hm : y.kd ∈ ks
      · have hM2 : Hid ((L.take (i + 1)).filter (fun x => decide (x.kd ∈ ks)) = M ++ [y]) := by
          show _ = _
          rw [hst, List.filter_append, ← hM]; simp [hm]
        have dm : decide (y.kd ∈ ks) = true := decide_eq_true hm
        have how := ho.out
        have hbw := hb.out.size
        replace hM := Lib.hid hM
        clear hst hm ho
        go_wp2_with (first
          | (refine wpList_store_ev _ rfl _ _ rfl rfl (n := wr.heap.size) (y := y) rfl rfl (heap_alloc_new wr _) (by rfl) ?_
             intro w1 hn1 hO1
             have hB1 : Below w.heap.size w w1 := (hb.out.alloc hb.out.size _).trans (hO1.below (by simp; omega) hbw (fun k hk => by cases hk))
             have hv1 : w1.ownsRow w.heap.size 36 24 vs M.length (M.flatMap encE) := ownsRow_block how fun q hq => (hO1.block q (by have := (how.lt q hq).2; simp; omega) (by have := (how.lt q hq).2; omega) (by simp)).trans (Go.heap_alloc_old wr _ (how.lt q hq).2)
             have k1 : w1.cell? ⟨wr.heap.size, 1, none⟩ = some (.int .i64 y.kd) := ev_cells hn1 1 _ rfl)
          | (go_at_call 17; go_must (refine (Contains_fn y.kd (hr.out.below hB1)).mono ?_); rintro e w' ⟨rfl, rfl⟩)
          | (refine wpList_load_ev _ rfl _ rfl rfl hn1 ?_)
          | (refine wpList_slice_ev _ rfl _ rfl (x := y) rfl ?_)
          | (at_builtin; go_must (refine wpList_append_ev _ rfl (.tmp 23) (.tmp 25) rfl w.heap.size vs M rfl (Put.own_kept hv1 ((Below.refl _ w1).alloc (Nat.le_refl _) _)) w1.heap.size y rfl (heap_alloc_new w1 _) hml (by have := hB1.size; simp; omega) ?_); intro v4 w4 ho4 hg4 hnb4))
        go_roundw
        case rel =>
          rw [← hM2.out] at ho4
          exact ⟨i + 1, v4, by omega, by go_num, rfl, ho4, (hB1.alloc hB1.size _).grown hg4 (by have := hB1.size; simp; omega) (fun q hq => (hv1.lt q hq).1)⟩
        case measure => simp [intOf]; omega
      · have hM2 : Hid ((L.take (i + 1)).filter (fun x => decide (x.kd ∈ ks)) = M) := by
          show _ = _
          rw [hst, List.filter_append, ← hM]; simp [hm]
        have dm : decide (y.kd ∈ ks) = false := decide_eq_false hm
        have how := ho.out
        have hbw := hb.out.size
        replace hM := Lib.hid hM
        clear hst hm ho
        go_wp2_with (first
          | (refine wpList_store_ev _ rfl _ _ rfl rfl (n := wr.heap.size) (y := y) rfl rfl (heap_alloc_new wr _) (by rfl) ?_
             intro w1 hn1 hO1
             have hB1 : Below w.heap.size w w1 := (hb.out.alloc hb.out.size _).trans (hO1.below (by simp; omega) hbw (fun k hk => by cases hk))
             have hv1 : w1.ownsRow w.heap.size 36 24 vs M.length (M.flatMap encE) := ownsRow_block how fun q hq => (hO1.block q (by have := (how.lt q hq).2; simp; omega) (by have := (how.lt q hq).2; omega) (by simp)).trans (Go.heap_alloc_old wr _ (how.lt q hq).2)
             have k1 : w1.cell? ⟨wr.heap.size, 1, none⟩ = some (.int .i64 y.kd) := ev_cells hn1 1 _ rfl)
          | (go_at_call 17; go_must (refine (Contains_fn y.kd (hr.out.below hB1)).mono ?_); rintro e w' ⟨rfl, rfl⟩))
        go_roundw
        case rel =>
          rw [← hM2.out] at hv1
          exact ⟨i + 1, vs, by omega, by go_num, rfl, hv1, hB1⟩
        case measure => simp [intOf]; omega
    · have e1 : L.take i = L := List.take_of_length_le (by have := hn.out; omega)
      have b2 : ¬ (i : Int) < (n : Int) := by omega
      rw [e1] at ho
      have hfin : Hid (EvRes w (L.filter fun x => decide (x.kd ∈ ks)) (.returned vs) wr) := ⟨vs, rfl, RowAt.of_own ho.out (fun _ => rfl) rfl rfl, hb.out⟩
      clear ho hb e1
      go_wp2_with fail
      go_ret
      exact hfin.out
end

end Go.Proofs.Ytdlfbkiihkhmmaa
