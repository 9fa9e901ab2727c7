/-
  Own walks: Order, Find.
-/
import Derived.Test.YtdlfbkiihkhmmaaHiD
namespace Go.Proofs.Ytdlfbkiihkhmmaa
set_option maxRecDepth 8000
open Go.RowKit Go.Lib Put

theorem Below.add {w w1 w2 : World} (h : Below w.heap.size w w1) (h' : Below w1.heap.size w1 w2) : Below w.heap.size w w2 := h.trans (h'.mono h.size)
/-- A new block of two numbers is a list of them. -/
theorem two_new (w : World) (x y : Int) : RowAt enc1 1 (w.alloc (.cells #[.int .i64 x, .int .i64 y] 3)) (.slice (some ⟨w.heap.size, 0, none⟩) 2 2) [x, y] :=
  RowAt.of_own (base := w.heap.size) (e := 3) (own_new (vs := [.int .i64 x, .int .i64 y]) rfl (Nat.le_refl _) rfl (by unfold maxLen; omega)) (fun _ => rfl) rfl rfl
def isE (k t : Int) (x : Ev) : Bool := decide (x.kd = k) && decide (x.tk = t)
/-- A result that is an event in a block of its own, and another beside it. -/
theorem ret_ev {fn : Func} {q u : Tmp} {b : Nat} {tmps : Array Value} {w : World} {x : Ev} (h : fn.results = #[.cell q 36, .tmp u]) (ha : tmps.getD q undef = .pointer (some ⟨b, 0, none⟩)) (hb : w.heap[b]? = some (.cells (encE x).toArray 36 (0, 0))) :
    (results fn tmps).run Try.prog w = .ok (.tuple #[.agg (encE x).toArray, tmps.getD u undef]) w := by
  have h1 : Sem.run Try.prog (loadCells ⟨b, 0, none⟩ 24) w = .ok (encE x).toArray w := ev_load hb rfl
  rw [results_cell_tmp h, ha]
  simp only [loadVar, asAddr, Sem.run_bind, Sem.run_pure, Result.andThen_ok, aE_ev, zE_ev, h1, if_true]

section
variable {B s : Nat} {w w' : World} {st : Int} {v va : Value} {L l : List Ev}
theorem Order_fn (h : LG B w s st v L) (hl : L.length ≤ 900) : Calls Try.prog 11 #[.pointer (some ⟨s, 0, none⟩)] w (EvRes w (L.filter fun x => decide (x.kd ∈ [2, 4]))) := by
  have hb := (Below.refl w.heap.size w).alloc (Nat.le_refl _) (.cells #[.int .i64 2, .int .i64 4] 3)
  have hO := Of_fn (h.below hb) (two_new w 2 4) hl
  clear h
  go_enter Try.func11, Try.ntmps11
  go_wp2_with (go_at_call 10; go_must (refine hO.mono ?_); rintro e w' ⟨v', rfl, hr, hb'⟩)
  go_ret
  exact ⟨_, rfl, hr, Below.add hb hb'⟩
theorem Order_nil (w : World) : Calls Try.prog 11 #[.pointer none] w fun e w' => e = .returned (.slice none 0 0) ∧ Below w.heap.size w w' := by
  have hb := (Below.refl w.heap.size w).alloc (Nat.le_refl _) (.cells #[.int .i64 2, .int .i64 4] 3)
  go_enter Try.func11, Try.ntmps11
  go_wp2_with (go_at_call 10; go_must (refine (Of_nil _).mono ?_); rintro e w' ⟨rfl, rfl⟩)
  go_ret
  exact ⟨rfl, hb⟩

def FindPost (w : World) (L : List Ev) (k t : Int) (e : Ending) (w' : World) : Prop := e = .returned (.tuple #[.agg (encE ((L.find? (isE k t)).getD default)).toArray, .bool (L.find? (isE k t)).isSome]) ∧ Below w.heap.size w w'

set_option maxRecDepth 1000000 in
set_option maxHeartbeats 4000000 in
theorem Find_nil (k t : Int) (w : World) : Calls Try.prog 13 #[.pointer none, .int .i64 k, .int .i64 t] w (FindPost w [] k t) := by
  go_enter Try.func13, Try.ntmps13
  go_wp2_with (refine wpList_store_ev _ rfl _ _ rfl rfl (n := w.heap.size) (y := default) rfl rfl (heap_alloc_new w _) (by rfl) ?_
               intro w1 hn1 hO1)
  (try simp only [Exit.inBlock, Exit.then])
  refine bodyPost_ret (ret_ev (b := w.heap.size) (x := default) rfl rfl hn1) rfl ?_
  exact ⟨rfl, ((Below.refl w.heap.size w).alloc (Nat.le_refl _) _).trans (hO1.below (by simp) (Nat.le_refl _) (fun k hk => by cases hk))⟩

set_option maxRecDepth 1000000 in
set_option maxHeartbeats 4000000 in
theorem Find_fn (h : LG B w s st v L) (kx t : Int) (hl : L.length ≤ 900) : Calls Try.prog 13 #[.pointer (some ⟨s, 0, none⟩), .int .i64 kx, .int .i64 t] w (FindPost w L kx t) := by
  have zE := zE_ev
  obtain ⟨k, hk⟩ : ∃ k, k = 24 := ⟨_, rfl⟩
  rw [← hk] at zE
  replace hk := Lib.hid hk
  obtain ⟨n, hn⟩ : ∃ n, L.length = n := ⟨_, rfl⟩
  have hb1 := (Below.refl w.heap.size w).alloc (Nat.le_refl _) (.cells #[.int .i64 0, .int .i64 0, .int .i64 0, .int .i64 0, .int .i64 0, .int .i64 0, .int .i64 0, .int .i64 0, .int .i64 0, .bool false, .int .i64 0, .int .i64 0, .int .i64 0, .int .i64 0, .int .i64 0, .int .i64 0, .int .i64 0, .int .i64 0, .int .i64 0, .int .i64 0, .int .i64 0, .int .i64 0, .int .i64 0, .bool false] 36)
  have hz1 := heap_alloc_new w (.cells #[.int .i64 0, .int .i64 0, .int .i64 0, .int .i64 0, .int .i64 0, .int .i64 0, .int .i64 0, .int .i64 0, .int .i64 0, .bool false, .int .i64 0, .int .i64 0, .int .i64 0, .int .i64 0, .int .i64 0, .int .i64 0, .int .i64 0, .int .i64 0, .int .i64 0, .int .i64 0, .int .i64 0, .int .i64 0, .int .i64 0, .bool false] 36)
  have c1 := (h.below hb1).c1
  have hrow := Lib.hid h.row
  obtain ⟨ao, cap, rfl, hao⟩ := own_shape h.own
  rw [hn] at hl c1 hao hrow
  have hlo : n ≤ 9223372036854775807 := by omega
  have hcap : cap ≤ 9223372036854775807 := by
    obtain ⟨_, _, e, _, h3, _⟩ := hrow.out
    injection e with _ _ e
    subst e; unfold maxLen at h3; exact h3
  have hnc : n ≤ cap := by
    obtain ⟨_, _, e, h3, _, _⟩ := hrow.out
    injection e with _ _ e
    subst e; rw [hn] at h3; exact h3
  replace hn := Lib.hid hn
  replace hao := Lib.hid hao
  clear h
  go_enter Try.func13, Try.ntmps13
  go_wp2_with fail
  go_loopw [18] (fun ii wr => ∃ (i : Nat), i ≤ n ∧ ii = .int .i64 i ∧ Hid (wr.heap[w.heap.size]? = some (.cells #[.int .i64 0, .int .i64 0, .int .i64 0, .int .i64 0, .int .i64 0, .int .i64 0, .int .i64 0, .int .i64 0, .int .i64 0, .bool false, .int .i64 0, .int .i64 0, .int .i64 0, .int .i64 0, .int .i64 0, .int .i64 0, .int .i64 0, .int .i64 0, .int .i64 0, .int .i64 0, .int .i64 0, .int .i64 0, .int .i64 0, .bool false] 36 (0, 0))) ∧ Hid ((L.take i).find? (isE kx t) = none) ∧ Hid (Below w.heap.size w wr)) (fun ii _ => n - (intOf ii).toNat)
  case atStart => exact ⟨0, Nat.zero_le _, rfl, hz1, Lib.hid rfl, hb1⟩
  case round =>
    obtain ⟨i, hin, rfl, hz, hno, hb⟩ := hrel
    clear hz1 hb1 c1
    by_cases hlt : i < n
    · have b2 : (i : Int) < (n : Int) := by omega
      have wi : IntKind.i64.wrap ((i : Int) + 1) = (i : Int) + 1 := by rw [IntKind.wrap_i64]; omega
      obtain ⟨g, rfl⟩ := hao.out (by omega)
      have hiL : i < L.length := by have := hn.out; omega
      have LI := ev_row (hrow.out.below hb.out) hk.out hiL
      simp only [Nat.zero_add] at LI
      have hst := List.take_succ_eq_append_getElem hiL
      rw [← getElem!_pos L i hiL] at hst
      have hdr : L = L.take i ++ L[i]! :: L.drop (i + 1) := by
        rw [getElem!_pos L i hiL, List.getElem_cons_drop hiL, List.take_append_drop]
      generalize L[i]! = y at *
      have hbw := hb.out.size
      have hlz := lt_of_at hz.out
      by_cases hy : isE kx t y = true
      · have hF : Hid (L.find? (isE kx t) = some y) := by
          show _ = _
          rw [hdr, List.find?_append, hno.out, Option.none_or, List.find?_cons_of_pos hy]
        have dm : (decide (y.kd = kx) && decide (y.tk = t)) = true := hy
        clear hst hdr hno hy
        go_wp2_with (first
          | (refine wpList_store_ev _ rfl _ _ rfl rfl (n := wr.heap.size) (y := y) rfl rfl (heap_alloc_new wr _) (by rfl) ?_
             intro w1 hn1 hO1
             have hB1 : Below w.heap.size w w1 := (hb.out.alloc hb.out.size _).trans (hO1.below (by simp; omega) hbw (fun k hk => by cases hk))
             have hz1 : w1.heap[w.heap.size]? = some (.cells #[.int .i64 0, .int .i64 0, .int .i64 0, .int .i64 0, .int .i64 0, .int .i64 0, .int .i64 0, .int .i64 0, .int .i64 0, .bool false, .int .i64 0, .int .i64 0, .int .i64 0, .int .i64 0, .int .i64 0, .int .i64 0, .int .i64 0, .int .i64 0, .int .i64 0, .int .i64 0, .int .i64 0, .int .i64 0, .int .i64 0, .bool false] 36 (0, 0)) := (hO1.block _ (by simp; omega) (by omega) (by simp)).trans ((Go.heap_alloc_old wr _ hlz).trans hz.out))
          | (refine wpList_load_ev _ rfl _ rfl rfl hn1 ?_)
          | (go_at_call 18; go_must (refine (is_fn y kx t _).mono ?_); rintro e w2 ⟨rfl, hw2⟩
             have hB2 : Below w1.heap.size w1 w2 := by rw [hw2]; exact (Below.refl _ _).alloc (Nat.le_refl _) _
             have hn2 := (hB2.block _ (lt_of_at hn1)).trans hn1
             have hz2 := (hB2.block _ (lt_of_at hz1)).trans hz1
             replace hw2 := Lib.hid hw2)
          | (refine wpList_load_ev _ rfl _ rfl rfl hn2 ?_)
          | (refine wpList_store_ev _ rfl _ _ rfl rfl (n := w.heap.size) (y := y) rfl rfl hz2 (by rfl) ?_
             intro w3 hn3 hO3))
        (try simp only [Exit.inBlock, Exit.then])
        refine bodyPost_ret (ret_ev (b := w.heap.size) (x := y) rfl rfl hn3) rfl ?_
        refine ⟨by rw [hF.out]; rfl, ?_⟩
        exact (Below.add hB1 hB2).trans (hO3.below (Below.add hB1 hB2).size (Nat.le_refl _) (fun k hk => by cases hk))
      · have hN : Hid ((L.take (i + 1)).find? (isE kx t) = none) := by
          show _ = _
          rw [hst, List.find?_append, hno.out, Option.none_or, List.find?_cons_of_neg hy]; rfl
        have dm : (decide (y.kd = kx) && decide (y.tk = t)) = false := by simpa [isE] using hy
        clear hst hdr hno hy
        go_wp2_with (first
          | (refine wpList_store_ev _ rfl _ _ rfl rfl (n := wr.heap.size) (y := y) rfl rfl (heap_alloc_new wr _) (by rfl) ?_
             intro w1 hn1 hO1
             have hB1 : Below w.heap.size w w1 := (hb.out.alloc hb.out.size _).trans (hO1.below (by simp; omega) hbw (fun k hk => by cases hk))
             have hz1 : w1.heap[w.heap.size]? = some (.cells #[.int .i64 0, .int .i64 0, .int .i64 0, .int .i64 0, .int .i64 0, .int .i64 0, .int .i64 0, .int .i64 0, .int .i64 0, .bool false, .int .i64 0, .int .i64 0, .int .i64 0, .int .i64 0, .int .i64 0, .int .i64 0, .int .i64 0, .int .i64 0, .int .i64 0, .int .i64 0, .int .i64 0, .int .i64 0, .int .i64 0, .bool false] 36 (0, 0)) := (hO1.block _ (by simp; omega) (by omega) (by simp)).trans ((Go.heap_alloc_old wr _ hlz).trans hz.out))
          | (refine wpList_load_ev _ rfl _ rfl rfl hn1 ?_)
          | (go_at_call 18; go_must (refine (is_fn y kx t _).mono ?_); rintro e w2 ⟨rfl, hw2⟩
             have hB2 : Below w1.heap.size w1 w2 := by rw [hw2]; exact (Below.refl _ _).alloc (Nat.le_refl _) _
             have hz2 := (hB2.block _ (lt_of_at hz1)).trans hz1
             replace hw2 := Lib.hid hw2))
        go_roundw
        case rel => exact ⟨i + 1, by omega, by go_num, hz2, hN, Below.add hB1 hB2⟩
        case measure => simp [intOf]; omega
    · have e1 : L.take i = L := List.take_of_length_le (by have := hn.out; omega)
      have b2 : ¬ (i : Int) < (n : Int) := by omega
      rw [e1] at hno
      go_wp2_with (refine wpList_store_ev _ rfl _ _ rfl rfl (n := w.heap.size) (y := default) rfl rfl hz.out (by rfl) ?_
                   intro w1 hn1 hO1)
      (try simp only [Exit.inBlock, Exit.then])
      refine bodyPost_ret (ret_ev (b := w.heap.size) (x := default) rfl rfl hn1) rfl ?_
      exact ⟨by rw [hno.out]; rfl, hb.out.trans (hO1.below hb.out.size (Nat.le_refl _) (fun k hk => by cases hk))⟩
end

end Go.Proofs.Ytdlfbkiihkhmmaa
