/-
  Own walk: the statement on how many jobs may live.
-/
import Derived.Test.YtmlmehpcfgchgaaJbN
import Derived.BigQuiet
namespace Go.Proofs.Ytmlmehpcfgchgaa
open Go.RowKit Go.Sort Go.Lib Go.Shelf Put

theorem liveL_all {L : List Jb} (h : ∀ j ∈ L, j.state ≤ 2) : liveL L = L.length := by
  unfold liveL
  rw [List.countP_eq_length]
  intro j hj
  have := h j hj
  exact decide_eq_true (by omega)
theorem liveL_set {L : List Jb} {k : Nat} {x : Jb} (hk : k < L.length) (hx : 4 ≤ x.state) : liveL (L.set k x) < L.length := by
  have h1 : liveL (L.set k x) ≤ (L.set k x).length := List.countP_le_length
  have h2 : (L.set k x).length = L.length := List.length_set
  have h3 : liveL (L.set k x) ≠ (L.set k x).length := by
    intro e
    unfold liveL at e
    rw [List.countP_eq_length] at e
    have := e x (List.mem_iff_getElem.2 ⟨k, by omega, by simp⟩)
    simp only [decide_eq_true_eq] at this
    omega
  omega
/-- One cell of a block of its own. -/
theorem set_boxT {w : World} {T : TypeId} {b j : Nat} {u : Value} {cs : List Value} (hb : w.heap[b]? = some (.cells cs.toArray T (0, 0))) :
    (w.setCell ⟨b, j, none⟩ u).heap[b]? = some (.cells (cs.set j u).toArray T (0, 0)) ∧ Off b b w (w.setCell ⟨b, j, none⟩ u) := by
  have hlt := Put.lt_of_heap hb
  refine ⟨?_, (Off.refl b b w).setCell (.inl rfl)⟩
  rw [Array.getElem?_eq_getElem hlt] at hb
  replace hb := Option.some.inj hb
  simp [World.setCell, hlt, Array.getElem_modify, hb]
theorem cells_boxT {w : World} {T : TypeId} {b : Nat} {cs : List Value} (h : w.heap[b]? = some (.cells cs.toArray T (0, 0))) : ∀ j u, cs[j]? = some u → w.cell? ⟨b, j, none⟩ = some u ∧ w.frozen? ⟨b, j, none⟩ = false := fun j u hj =>
  ⟨by simp [World.cell?, h, hj], by simp [World.frozen?, h]⟩
def fullR (held : Bool) : Rq := ⟨0, 0, 0, 1, 1, 0, held, 0, 0⟩
theorem fullR_ok (held : Bool) : rightF (fullR held) = 0 := by simp [rightF, fullR]

/-- What is known as jobs are asked for: so many, all of which live; the request's block stays. -/
structure FullV (w wr : World) (held : Bool) (c : Nat) (v : Value) (L : List Jb) : Prop where
  good : Good L
  st : ∀ j ∈ L, j.state ≤ 2
  len : L.length = c
  one : OneV w wr w.heap.size v L
  box : wr.heap[w.heap.size + 1]? = some (.cells (encR (fullR held)).toArray 23 (0, 0))
  ap : v.ownBlock ≠ some (w.heap.size + 1)
theorem FullV.sub {w wr w' : World} {held : Bool} {c : Nat} {v v' : Value} {L : List Jb} (h : FullV w wr held c v L) (hc : c < 64) (ht : TV w' w.heap.size v' (subL L (fullR held))) (hq : QOff w.heap.size v.ownBlock wr w') (hn : NewO wr v.ownBlock v'.ownBlock) : FullV w w' held (c + 1) v' (subL L (fullR held)) := by
  have e : subL L (fullR held) = L ++ [newJ L (fullR held)] := by
    unfold subL
    rw [if_neg (by rw [fullR_ok]; decide), if_neg (by rw [liveL_all h.st, h.len]; omega)]
  refine ⟨Good.sub h.good _, ?_, by rw [e, List.length_append, h.len]; rfl, h.one.step ht hq hn, ?_, ?_⟩
  · rw [e]
    intro j hj
    rcases List.mem_append.1 hj with hj | hj
    · exact h.st j hj
    · rw [List.mem_singleton] at hj
      subst hj
      show (if held = true then (2 : Int) else 1) ≤ 2
      split <;> omega
  · rw [hq.block _ (Put.lt_of_heap h.box) (by omega) h.ap]; exact h.box
  · intro k
    have hl := Put.lt_of_heap h.box
    rcases hn with e1 | ⟨g, e1, hg⟩
    · exact h.ap (e1 ▸ k)
    · rw [e1] at k; cases k; omega
theorem FullV.no {w wr w' : World} {held : Bool} {v v' : Value} {L : List Jb} (h : FullV w wr held 64 v L) (ht : TV w' w.heap.size v' (subL L (fullR held))) (hq : QOff w.heap.size v.ownBlock wr w') (hn : NewO wr v.ownBlock v'.ownBlock) : FullV w w' held 64 v' L := by
  have e : subL L (fullR held) = L := by
    unfold subL
    rw [if_neg (by rw [fullR_ok]; decide), if_pos (by rw [liveL_all h.st, h.len]; omega)]
  rw [e] at ht
  refine ⟨h.good, h.st, h.len, h.one.step ht hq hn, ?_, ?_⟩
  · rw [hq.block _ (Put.lt_of_heap h.box) (by omega) h.ap]; exact h.box
  · intro k
    have hl := Put.lt_of_heap h.box
    rcases hn with e1 | ⟨g, e1, hg⟩
    · exact h.ap (e1 ▸ k)
    · rw [e1] at k; cases k; omega
theorem FullV.lt {w wr : World} {held : Bool} {c : Nat} {v : Value} {L : List Jb} (h : FullV w wr held c v L) (hc : c < 64) : subId L (fullR held) = (c : Int) + 1 ∧ subE L (fullR held) = 0 := by
  have a1 : ¬ rightF (fullR held) ≠ 0 := by rw [fullR_ok]; decide
  have a2 : ¬ (64 ≤ liveL L ∨ 1024 ≤ L.length) := by rw [liveL_all h.st, h.len]; omega
  unfold subId subE
  rw [if_neg a1, if_neg a2, if_neg a1, if_neg a2, h.len]
  exact ⟨rfl, rfl⟩
theorem FullV.ge {w wr : World} {held : Bool} {v : Value} {L : List Jb} (h : FullV w wr held 64 v L) : subId L (fullR held) = 0 ∧ subE L (fullR held) = 6 := by
  have a1 : ¬ rightF (fullR held) ≠ 0 := by rw [fullR_ok]; decide
  have a2 : 64 ≤ liveL L ∨ 1024 ≤ L.length := by rw [liveL_all h.st, h.len]; omega
  unfold subId subE
  rw [if_neg a1, if_pos a2, if_neg a1, if_pos a2]
  exact ⟨rfl, rfl⟩
/-- One of them is cancelled. -/
def cancL (L : List Jb) : List Jb := L.set 6 (finishJ 5 0 L[6]!)
theorem FullV.cancel {w wr : World} {held : Bool} {c : Nat} {v : Value} {L : List Jb} (h : FullV w wr held c v L) (h1 : 60 ≤ c) (h2 : c ≤ 64) :
    stepE L (finishE 5 0) 7 (endOk 5) = 0 ∧ stepL L (finishE 5 0) 7 (endOk 5) (finishJ 5 0) = cancL L ∧ (∀ j ∈ cancL L, 1 ≤ j.state ∧ j.state ≤ 6) ∧ (cancL L).length = c ∧ subId (cancL L) (fullR held) = (c : Int) + 1 ∧ subE (cancL L) (fullR held) = 0 := by
  have hl := h.len
  have h6 : 6 < L.length := by omega
  have hm : L[6]! ∈ L := by rw [getElem!_pos L 6 h6]; exact List.getElem_mem _
  have hs := h.st _ hm
  have e0 : finishE 5 0 = 0 := by decide
  have e1 : stepE L (finishE 5 0) 7 (endOk 5) = 0 := by
    unfold stepE
    rw [e0, if_neg (by decide), if_neg (by decide), if_neg (by omega), show ((7 : Int) - 1).toNat = 6 from rfl, if_pos (by unfold endOk; simp only [Bool.or_eq_true, Bool.and_eq_true, decide_eq_true_eq]; right; exact ⟨trivial, hs⟩)]
  have hx : (finishJ 5 0 L[6]!).state = 5 := rfl
  have hlen : (cancL L).length = c := by unfold cancL; rw [List.length_set, hl]
  have hlv : liveL (cancL L) < L.length := liveL_set h6 (by rw [hx]; decide)
  have a1 : ¬ rightF (fullR held) ≠ 0 := by rw [fullR_ok]; decide
  have a2 : ¬ (64 ≤ liveL (cancL L) ∨ 1024 ≤ (cancL L).length) := by omega
  refine ⟨e1, ?_, ?_, hlen, ?_, ?_⟩
  · unfold stepL
    rw [if_pos e1]
    rfl
  · intro j hj
    rcases List.mem_or_eq_of_mem_set hj with hj | rfl
    · exact h.good.st j hj
    · rw [hx]; decide
  · unfold subId; rw [if_neg a1, if_neg a2, hlen]
  · unfold subE; rw [if_neg a1, if_neg a2]

set_option maxRecDepth 1000000 in
set_option maxHeartbeats 4000000 in
theorem full_walk (n : Int) (held : Bool) (w : World) : Calls Try.prog 6 #[.int .i64 n, .bool held] w fun e w' => e = .returned (.bool true) ∧ Below w.heap.size w w' := by
  have haw := fun W => awake_any W
  by_cases c1 : n < 60
  · have d1 : decide (n < 60) = true := decide_eq_true c1
    go_enter Try.func6, Try.ntmps6
    go_wp2_with (go_at_call 10; go_must (refine (haw _).mono ?_); rintro e w' ⟨rfl, hb⟩)
    go_ret
    exact ⟨rfl, hb⟩
  have d1 : decide (n < 60) = false := decide_eq_false c1
  by_cases c2 : 70 < n
  · have d2 : decide (70 < n) = true := decide_eq_true c2
    go_enter Try.func6, Try.ntmps6
    go_wp2_with (go_at_call 10; go_must (refine (haw _).mono ?_); rintro e w' ⟨rfl, hb⟩)
    go_ret
    exact ⟨rfl, hb⟩
  have d2 : decide (70 < n) = false := decide_eq_false c2
  obtain ⟨N, rfl⟩ : ∃ N : Nat, n = (N : Int) := ⟨n.toNat, by omega⟩
  have hN1 : 60 ≤ N := by omega
  have hN2 : N ≤ 70 := by omega
  clear c1 c2
  have zR := zE_req
  obtain ⟨k9, hk9⟩ : ∃ k, k = 9 := ⟨_, rfl⟩
  have lR := encR_len (fullR held)
  rw [← hk9] at zR lR
  replace hk9 := Lib.hid hk9
  replace zR := Lib.hid zR
  have hnew := New_fn w
  have hT0 := OneV.new w
  have hs1 : (w.alloc (.cells #[.bool true, .slice none 0 0] 61)).heap.size = w.heap.size + 1 := by simp
  obtain ⟨w1, hw1⟩ : ∃ w1, w1 = w.alloc (.cells #[.bool true, .slice none 0 0] 61) := ⟨_, rfl⟩
  rw [← hw1] at hnew hT0 hs1
  replace hw1 := Lib.hid hw1
  have hZ : (w1.alloc (.cells #[.int .i64 0, .int .i64 0, .int .i64 0, .int .i64 1, .int .i64 1, .int .i64 0, .bool held, .int .i64 0, .int .i64 0] 23)).heap[w.heap.size + 1]? = some (.cells (encR (fullR held)).toArray 23 (0, 0)) := by
    have := heap_alloc_new w1 (.cells #[.int .i64 0, .int .i64 0, .int .i64 0, .int .i64 1, .int .i64 1, .int .i64 0, .bool held, .int .i64 0, .int .i64 0] 23)
    rw [hs1] at this
    exact this
  have hT2 := hT0.kept ((Below.refl w1.heap.size w1).alloc (Nat.le_refl _) (.cells #[.int .i64 0, .int .i64 0, .int .i64 0, .int .i64 1, .int .i64 1, .int .i64 0, .bool held, .int .i64 0, .int .i64 0] 23))
  obtain ⟨w3, hw3⟩ : ∃ w3, w3 = w1.alloc (.cells #[.int .i64 0, .int .i64 0, .int .i64 0, .int .i64 1, .int .i64 1, .int .i64 0, .bool held, .int .i64 0, .int .i64 0] 23) := ⟨_, rfl⟩
  rw [← hw3] at hZ hT2
  have hF : FullV w w3 held 0 (.slice none 0 0) [] := ⟨Good.nil, fun j hj => by simp at hj, rfl, hT2, hZ, fun e => by simp [Value.ownBlock] at e⟩
  replace hF := Lib.hid hF
  clear hT0 hT2 hZ
  go_enter Try.func6, Try.ntmps6
  go_wp2_with fail
  go_at_call 11
  refine hnew.mono ?_
  clear hnew
  rintro e w1' ⟨rfl, rfl⟩
  go_wp2_with fail
  rw [← hw3]
  replace hw3 := Lib.hid hw3
  clear hs1
  replace zR := zR.out
  go_loopw [7] (fun ii wr => ∃ (i c : Nat) (L : List Jb) (v : Value), i ≤ N ∧ ii = .int .i64 ((i : Int) + 1) ∧ Hid (c = if i ≤ 64 then i else 64) ∧ FullV w wr held c v L) (fun ii _ => N + 1 - (intOf ii).toNat)
  case atStart => exact ⟨0, 0, [], _, Nat.zero_le _, rfl, Lib.hid rfl, hF.out⟩
  case round =>
    obtain ⟨i, c, L, v, hiN, rfl, hc, hV⟩ := hrel
    clear hF
    have hcl : c ≤ 64 := by rw [hc.out]; split <;> omega
    by_cases hlt : i < N
    · have b2 : (i : Int) + 1 ≤ (N : Int) := by omega
      have wi : IntKind.i64.wrap ((i : Int) + 1 + 1) = (i : Int) + 1 + 1 := by rw [IntKind.wrap_i64]; omega
      have lr := (show Sem.run Try.prog (loadCellsFrom ⟨w.heap.size + 1, 0, none⟩ 0 k9 #[]) wr = .ok (encR (fullR held)).toArray wr from run_loadCellsFrom_list Try.prog wr _ _ k9 lR fun j u hj => by rw [Go.WideShapes.add_plain]; simpa using req_cells hV.box j u hj)
      have hS := Submit_fn hV.one.tv hV.good.st (by have := hV.len; omega) (fullR held)
      unfold SubPost at hS
      by_cases h64 : i < 64
      · have ec : c = i := by rw [hc.out, if_pos (by omega)]
        subst ec
        obtain ⟨e1, e2⟩ := hV.lt h64
        rw [e1, e2] at hS
        have d3 : decide ((c : Int) + 1 ≤ 64) = true := decide_eq_true (by omega)
        have d4 : decide ((64 : Int) < (c : Int) + 1) = false := decide_eq_false (by omega)
        have d5 : (((c : Int) + 1) != ((c : Int) + 1)) = false := by simp
        clear e1 e2
        replace hV := Lib.hid hV
        go_wp2_with fail
        go_at_call 12
        refine hS.mono ?_
        clear hS lr
        rintro e w4 ⟨rfl, v4, ht, hq, hn⟩
        have hV4 := Lib.hid (hV.out.sub h64 ht hq hn)
        clear ht hq hn hV
        go_wp2_with fail
        go_roundw
        case rel => exact ⟨c + 1, c + 1, _, v4, by omega, by go_num, Lib.hid (by rw [if_pos (by omega)]), hV4.out⟩
        case measure => simp [intOf]; omega
      · have ec : c = 64 := by rw [hc.out]; split <;> omega
        subst ec
        obtain ⟨e1, e2⟩ := hV.ge
        rw [e1, e2] at hS
        have d3 : decide ((i : Int) + 1 ≤ 64) = false := decide_eq_false (by omega)
        have d4 : decide ((64 : Int) < (i : Int) + 1) = true := decide_eq_true (by omega)
        clear e1 e2
        replace hV := Lib.hid hV
        go_wp2_with fail
        go_at_call 12
        refine hS.mono ?_
        clear hS lr
        rintro e w4 ⟨rfl, v4, ht, hq, hn⟩
        have hV4 := Lib.hid (hV.out.no ht hq hn)
        clear ht hq hn hV
        go_wp2_with fail
        go_roundw
        case rel => exact ⟨i + 1, 64, L, v4, by omega, by go_num, Lib.hid (by rw [if_neg (by omega)]), hV4.out⟩
        case measure => simp [intOf]; omega
    · obtain rfl : i = N := by omega
      have b2 : ¬ (i : Int) + 1 ≤ (i : Int) := by omega
      have wn : IntKind.i64.wrap ((i : Int) + 1) = (i : Int) + 1 := by rw [IntKind.wrap_i64]; omega
      have hc60 : 60 ≤ c := by rw [hc.out]; split <;> omega
      obtain ⟨s1, s2, s3, s4, s5, s6⟩ := hV.cancel hc60 hcl
      have hFn := Finish_fn hV.one.tv 7 5 0 hV.good.st
      unfold CallPost at hFn
      rw [s1, s2] at hFn
      generalize cancL L = M at *
      have HS : Hid (∀ W, TV W w.heap.size v M → Calls Try.prog 12 #[.pointer (some ⟨w.heap.size, 0, none⟩), .agg (encR (fullR held)).toArray] W fun e W' => e = .returned (.tuple #[.int .i64 ((c : Int) + 1), .int .i64 0]) ∧ ∃ v', TV W' w.heap.size v' (subL M (fullR held)) ∧ QOff w.heap.size v.ownBlock W W' ∧ NewO W v.ownBlock v'.ownBlock) := fun W hW => by
        have := Submit_fn hW s3 (by omega) (fullR held)
        unfold SubPost at this
        rw [s5, s6] at this
        exact this
      clear s1 s2 s3 s5 s6
      replace hV := Lib.hid hV
      replace s4 := Lib.hid s4
      have hcn : (i ≤ 64 ∧ c = i) ∨ (64 < i ∧ c = 64) := by
        rw [hc.out]
        by_cases h : i ≤ 64
        · exact .inl ⟨h, if_pos h⟩
        · exact .inr ⟨by omega, if_neg h⟩
      clear hc
      rcases hcn with ⟨h6, rfl⟩ | ⟨h6, rfl⟩
      · have d6 : decide ((64 : Int) < (c : Int)) = false := decide_eq_false (by omega)
        go_wp2_with fail
        go_at_call 28
        refine hFn.mono ?_
        clear hFn
        rintro e w4 ⟨rfl, ht, hq⟩
        have hb4 := (hq.block _ (Put.lt_of_heap hV.out.box) (by omega) hV.out.ap).trans hV.out.box
        have h4 := hV.out.one.step ht hq (NewO.refl _ _)
        have lr := (show Sem.run Try.prog (loadCellsFrom ⟨w.heap.size + 1, 0, none⟩ 0 k9 #[]) w4 = .ok (encR (fullR held)).toArray w4 from run_loadCellsFrom_list Try.prog w4 _ _ k9 lR fun j u hj => by rw [Go.WideShapes.add_plain]; simpa using req_cells hb4 j u hj)
        have hS := HS.out w4 ht
        replace h4 := Lib.hid h4
        clear ht hq hb4 hV HS
        go_wp2_with fail
        go_at_call 12
        refine hS.mono ?_
        clear hS lr
        rintro e w5 ⟨rfl, v5, ht, hq, hn⟩
        have h5 := h4.out.step ht hq hn
        have hfr := h5.fr
        clear h5 h4 ht hq hn
        go_wp2_with (go_at_call 10; go_must (refine (haw _).mono ?_); rintro e w' ⟨rfl, hb⟩)
        go_ret
        exact ⟨rfl, hfr.trans (hb.mono hfr.size)⟩
      · have d6 : decide ((64 : Int) < (i : Int)) = true := decide_eq_true (by omega)
        go_wp2_with fail
        go_at_call 28
        refine hFn.mono ?_
        clear hFn
        rintro e w4 ⟨rfl, ht, hq⟩
        have hb4 := (hq.block _ (Put.lt_of_heap hV.out.box) (by omega) hV.out.ap).trans hV.out.box
        have h4 := hV.out.one.step ht hq (NewO.refl _ _)
        have lr := (show Sem.run Try.prog (loadCellsFrom ⟨w.heap.size + 1, 0, none⟩ 0 k9 #[]) w4 = .ok (encR (fullR held)).toArray w4 from run_loadCellsFrom_list Try.prog w4 _ _ k9 lR fun j u hj => by rw [Go.WideShapes.add_plain]; simpa using req_cells hb4 j u hj)
        have hS := HS.out w4 ht
        replace h4 := Lib.hid h4
        clear ht hq hb4 hV HS
        go_wp2_with fail
        go_at_call 12
        refine hS.mono ?_
        clear hS lr
        rintro e w5 ⟨rfl, v5, ht, hq, hn⟩
        have h5 := h4.out.step ht hq hn
        have hfr := h5.fr
        clear h5 h4 ht hq hn
        go_wp2_with (go_at_call 10; go_must (refine (haw _).mono ?_); rintro e w' ⟨rfl, hb⟩)
        go_ret
        exact ⟨rfl, hfr.trans (hb.mono hfr.size)⟩

end Go.Proofs.Ytmlmehpcfgchgaa
