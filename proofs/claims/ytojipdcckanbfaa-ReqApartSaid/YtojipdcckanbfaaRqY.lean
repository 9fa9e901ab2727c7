/-
  Own walks: what bytes are read as, by the program; what is asked of it all.
-/
import Derived.Test.YtojipdcckanbfaaRqX
namespace Go.Proofs.Ytojipdcckanbfaa
open Go.RowKit

/-- A row of bytes without its first. -/
theorem row_tail {w : World} {b off cap : Nat} {c : UInt8} {t : List UInt8} (h : RowAt encB 1 w (.slice (some ⟨b, off, none⟩) (t.length + 1) cap) (c :: t)) : BRead w (.slice (some ⟨b, off + 1, none⟩) t.length (cap - 1)) t := by
  have h1 := row_bread h (by simp)
  rcases h1 with ⟨h1, _⟩ | ⟨b', off', cap', h1, hc⟩
  · cases h1
  · cases h1
    refine .inr ⟨b, off + 1, cap - 1, rfl, fun i hi => ?_⟩
    have := hc (i + 1) (by simp; omega)
    rw [show off + 1 + i = off + (i + 1) by omega, this]
    simp [List.getD]

theorem ret_req {fn : Func} {q u : Tmp} {b : Nat} {tmps : Array Value} {w : World} {x : Rq} (h : fn.results = #[.cell q 23, .tmp u]) (ha : tmps.getD q undef = .pointer (some ⟨b, 0, none⟩)) (hb : ReqAt w b x) :
    (results fn tmps).run Try.prog w = .ok (.tuple #[.agg (encR x).toArray, tmps.getD u undef]) w := by
  have h1 : Sem.run Try.prog (loadCells ⟨b, 0, none⟩ 9) w = .ok (encR x).toArray w := req_load hb (encR_len x)
  rw [results_cell_tmp h, ha]
  simp only [loadVar, asAddr, Sem.run_bind, Sem.run_pure, Result.andThen_ok, aE_req, zE_req, h1, if_true]
theorem setCell_same' {w : World} {b i : Nat} {v : Value} {cs : Array Value} {t : TypeId} {fz : Nat × Nat} (h : w.heap[b]? = some (.cells cs t fz)) (hv : cs[i]? = some v) : w.setCell ⟨b, i, none⟩ v = w := by
  have hlt := lt_of_at h
  have h3 : cs.setIfInBounds i v = cs := by
    refine Array.ext (by simp) fun q h4 h5 => ?_
    rw [Array.getElem_setIfInBounds]
    · by_cases eq : i = q
      · subst eq
        rw [Array.getElem?_eq_getElem h5] at hv
        rw [if_pos rfl]
        exact (Option.some.inj hv).symm
      · rw [if_neg eq]
  have e : ∀ F : Obj → Obj, F (.cells cs t fz) = .cells cs t fz → w.heap.modify b F = w.heap := fun F hF => by
    refine Array.ext (by simp) fun j h1 h2 => ?_
    rw [Array.getElem_modify]
    by_cases ej : b = j
    · subst ej
      rw [Array.getElem?_eq_getElem hlt] at h
      replace h := Option.some.inj h
      rw [if_pos rfl, h, hF]
    · rw [if_neg ej]
  unfold World.setCell
  rw [e _ (by simp [h3])]
theorem ReqAt.zero {w : World} {g : Nat} {r : Rq} (h : ReqAt w g r) (j : Nat) (u : Value) (hj : (encR r)[j]? = some u) : w.cell? ⟨g, j, none⟩ = some u ∧ w.frozen? ⟨g, j, none⟩ = false ∧ w.setCell ⟨g, j, none⟩ u = w := ⟨req_cells h j u hj, h.free j, setCell_same' h (by simpa using hj)⟩
/-- What Read asks of an ending. -/
def ReadE (l : List UInt8) (w : World) (e : Ending) (w' : World) : Prop := ∃ x q, e = .returned (.tuple #[.agg (encR x).toArray, .int .i64 q]) ∧ ReadP l x q ∧ Below w.heap.size w w'

section
variable {v : Value} {l : List UInt8} {w : World}
set_option maxRecDepth 1000000 in
set_option maxHeartbeats 4000000 in
theorem read_long (h : RowAt encB 1 w v l) (hl : l.length ≤ 100) (h64 : 64 < l.length) : Calls Try.prog 10 #[v] w (ReadE l w) := by
  obtain ⟨ao, cap, rfl, h1, h2, h3⟩ := h
  have hP : Hid (ReadP l zeroR 3) := .inl ⟨h64, rfl, rfl⟩
  obtain ⟨n, hn⟩ : ∃ n, n = l.length := ⟨_, rfl⟩
  rw [← hn] at hl h64 ⊢
  replace hn := Lib.hid hn
  clear h1 h2 h3
  have n1 : (64 : Int) < (n : Int) := by omega
  go_enter Try.func10, Try.ntmps10
  go_wp2_with fail
  (try simp only [Exit.inBlock, Exit.then])
  refine bodyPost_ret (ret_req (b := w.heap.size) (x := zeroR) rfl rfl (heap_alloc_new w _)) rfl ?_
  exact ⟨zeroR, 3, rfl, hP.out, (Below.refl _ _).alloc (Nat.le_refl _) _⟩

set_option maxRecDepth 1000000 in
set_option maxHeartbeats 4000000 in
theorem read_short (h : RowAt encB 1 w v l) (h3 : l.length < 3) : Calls Try.prog 10 #[v] w (ReadE l w) := by
  obtain ⟨ao, cap, rfl, h1, h2, _⟩ := h
  have hP : Hid (ReadP l zeroR 2) := .inr (.inl ⟨h3, rfl, rfl⟩)
  obtain ⟨n, hn⟩ : ∃ n, n = l.length := ⟨_, rfl⟩
  rw [← hn] at h3 ⊢
  replace hn := Lib.hid hn
  clear h1 h2
  have n1 : ¬ (64 : Int) < (n : Int) := by omega
  have n2 : (n : Int) < 3 := by omega
  go_enter Try.func10, Try.ntmps10
  go_wp2_with fail
  (try simp only [Exit.inBlock, Exit.then])
  refine bodyPost_ret (ret_req (b := w.heap.size) (x := zeroR) rfl rfl (heap_alloc_new w _)) rfl ?_
  exact ⟨zeroR, 2, rfl, hP.out, (Below.refl _ _).alloc (Nat.le_refl _) _⟩

set_option maxRecDepth 1000000 in
set_option maxHeartbeats 4000000 in
theorem read_mid (h : RowAt encB 1 w v l) (h3 : 3 ≤ l.length) (h64 : l.length ≤ 64) : Calls Try.prog 10 #[v] w (ReadE l w) := by
  obtain ⟨n, hn⟩ : ∃ n, n = l.length := ⟨_, rfl⟩
  obtain ⟨c0, c1, t, rfl⟩ : ∃ c0 c1 t, l = c0 :: c1 :: t := by
    match l, h3 with
    | c0 :: c1 :: t, _ => exact ⟨c0, c1, t, rfl⟩
  obtain ⟨ao, cap, rfl, h1, h2, h4⟩ := id h
  obtain ⟨b, off, rfl, hlt, _⟩ := h4 (by omega)
  rw [← hn] at h1 h3 h64 ⊢
  have htn : n = t.length + 2 := hn
  obtain ⟨wA, hwA⟩ : ∃ wA, wA = w.alloc (.cells #[.int .i64 0, .int .i64 0, .int .i64 0, .int .i64 0, .int .i64 0, .int .i64 0, .bool false, .int .i64 0, .int .i64 0] 23) := ⟨_, rfl⟩
  have hbA : Hid (Below w.heap.size w wA) := by show Below _ _ _; rw [hwA]; exact (Below.refl _ _).alloc (Nat.le_refl _) _
  have hsA : wA.heap.size = w.heap.size + 1 := by rw [hwA]; simp
  have hRA : ReqAt wA w.heap.size zeroR := by rw [hwA]; exact heap_alloc_new w _
  have hrowA := h.below hbA.out
  have htl : BRead wA (.slice (some ⟨b, off + 1, none⟩) (n - 1) (cap - 1)) (c1 :: t) := by
    have := row_tail (t := c1 :: t) hrowA
    rw [show (c1 :: t).length = n - 1 by rw [htn]; simp] at this
    exact this
  have hgs := guess_fn (c0 := c0) htn h64 h1 h2 htl
  rw [hwA] at hgs
  have hlong : ¬ (64 : Int) < (n : Int) := by omega
  have hshort : ¬ (n : Int) < 3 := by omega
  generalize hl : c0 :: c1 :: t = l at *
  rw [← hn] at hrowA
  replace hn := Lib.hid hn
  replace htn := Lib.hid htn
  replace hl := Lib.hid hl
  clear h htl h1 h2 h4 hlt
  go_enter Try.func10, Try.ntmps10
  go_wp2_with fail
  go_at_call 17
  refine hgs.mono ?_
  clear hgs
  rw [← hwA]
  rintro e w1 ⟨x, rfl, hx, he1⟩
  have hR1 : ReqAt w1 w.heap.size zeroR := hRA.ext he1 (by omega)
  have hb1 : Hid (Below w.heap.size w w1) := hbA.out.trans (he1.mono (by omega))
  have hs1 : w.heap.size < w1.heap.size := hR1.lt
  have hrow1 := hrowA.below he1
  replace hwA := Lib.hid hwA
  clear he1 hRA hbA hrowA hsA
  have lR := encR_len x
  have hst := store_new w1 w1.heap.size (encR x) (encR zeroR) 23 rfl rfl (encR_one x)
  rw [show (encR zeroR).toArray = #[.int .i64 0, .int .i64 0, .int .i64 0, .int .i64 0, .int .i64 0, .int .i64 0, .bool false, .int .i64 0, .int .i64 0] from rfl] at hst
  obtain ⟨w2, hw2⟩ : ∃ w2, w2 = w1.alloc (.cells (encR x).toArray 23) := ⟨_, rfl⟩
  have hQ2 : ReqAt w2 w1.heap.size x := by rw [hw2]; exact heap_alloc_new w1 _
  have hR2 : ReqAt w2 w.heap.size zeroR := by rw [hw2]; exact hR1.past _
  have hb2 : Hid (Below w.heap.size w w2) := by show Below _ _ _; rw [hw2]; exact hb1.out.alloc (by omega) _
  have hrow2 : RowAt encB 1 w2 (.slice (some ⟨b, off, none⟩) n cap) l := hrow1.below (by rw [hw2]; exact (Below.refl _ _).alloc (Nat.le_refl _) _)
  have hld := req_load hQ2 (encR_len x)
  rw [hw2] at hld
  replace hx := Lib.hid hx
  clear hR1 hb1 hrow1
  by_cases hrt : rightQ x = true
  · have hput := put_fn x w2 hx.out.1 hrt
    rw [hw2] at hput
    go_wp2_with fail
    go_at_call 6
    change Calls _ _ #[.agg (encR x).toArray] _ _
    refine hput.mono ?_
    clear hput hld hst
    rw [← hw2]
    rintro e w3 ⟨v3, rfl, hrow3, he3⟩
    have hR3 : ReqAt w3 w.heap.size zeroR := hR2.below he3
    have hQ3 : ReqAt w3 w1.heap.size x := hQ2.below he3
    have hb3 : Hid (Below w.heap.size w w3) := hb2.out.trans (he3.mono hb2.out.size)
    have heq := Equal_fn hrow3 (hrow2.below he3)
    replace hw2 := Lib.hid hw2
    clear hR2 hQ2 hb2 hrow2 hrow3 he3
    by_cases hel : encQ x = l
    · rw [decide_eq_true hel] at heq
      have hP : Hid (ReadP l x 0) := .inr (.inr ⟨by rw [← hn.out]; exact h3, by rw [← hn.out]; exact h64, .inl ⟨hx.out.1, hrt, hel, rfl⟩⟩)
      have lR := encR_len x
      have zR := zE_req
      obtain ⟨k9, hk9⟩ : ∃ k, k = 9 := ⟨_, rfl⟩
      rw [← hk9] at lR zR
      replace hk9 := Lib.hid hk9
      have hld := req_load hQ3 lR
      obtain ⟨hst, hR4⟩ := hR3.store x
      have hb4 : Hid (Below w.heap.size w (w3.setRow w.heap.size (encR x).toArray)) := belowS hb3.out (Nat.le_refl _) _
      clear hel hQ3 hR3 hb3
      go_wp2_with (go_at_call 18; go_must (refine heq.mono ?_); rintro e w' ⟨rfl, rfl⟩)
      (try simp only [Exit.inBlock, Exit.then])
      refine bodyPost_ret (ret_req (b := w.heap.size) (x := x) rfl rfl hR4) rfl ?_
      exact ⟨x, 0, rfl, hP.out, hb4.out⟩
    · rw [decide_eq_false hel] at heq
      have hP : Hid (ReadP l zeroR 4) := .inr (.inr ⟨by rw [← hn.out]; exact h3, by rw [← hn.out]; exact h64, .inr ⟨fun r fr rr er => hel (by rw [hx.out.2 r fr rr er]; exact er), rfl, rfl⟩⟩)
      obtain ⟨a0, f0, s0⟩ := hR3.zero 0 (.int .i64 0) rfl
      obtain ⟨a1, f1, s1⟩ := hR3.zero 1 (.int .i64 0) rfl
      obtain ⟨a2, f2, s2⟩ := hR3.zero 2 (.int .i64 0) rfl
      obtain ⟨a3, f3, s3⟩ := hR3.zero 3 (.int .i64 0) rfl
      obtain ⟨a4, f4, s4⟩ := hR3.zero 4 (.int .i64 0) rfl
      obtain ⟨a5, f5, s5⟩ := hR3.zero 5 (.int .i64 0) rfl
      obtain ⟨a6, f6, s6⟩ := hR3.zero 6 (.bool false) rfl
      obtain ⟨a7, f7, s7⟩ := hR3.zero 7 (.int .i64 0) rfl
      obtain ⟨a8, f8, s8⟩ := hR3.zero 8 (.int .i64 0) rfl
      clear hel hQ3
      go_wp2_with (go_at_call 18; go_must (refine heq.mono ?_); rintro e w' ⟨rfl, rfl⟩)
      (try simp only [Exit.inBlock, Exit.then])
      refine bodyPost_ret (ret_req (b := w.heap.size) (x := zeroR) rfl rfl hR3) rfl ?_
      exact ⟨zeroR, 4, rfl, hP.out, hb3.out⟩
  · have hrf : rightQ x = false := by simpa using hrt
    have hbad := bad_fn x w2 hrf
    rw [hw2] at hbad
    have hP : Hid (ReadP l zeroR 4) := .inr (.inr ⟨by rw [← hn.out]; exact h3, by rw [← hn.out]; exact h64, .inr ⟨fun r fr rr er => hrt (by rw [hx.out.2 r fr rr er]; exact rr), rfl, rfl⟩⟩)
    clear hrt hrf
    go_wp2_with fail
    go_at_call 6
    change Calls _ _ #[.agg (encR x).toArray] _ _
    refine hbad.mono ?_
    clear hbad hld hst
    rw [← hw2]
    rintro e w3 ⟨rfl, he3⟩
    have hR3 : ReqAt w3 w.heap.size zeroR := hR2.below he3
    have hb3 : Hid (Below w.heap.size w w3) := hb2.out.trans (he3.mono hb2.out.size)
    replace hw2 := Lib.hid hw2
    clear hR2 hQ2 hb2 hrow2 he3
    obtain ⟨a0, f0, s0⟩ := hR3.zero 0 (.int .i64 0) rfl
    obtain ⟨a1, f1, s1⟩ := hR3.zero 1 (.int .i64 0) rfl
    obtain ⟨a2, f2, s2⟩ := hR3.zero 2 (.int .i64 0) rfl
    obtain ⟨a3, f3, s3⟩ := hR3.zero 3 (.int .i64 0) rfl
    obtain ⟨a4, f4, s4⟩ := hR3.zero 4 (.int .i64 0) rfl
    obtain ⟨a5, f5, s5⟩ := hR3.zero 5 (.int .i64 0) rfl
    obtain ⟨a6, f6, s6⟩ := hR3.zero 6 (.bool false) rfl
    obtain ⟨a7, f7, s7⟩ := hR3.zero 7 (.int .i64 0) rfl
    obtain ⟨a8, f8, s8⟩ := hR3.zero 8 (.int .i64 0) rfl
    go_wp2_with fail
    (try simp only [Exit.inBlock, Exit.then])
    refine bodyPost_ret (ret_req (b := w.heap.size) (x := zeroR) rfl rfl hR3) rfl ?_
    exact ⟨zeroR, 4, rfl, hP.out, hb3.out⟩

theorem read_fn (h : RowAt encB 1 w v l) (hl : l.length ≤ 100) : Calls Try.prog 10 #[v] w (ReadE l w) := by
  by_cases h64 : 64 < l.length
  · exact read_long h hl h64
  by_cases h3 : l.length < 3
  · exact read_short h h3
  · exact read_mid h (by omega) (by omega)
end

theorem specQ : RqSpec where
  right := Right_fn
  put := put_fn
  bad := fun r w _ hr => (bad_fn r w hr).mono fun _ _ h => ⟨none, 0, h.1, h.2⟩
  read := fun _ _ _ h hl => read_fn h hl

end Go.Proofs.Ytojipdcckanbfaa
