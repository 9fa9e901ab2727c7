/-
  Own words and walks: a queue of jobs in memory; how many there are, which is first.
-/
import Derived.Test.YtenpdglmmbkmkaaOsB
import Derived.Test.YtenpdglmmbkmkaaOwnP
import Derived.Laws.ResultCell
namespace Go.Proofs.Ytenpdglmmbkmkaa
open Go.RowKit Go.Sort Go.Lib Go.Shelf Put

/-- A queue in memory: the slice in it, whose row is its own. -/
structure QV (w : World) (p : Nat) (v : Value) (L : List Jb) : Prop where
  cell : w.heap[p]? = some (.cells #[v] 36 (0, 0))
  own : w.ownsRow 0 24 10 v L.length (L.flatMap encJ)

/-- A result that is a job in a block of its own, and a truth beside it. -/
theorem ret_job {fn : Func} {q u : Tmp} {b : Nat} {tmps : Array Value} {w : World} {cs : List Value} (h : fn.results = #[.cell q 24, .tmp u]) (ha : tmps.getD q undef = .pointer (some ⟨b, 0, none⟩)) (hb : w.heap[b]? = some (.cells cs.toArray 24 (0, 0))) (hl : cs.length = 10) :
    (results fn tmps).run Try.prog w = .ok (.tuple #[.agg cs.toArray, tmps.getD u undef]) w := by
  have h1 : Sem.run Try.prog (loadCells ⟨b, 0, none⟩ 10) w = .ok cs.toArray w := load_box hb hl
  rw [results_cell_tmp h, ha]
  simp only [loadVar, asAddr, Sem.run_bind, Sem.run_pure, Result.andThen_ok, aE_job, zE_job, h1, if_true]

section
variable {w w' : World} {p : Nat} {v : Value} {L : List Jb}
theorem QV.lt (h : QV w p v L) : p < w.heap.size := Put.lt_of_heap h.cell
theorem QV.kept (h : QV w p v L) (hb : Below w.heap.size w w') : QV w' p v L := ⟨by rw [hb.block p h.lt]; exact h.cell, Put.own_kept h.own hb⟩
theorem QV.c0 (h : QV w p v L) : w.cell? ⟨p, 0, none⟩ = some v := by simp [World.cell?, h.cell]
theorem QV.fz (h : QV w p v L) : w.frozen? ⟨p, 0, none⟩ = false := by simp [World.frozen?, h.cell]
/-- The row's block is not the queue's. -/
theorem QV.ne {g n cap : Nat} (h : QV w p (.slice (some ⟨g, 0, none⟩) n cap) L) : p ≠ g := by
  rcases h.own.2 with ⟨e0, _⟩ | ⟨g', cap', cur, e0, _, hg, _⟩
  · cases e0
  · cases e0
    exact Put.apart_types h.cell hg (by decide)
/-- What is read of its jobs. -/
theorem QV.row {g n cap : Nat} (h : QV w p (.slice (some ⟨g, 0, none⟩) n cap) L) : JRow w g 0 L := by
  have hr := RowAt.of_own h.own encJ_len rfl rfl
  refine ⟨(h.own.lt g rfl).2, fun i s j u hi hj => ?_⟩
  obtain ⟨ao, cap', e, _, _, q3⟩ := hr
  cases e
  obtain ⟨b, off, e1, _, q⟩ := q3 (by have := (List.getElem?_eq_some_iff.1 hi).1; omega)
  cases e1
  exact q i s j u hi hj

theorem Len_any (h : QV w p v L) : Calls Try.prog 18 #[.pointer (some ⟨p, 0, none⟩)] w fun e w' => e = .returned (.int .i64 L.length) ∧ w = w' := by
  have c0 := h.c0
  have hle := own_len h.own
  obtain ⟨ao, cap, rfl, _⟩ := own_shape h.own
  clear h
  go_enter Try.func18, Try.ntmps18
  go_wp2_with fail
  go_ret
  exact ⟨rfl, rfl⟩
theorem Len_nil (w : World) : Calls Try.prog 18 #[.pointer none] w fun e w' => e = .returned (.int .i64 0) ∧ w = w' := by
  go_enter Try.func18, Try.ntmps18
  go_wp2_with fail
  go_ret
  exact ⟨rfl, rfl⟩

/-- What Peek tells: draws and new blocks alone. -/
def PeekPost (w : World) (j : Jb) (b : Bool) (e : Ending) (w' : World) : Prop := e = .returned (.tuple #[.agg (encJ j).toArray, .bool b]) ∧ Gr w w'
theorem Gr.one (w : World) (o : Obj) : Gr w (w.alloc o) := ⟨0, #[o], by rw [Go.Sort.alloc_eq_grow]; rfl⟩

set_option maxRecDepth 100000 in
theorem Peek_zero (q : Option Addr) (w : World) (hl : Calls Try.prog 18 #[.pointer q] (w.alloc (.cells #[.int .i64 0, .int .i64 0, .int .i64 0, .int .i64 0, .int .i64 0, .int .i64 0, .int .i64 0, .int .i64 0, .int .i64 0, .int .u64 0] 24)) fun e w' => e = .returned (.int .i64 0) ∧ w.alloc (.cells #[.int .i64 0, .int .i64 0, .int .i64 0, .int .i64 0, .int .i64 0, .int .i64 0, .int .i64 0, .int .i64 0, .int .i64 0, .int .u64 0] 24) = w') :
    Calls Try.prog 14 #[.pointer q] w (PeekPost w default false) := by
  have hg := Lib.hid (Gr.one w (.cells #[.int .i64 0, .int .i64 0, .int .i64 0, .int .i64 0, .int .i64 0, .int .i64 0, .int .i64 0, .int .i64 0, .int .i64 0, .int .u64 0] 24))
  go_enter Try.func14, Try.ntmps14
  go_wp2_with (go_at_call 18; go_must (refine hl.mono ?_); rintro e w' ⟨rfl, rfl⟩)
  (try simp only [Exit.inBlock, Exit.then])
  refine bodyPost_ret (ret_job (b := w.heap.size) (cs := encJ default) rfl rfl (heap_alloc_new w _) (encJ_len _)) rfl ?_
  exact ⟨rfl, hg.out⟩

set_option maxRecDepth 100000 in
theorem Peek_some (h : QV w p v L) (hL : 0 < L.length) : Calls Try.prog 14 #[.pointer (some ⟨p, 0, none⟩)] w (PeekPost w L[0]! true) := by
  have zE := zE_job
  have h1 := h.kept ((Below.refl w.heap.size w).alloc (Nat.le_refl _) (.cells #[.int .i64 0, .int .i64 0, .int .i64 0, .int .i64 0, .int .i64 0, .int .i64 0, .int .i64 0, .int .i64 0, .int .i64 0, .int .u64 0] 24))
  have hl := Len_any h1
  have c0 := h1.c0
  obtain ⟨g, cap, rfl, _⟩ : ∃ g cap, v = .slice (some ⟨g, 0, none⟩) L.length cap ∧ True := by
    obtain ⟨ao, cap, rfl, hp⟩ := own_shape h.own
    obtain ⟨g, rfl⟩ := hp hL
    exact ⟨g, cap, rfl, trivial⟩
  have lA := encJ_len L[0]!
  have st : Sem.run Try.prog (storeCells ⟨w.heap.size, 0, none⟩ (encJ L[0]!) 0) (w.alloc (.cells #[.int .i64 0, .int .i64 0, .int .i64 0, .int .i64 0, .int .i64 0, .int .i64 0, .int .i64 0, .int .i64 0, .int .i64 0, .int .u64 0] 24)) = .ok () (w.alloc (.cells (encJ L[0]!).toArray 24)) := store_new w w.heap.size (encJ L[0]!) (encJ default) 24 rfl (by rw [encJ_len, encJ_len]) (encJ_one _)
  have hg := Lib.hid (Gr.one w (.cells (encJ L[0]!).toArray 24))
  obtain ⟨k, hk⟩ : ∃ k, k = 10 := ⟨_, rfl⟩
  have LI := h1.row.load hk hL
  rw [← hk] at zE lA
  have bi := load_box (heap_alloc_new w (.cells (encJ L[0]!).toArray 24)) lA
  simp only [Nat.zero_mul, Nat.add_zero] at LI
  have hn : (((L.length : Nat) : Int) == 0) = false := beq_eq_false_iff_ne.2 (by omega)
  obtain ⟨n, hnn⟩ : ∃ n, n = L.length := ⟨_, rfl⟩
  rw [← hnn] at hl hn hL c0
  clear h h1
  have lA0 := Lib.hid (encJ_len L[0]!)
  rw [show PeekPost w L[0]! true = (fun e w' => e = .returned (.tuple #[.agg (encJ L[0]!).toArray, .bool true]) ∧ Gr w w') from rfl]
  generalize encJ L[0]! = cA at *
  replace hk := Lib.hid hk
  replace hnn := Lib.hid hnn
  go_enter Try.func14, Try.ntmps14
  go_wp2_with (go_at_call 18; go_must (refine hl.mono ?_); rintro e w' ⟨rfl, rfl⟩)
  (try simp only [Exit.inBlock, Exit.then])
  refine bodyPost_ret (ret_job (b := w.heap.size) (cs := cA) rfl rfl (heap_alloc_new w _) lA0.out) rfl ?_
  exact ⟨rfl, hg.out⟩

end
end Go.Proofs.Ytenpdglmmbkmkaa
