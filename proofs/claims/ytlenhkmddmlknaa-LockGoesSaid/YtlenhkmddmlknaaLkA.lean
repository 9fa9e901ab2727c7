/-
  Own words and walks: a set of locks in memory; is, Owner, has, lacks, Taken, Idle, Held of the program.
-/
import Derived.Test.YtlenhkmddmlknaaRuN
import Derived.Test.YtlenhkmddmlknaaOwnP
import Derived.Test.YtlenhkmddmlknaaCel
import Derived.BigQuiet
import Derived.Laws.StructEq
namespace Go.Proofs.Ytlenhkmddmlknaa
set_option maxRecDepth 8000
open Go.RowKit Go.Lib

/-- Who holds each of the three locks, and how many times one was taken. -/
structure Lk where
  a : Int
  b : Int
  c : Int
  n : Int
def Lk.own (l : Lk) (k : Int) : Int := if k = 0 then l.a else if k = 1 then l.b else if k = 2 then l.c else 0
def Lk.has (l : Lk) (k who : Int) : Bool := decide (0 < who) && decide (l.own k = who)
def Lk.free (l : Lk) : Bool := l.a == 0 && l.b == 0 && l.c == 0
def isF (k : Int) : Bool := decide (0 ≤ k) && decide (k < 3)
def lackF (k who : Int) : Bool := !isF k || decide (who ≤ 0)
/-- In memory: a block of four cells of a type. -/
def LkAt (T : TypeId) (w : World) (s : Nat) (l : Lk) : Prop := w.heap[s]? = some (.cells #[.int .i64 l.a, .int .i64 l.b, .int .i64 l.c, .int .i64 l.n] T (0, 0))

section
variable {T : TypeId} {w w' : World} {s : Nat} {l : Lk}
theorem LkAt.c0 (h : LkAt T w s l) : w.cell? ⟨s, 0, none⟩ = some (.int .i64 l.a) := by simp [World.cell?, show w.heap[s]? = _ from h]
theorem LkAt.c1 (h : LkAt T w s l) : w.cell? ⟨s, 1, none⟩ = some (.int .i64 l.b) := by simp [World.cell?, show w.heap[s]? = _ from h]
theorem LkAt.c2 (h : LkAt T w s l) : w.cell? ⟨s, 2, none⟩ = some (.int .i64 l.c) := by simp [World.cell?, show w.heap[s]? = _ from h]
theorem LkAt.c3 (h : LkAt T w s l) : w.cell? ⟨s, 3, none⟩ = some (.int .i64 l.n) := by simp [World.cell?, show w.heap[s]? = _ from h]
theorem LkAt.lt (h : LkAt T w s l) : s < w.heap.size := lt_of_at h
theorem LkAt.below {B : Nat} (h : LkAt T w s l) (hb : Below B w w') (hs : s < B) : LkAt T w' s l := by
  unfold LkAt at *; rw [hb.block s hs]; exact h
end

/-- == of arrays of three. -/
theorem equalIn_three {P : Program} (d : Nat) (t e : TypeId) (ht : P.underlying t = some (.array 3 e)) (xs ys : Array Value) (w : World) (hz : (sizeOf e).run P w = .ok 1 w) (b0 b1 b2 : Bool) (x0 x1 x2 y0 y1 y2 : Value)
    (p0 : (part e xs 0).run P w = .ok x0 w) (p1 : (part e xs 1).run P w = .ok x1 w) (p2 : (part e xs 2).run P w = .ok x2 w)
    (q0 : (part e ys 0).run P w = .ok y0 w) (q1 : (part e ys 1).run P w = .ok y1 w) (q2 : (part e ys 2).run P w = .ok y2 w)
    (h0 : (Op.equalIn d e x0 y0).run P w = .ok b0 w) (h1 : (Op.equalIn d e x1 y1).run P w = .ok b1 w) (h2 : (Op.equalIn d e x2 y2).run P w = .ok b2 w) :
    (Op.equalIn (d + 1) t (.agg xs) (.agg ys)).run P w = .ok (b0 && b1 && b2) w := by
  simp only [Op.equalIn, Sem.run_bind, run_underlying ht, Result.andThen_ok, hz]
  simp only [Std.Legacy.Range.forIn_eq_forIn_range', Std.Legacy.Range.size]
  simp only [Nat.sub_zero, Nat.add_sub_cancel, Nat.div_one, List.range', List.forIn_cons, List.forIn_nil]
  cases b0 <;> cases b1 <;> cases b2 <;> simp [p0, p1, p2, q0, q1, q2, h0, h1, h2]
theorem zero_in (a b c : Int) (w : World) : (Op.equalIn 10000 24 (.agg #[.int .i64 a, .int .i64 b, .int .i64 c]) (.agg #[.int .i64 0, .int .i64 0, .int .i64 0])).run Try.prog w = .ok (a == 0 && b == 0 && c == 0) w :=
  equalIn_three 9999 _ 3 Try.underlying24 _ _ w (by kernel_rfl) _ _ _ _ _ _ _ _ _ (by kernel_rfl) (by kernel_rfl) (by kernel_rfl) (by kernel_rfl) (by kernel_rfl) (by kernel_rfl)
    (run_equalIn_int w 9998 _ .i64 .i64 a 0 Try.underlying3) (run_equalIn_int w 9998 _ .i64 .i64 b 0 Try.underlying3) (run_equalIn_int w 9998 _ .i64 .i64 c 0 Try.underlying3)
theorem zero_eq (a b c : Int) (w : World) : (binOp .eql 24 (.agg #[.int .i64 a, .int .i64 b, .int .i64 c]) (.agg #[.int .i64 0, .int .i64 0, .int .i64 0])).run Try.prog w = .ok (.bool (a == 0 && b == 0 && c == 0)) w := by
  rw [run_eql_struct, zero_in]; rfl
theorem lane_in (a b c x y z : Bool) (w : World) : (Op.equalIn 10000 36 (.agg #[.bool a, .bool b, .bool c]) (.agg #[.bool x, .bool y, .bool z])).run Try.prog w = .ok (a == x && b == y && c == z) w :=
  equalIn_three 9999 _ 4 Try.underlying36 _ _ w (by kernel_rfl) _ _ _ _ _ _ _ _ _ (by kernel_rfl) (by kernel_rfl) (by kernel_rfl) (by kernel_rfl) (by kernel_rfl) (by kernel_rfl)
    (run_equalIn_bool w 9998 _ a x Try.underlying4) (run_equalIn_bool w 9998 _ b y Try.underlying4) (run_equalIn_bool w 9998 _ c z Try.underlying4)
theorem lane_eql (a b c x y z : Bool) (w : World) : (binOp .eql 36 (.agg #[.bool a, .bool b, .bool c]) (.agg #[.bool x, .bool y, .bool z])).run Try.prog w = .ok (.bool (a == x && b == y && c == z)) w := by
  rw [run_eql_struct, lane_in]; rfl
theorem lane_neq (a b c x y z : Bool) (w : World) : (binOp .neq 36 (.agg #[.bool a, .bool b, .bool c]) (.agg #[.bool x, .bool y, .bool z])).run Try.prog w = .ok (.bool (!(a == x && b == y && c == z))) w := by
  rw [run_neq_struct, lane_in]; rfl

theorem is_fn (k : Int) (w : World) : Calls Try.prog 19 #[.int .i64 k] w fun e w' => e = .returned (.bool (isF k)) ∧ w = w' := by
  unfold isF
  by_cases h1 : 0 ≤ k
  · have d1 : decide (0 ≤ k) = true := decide_eq_true h1
    go_enter Try.func19, Try.ntmps19
    go_wp2_with fail
    go_ret
    exact ⟨by simp [h1], rfl⟩
  · have d1 : decide (0 ≤ k) = false := decide_eq_false h1
    go_enter Try.func19, Try.ntmps19
    go_wp2_with fail
    go_ret
    exact ⟨by simp, rfl⟩

section
variable {w : World} {s : Nat} {l : Lk}

theorem Owner_fn (k : Int) (h : LkAt 26 w s l) : Calls Try.prog 9 #[.pointer (some ⟨s, 0, none⟩), .int .i64 k] w fun e w' => e = .returned (.int .i64 (l.own k)) ∧ w = w' := by
  have k0 := h.c0
  have k1 := h.c1
  have k2 := h.c2
  have hi := is_fn k w
  by_cases hk : k = 0 ∨ k = 1 ∨ k = 2
  · rcases hk with rfl | rfl | rfl
    · have e : isF 0 = true := by decide
      rw [e] at hi
      clear e h
      go_enter Try.func9, Try.ntmps9
      go_wp2_with (go_at_call 19; go_must (refine hi.mono ?_); rintro e w' ⟨rfl, rfl⟩)
      go_ret
      exact ⟨rfl, rfl⟩
    · have e : isF 1 = true := by decide
      rw [e] at hi
      clear e h
      go_enter Try.func9, Try.ntmps9
      go_wp2_with (go_at_call 19; go_must (refine hi.mono ?_); rintro e w' ⟨rfl, rfl⟩)
      go_ret
      exact ⟨rfl, rfl⟩
    · have e : isF 2 = true := by decide
      rw [e] at hi
      clear e h
      go_enter Try.func9, Try.ntmps9
      go_wp2_with (go_at_call 19; go_must (refine hi.mono ?_); rintro e w' ⟨rfl, rfl⟩)
      go_ret
      exact ⟨rfl, rfl⟩
  · have e : isF k = false := by unfold isF; simp; omega
    have e2 : l.own k = 0 := by unfold Lk.own; rw [if_neg (by omega), if_neg (by omega), if_neg (by omega)]
    rw [e] at hi
    rw [e2]
    clear e e2 h k0 k1 k2 hk
    go_enter Try.func9, Try.ntmps9
    go_wp2_with (go_at_call 19; go_must (refine hi.mono ?_); rintro e w' ⟨rfl, rfl⟩)
    go_ret
    exact ⟨rfl, rfl⟩
theorem Owner_nil (k : Int) (w : World) : Calls Try.prog 9 #[.pointer none, .int .i64 k] w fun e w' => e = .returned (.int .i64 0) ∧ w = w' := by
  go_enter Try.func9, Try.ntmps9
  go_wp2_with fail
  go_ret
  exact ⟨rfl, rfl⟩

theorem has_of (k who : Int) (p : Value) (o : Int) (hO : Calls Try.prog 9 #[p, .int .i64 k] w fun e w' => e = .returned (.int .i64 o) ∧ w = w') :
    Calls Try.prog 20 #[p, .int .i64 k, .int .i64 who] w fun e w' => e = .returned (.bool (decide (0 < who) && decide (o = who))) ∧ w = w' := by
  by_cases h1 : 0 < who
  · have d1 : decide (0 < who) = true := decide_eq_true h1
    go_enter Try.func20, Try.ntmps20
    go_wp2_with (go_at_call 9; go_must (refine hO.mono ?_); rintro e w' ⟨rfl, rfl⟩)
    go_ret
    exact ⟨by simp [h1]; first | rfl | (by_cases e : o = who <;> simp [e]), rfl⟩
  · have d1 : decide (0 < who) = false := decide_eq_false h1
    go_enter Try.func20, Try.ntmps20
    go_wp2_with fail
    go_ret
    exact ⟨by simp [d1], rfl⟩
theorem has_fn (k who : Int) (h : LkAt 26 w s l) : Calls Try.prog 20 #[.pointer (some ⟨s, 0, none⟩), .int .i64 k, .int .i64 who] w fun e w' => e = .returned (.bool (l.has k who)) ∧ w = w' := has_of k who _ _ (Owner_fn k h)
theorem has_nil (k who : Int) (w : World) : Calls Try.prog 20 #[.pointer none, .int .i64 k, .int .i64 who] w fun e w' => e = .returned (.bool false) ∧ w = w' := by
  refine (has_of k who _ _ (Owner_nil k w)).mono ?_
  rintro e w' ⟨rfl, rfl⟩
  refine ⟨?_, rfl⟩
  by_cases h : 0 < who
  · rw [decide_eq_false (show ¬ (0 = who) by omega), Bool.and_false]
  · rw [decide_eq_false h, Bool.false_and]

theorem lacks_fn (k who : Int) (s : Nat) (w : World) : Calls Try.prog 21 #[.pointer (some ⟨s, 0, none⟩), .int .i64 k, .int .i64 who] w fun e w' => e = .returned (.bool (lackF k who)) ∧ w = w' := by
  have hi := is_fn k w
  unfold lackF
  obtain ⟨x, hx⟩ : ∃ x, x = isF k := ⟨_, rfl⟩
  rw [← hx] at hi ⊢
  clear hx
  cases x
  · go_enter Try.func21, Try.ntmps21
    go_wp2_with (go_at_call 19; go_must (refine hi.mono ?_); rintro e w' ⟨rfl, rfl⟩)
    go_ret
    exact ⟨by simp, rfl⟩
  · go_enter Try.func21, Try.ntmps21
    go_wp2_with (go_at_call 19; go_must (refine hi.mono ?_); rintro e w' ⟨rfl, rfl⟩)
    go_ret
    exact ⟨by simp, rfl⟩
theorem lacks_nil (k who : Int) (w : World) : Calls Try.prog 21 #[.pointer none, .int .i64 k, .int .i64 who] w fun e w' => e = .returned (.bool true) ∧ w = w' := by
  go_enter Try.func21, Try.ntmps21
  go_wp2_with fail
  go_ret
  exact ⟨rfl, rfl⟩

theorem Taken_fn (h : LkAt 26 w s l) : Calls Try.prog 7 #[.pointer (some ⟨s, 0, none⟩)] w fun e w' => e = .returned (.int .i64 l.n) ∧ w = w' := by
  have k3 := h.c3
  clear h
  go_enter Try.func7, Try.ntmps7
  go_wp2_with fail
  go_ret
  exact ⟨rfl, rfl⟩
theorem Taken_nil (w : World) : Calls Try.prog 7 #[.pointer none] w fun e w' => e = .returned (.int .i64 0) ∧ w = w' := by
  go_enter Try.func7, Try.ntmps7
  go_wp2_with fail
  go_ret
  exact ⟨rfl, rfl⟩

theorem Idle_fn (h : LkAt 26 w s l) : Calls Try.prog 8 #[.pointer (some ⟨s, 0, none⟩)] w fun e w' => e = .returned (.bool l.free) ∧ w = w' := by
  have k0 := h.c0
  have k1 := h.c1
  have k2 := h.c2
  have hq := fun W => zero_eq l.a l.b l.c W
  clear h
  unfold Lk.free
  go_enter Try.func8, Try.ntmps8
  go_wp2_with fail
  go_ret
  exact ⟨rfl, rfl⟩
theorem Idle_nil (w : World) : Calls Try.prog 8 #[.pointer none] w fun e w' => e = .returned (.bool true) ∧ w = w' := by
  go_enter Try.func8, Try.ntmps8
  go_wp2_with fail
  go_ret
  exact ⟨rfl, rfl⟩
def heldV (l : Lk) (who : Int) : Value := laneV (l.has 0 who) (l.has 1 who) (l.has 2 who)

set_option maxRecDepth 100000 in
set_option maxHeartbeats 1000000 in
theorem Held_of (who : Int) (p : Value) (a b c : Bool) (w : World) (h0 : ∀ W, Below w.heap.size w W → Calls Try.prog 20 #[p, .int .i64 0, .int .i64 who] W fun e w' => e = .returned (.bool a) ∧ W = w')
    (h1 : ∀ W, Below w.heap.size w W → Calls Try.prog 20 #[p, .int .i64 1, .int .i64 who] W fun e w' => e = .returned (.bool b) ∧ W = w')
    (h2 : ∀ W, Below w.heap.size w W → Calls Try.prog 20 #[p, .int .i64 2, .int .i64 who] W fun e w' => e = .returned (.bool c) ∧ W = w') :
    Calls Try.prog 10 #[p, .int .i64 who] w fun e w' => e = .returned (laneV a b c) ∧ Below w.heap.size w w' := by
  unfold laneV
  obtain ⟨g, hg⟩ : ∃ g, g = w.heap.size + 1 := ⟨_, rfl⟩
  obtain ⟨w1, hw1⟩ : ∃ w1, w1 = (w.alloc (.cells #[.bool false, .bool false, .bool false] 36)).alloc (.cells #[.bool false, .bool false, .bool false] 36) := ⟨_, rfl⟩
  have hb1 : Below w.heap.size w w1 := by rw [hw1]; exact ((Below.refl _ _).alloc (Nat.le_refl _) _).alloc (by simp) _
  have hA1 : w1.heap[g]? = some (.cells #[.bool false, .bool false, .bool false] 36 (0, 0)) := by
    rw [hw1, hg]
    have := heap_alloc_new (w.alloc (.cells #[.bool false, .bool false, .bool false] 36)) (.cells #[.bool false, .bool false, .bool false] 36)
    simpa using this
  have hR1 : w1.heap[w.heap.size]? = some (.cells #[.bool false, .bool false, .bool false] 36 (0, 0)) := by
    rw [hw1]; exact heap_past (heap_alloc_new w _)
  replace hb1 := Lib.hid hb1
  replace hA1 := Lib.hid hA1
  replace hR1 := Lib.hid hR1
  replace h0 := Lib.hid h0
  replace h1 := Lib.hid h1
  replace h2 := Lib.hid h2
  go_enter Try.func10, Try.ntmps10
  go_wp2_with fail
  rw [← hw1]
  rw [← hg]
  replace hw1 := Lib.hid hw1
  have hg1 : w.heap.size ≠ g := by omega
  have hg2 : w.heap.size ≤ g := by omega
  replace hg := Lib.hid hg
  go_loopw [6, 7] (fun jj ii wr => ∃ (cs : Array Value) (k : Int), ii = .int .i64 k ∧ Hid (wr.heap[g]? = some (.cells cs 36 (0, 0))) ∧ Hid (wr.heap[w.heap.size]? = some (.cells #[.bool false, .bool false, .bool false] 36 (0, 0))) ∧ Hid (Below w.heap.size w wr) ∧ Hid ((k = 0 ∧ cs = #[.bool false, .bool false, .bool false]) ∨ (k = 1 ∧ cs = #[.bool a, .bool false, .bool false]) ∨ (k = 2 ∧ cs = #[.bool a, .bool b, .bool false]) ∨ (k = 3 ∧ cs = #[.bool a, .bool b, .bool c]))) (fun _ ii _ => 3 - (intOf ii).toNat)
  case atStart => exact ⟨_, 0, rfl, hA1.out, hR1.out, hb1.out, .inl ⟨rfl, rfl⟩⟩
  case round =>
    obtain ⟨cs, k, rfl, hG, hR, hB, hk⟩ := hrel
    rcases hk.out with ⟨rfl, rfl⟩ | ⟨rfl, rfl⟩ | ⟨rfl, rfl⟩ | ⟨rfl, rfl⟩
    · have hh := h0.out wr hB.out
      have kc : wr.cell? ⟨g, 0, none⟩ = some (.bool false) := by simp [World.cell?, hG.out]
      have kf : wr.frozen? ⟨g, 0, none⟩ = false := by simp [World.frozen?, hG.out]
      clear hk
      go_wp2_with (go_at_call 20; go_must (refine hh.mono ?_); rintro e w5 ⟨rfl, rfl⟩)
      go_roundw
      case rel => exact ⟨_, 1, by go_num, heap_put hG.out _, by show (wr.setCell _ _).heap[w.heap.size]? = _; rw [Below.heap_setCell wr ⟨g, 0, none⟩ _ _ hg1]; exact hR.out, hB.out.setCell hg2 _, .inr (.inl ⟨rfl, rfl⟩)⟩
      case measure => simp [intOf]
    · have hh := h1.out wr hB.out
      have kc : wr.cell? ⟨g, 1, none⟩ = some (.bool false) := by simp [World.cell?, hG.out]
      have kf : wr.frozen? ⟨g, 1, none⟩ = false := by simp [World.frozen?, hG.out]
      clear hk
      go_wp2_with (go_at_call 20; go_must (refine hh.mono ?_); rintro e w5 ⟨rfl, rfl⟩)
      go_roundw
      case rel => exact ⟨_, 2, by go_num, heap_put hG.out _, by show (wr.setCell _ _).heap[w.heap.size]? = _; rw [Below.heap_setCell wr ⟨g, 1, none⟩ _ _ hg1]; exact hR.out, hB.out.setCell hg2 _, .inr (.inr (.inl ⟨rfl, rfl⟩))⟩
      case measure => simp [intOf]
    · have hh := h2.out wr hB.out
      have kc : wr.cell? ⟨g, 2, none⟩ = some (.bool false) := by simp [World.cell?, hG.out]
      have kf : wr.frozen? ⟨g, 2, none⟩ = false := by simp [World.frozen?, hG.out]
      clear hk
      go_wp2_with (go_at_call 20; go_must (refine hh.mono ?_); rintro e w5 ⟨rfl, rfl⟩)
      go_roundw
      case rel => exact ⟨_, 3, by go_num, heap_put hG.out _, by show (wr.setCell _ _).heap[w.heap.size]? = _; rw [Below.heap_setCell wr ⟨g, 2, none⟩ _ _ hg1]; exact hR.out, hB.out.setCell hg2 _, .inr (.inr (.inr ⟨rfl, rfl⟩))⟩
      case measure => simp [intOf]
    · clear hk
      have k0 : wr.cell? ⟨g, 0, none⟩ = some (.bool a) := by simp [World.cell?, hG.out]
      have k1 : wr.cell? ⟨g, 1, none⟩ = some (.bool b) := by simp [World.cell?, hG.out]
      have k2 : wr.cell? ⟨g, 2, none⟩ = some (.bool c) := by simp [World.cell?, hG.out]
      have r0 : wr.cell? ⟨w.heap.size, 0, none⟩ = some (.bool false) := by simp [World.cell?, hR.out]
      have f0 : wr.frozen? ⟨w.heap.size, 0, none⟩ = false := by simp [World.frozen?, hR.out]
      have r1 : wr.cell? ⟨w.heap.size, 1, none⟩ = some (.bool false) := by simp [World.cell?, hR.out]
      have f1 : wr.frozen? ⟨w.heap.size, 1, none⟩ = false := by simp [World.frozen?, hR.out]
      have r2 : wr.cell? ⟨w.heap.size, 2, none⟩ = some (.bool false) := by simp [World.cell?, hR.out]
      have f2 : wr.frozen? ⟨w.heap.size, 2, none⟩ = false := by simp [World.frozen?, hR.out]
      go_wp2_with fail
      refine ret_row rfl rfl rfl (heap_put (heap_put (heap_put hR.out _) _) _) Try.underlying36 rfl (by kernel_rfl) ⟨rfl, ?_⟩
      exact ((hB.out.setCell (Nat.le_refl _) _).setCell (Nat.le_refl _) _).setCell (Nat.le_refl _) _

theorem Held_fn (who : Int) (h : LkAt 26 w s l) : Calls Try.prog 10 #[.pointer (some ⟨s, 0, none⟩), .int .i64 who] w fun e w' => e = .returned (heldV l who) ∧ Below w.heap.size w w' :=
  Held_of who _ _ _ _ w (fun _ hb => has_fn 0 who (h.below hb h.lt)) (fun _ hb => has_fn 1 who (h.below hb h.lt)) (fun _ hb => has_fn 2 who (h.below hb h.lt))
theorem Held_nil (who : Int) (w : World) : Calls Try.prog 10 #[.pointer none, .int .i64 who] w fun e w' => e = .returned (laneV false false false) ∧ Below w.heap.size w w' :=
  Held_of who _ _ _ _ w (fun W _ => has_nil 0 who W) (fun W _ => has_nil 1 who W) (fun W _ => has_nil 2 who W)
end

end Go.Proofs.Ytlenhkmddmlknaa
