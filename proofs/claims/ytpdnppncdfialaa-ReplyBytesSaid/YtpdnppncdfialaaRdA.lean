/-
  Own walks: the decoders of package wire, whatever bytes there are: a reader's state (what is left, its error), Left, Err, Fail, Byte.
-/
import Derived.Test.YtpdnppncdfialaaWireC
import Derived.Test.YtpdnppncdfialaaCel
namespace Go.Proofs.Ytpdnppncdfialaa
open Go.RowKit

/-- A reader that lies in block b: what is left, and its error. -/
def RS (w : World) (b : Nat) (l : List UInt8) (e : Int) : Prop := w.heap[b]? = some (.cells #[.string (str l), .int .i64 e] 57 (0, 0))

section
variable {w w' : World} {b : Nat} {l : List UInt8} {e : Int}
theorem RS.c0 (h : RS w b l e) : w.cell? ⟨b, 0, none⟩ = some (.string (str l)) := by simp [World.cell?, show w.heap[b]? = _ from h]
theorem RS.c1 (h : RS w b l e) : w.cell? ⟨b, 1, none⟩ = some (.int .i64 e) := by simp [World.cell?, show w.heap[b]? = _ from h]
theorem RS.f0 (h : RS w b l e) : w.frozen? ⟨b, 0, none⟩ = false := by simp [World.frozen?, show w.heap[b]? = _ from h]
theorem RS.f1 (h : RS w b l e) : w.frozen? ⟨b, 1, none⟩ = false := by simp [World.frozen?, show w.heap[b]? = _ from h]
theorem RS.rd (h : RS w b l 0) : Rd w b l := ⟨h.c0, h.c1, h.f0⟩
theorem RS.lt (h : RS w b l e) : b < w.heap.size := lt_of_at h
theorem RS.below {B : Nat} (h : RS w b l e) (hb : Below B w w') (hB : b < B) : RS w' b l e := (hb.block b hB).trans h
theorem RS.ext (h : RS w b l e) (he : Reg.Ext w w') : RS w' b l e := h.below he h.lt
theorem RS.set (h : RS w b l e) (l' : List UInt8) : RS (w.setCell ⟨b, 0, none⟩ (.string (str l'))) b l' e := by
  have := heap_put (i := 0) h (.string (str l'))
  show _ = _
  simpa using this
theorem RS.bad (h : RS w b l e) (q : Int) : RS ((w.setCell ⟨b, 0, none⟩ (.string (str []))).setCell ⟨b, 1, none⟩ (.int .i64 q)) b [] q := by
  have := heap_put (i := 1) (heap_put (i := 0) h (.string (str []))) (.int .i64 q)
  show _ = _
  simpa using this

theorem Left_rs (h : RS w b l e) : Calls Try.prog 28 #[.pointer (some ⟨b, 0, none⟩)] w fun e w' => e = .returned (.int .i64 l.length) ∧ w = w' := by
  have c0 := h.c0
  have hsz := str_size l
  clear h
  go_enter Try.func28, Try.ntmps28
  go_wp2
  go_ret
  exact ⟨rfl, rfl⟩

theorem Err_rs (h : RS w b l e) : Calls Try.prog 31 #[.pointer (some ⟨b, 0, none⟩)] w fun en w' => en = .returned (.int .i64 e) ∧ w = w' := by
  have c1 := h.c1
  clear h
  go_enter Try.func31, Try.ntmps31
  go_wp2
  go_ret
  exact ⟨rfl, rfl⟩

/-- The first error is laid. -/
theorem Fail_rs (q : Int) (hq : q ≠ 0) (h : RS w b l 0) : Calls Try.prog 27 #[.pointer (some ⟨b, 0, none⟩), .int .i64 q] w fun en w' => en = .returned (.tuple #[]) ∧ RS w' b [] q ∧ Only b w w' := by
  have c1 := h.c1
  have c0 := h.c0
  have f0 := h.f0
  have f1 := h.f1
  have hb := Lib.hid (h.bad q)
  have tq : (q == 0) = false := beq_eq_false_iff_ne.2 hq
  clear h
  go_enter Try.func27, Try.ntmps27
  go_wp2_with fail
  go_end0
  exact ⟨rfl, hb.out, (Only.setCell b 0 w _).trans (Only.setCell b 1 _ _)⟩
/-- A further error changes nothing. -/
theorem Fail_more (q : Int) (he : e ≠ 0) (h : RS w b l e) : Calls Try.prog 27 #[.pointer (some ⟨b, 0, none⟩), .int .i64 q] w fun en w' => en = .returned (.tuple #[]) ∧ w = w' := by
  have c1 := h.c1
  have te : (e == 0) = false := beq_eq_false_iff_ne.2 he
  clear h he
  by_cases hq : q = 0
  · have tq : (q == 0) = true := beq_iff_eq.2 hq
    clear hq
    go_enter Try.func27, Try.ntmps27
    go_wp2_with fail
    refine bodyPost_ret (results_none rfl _ _ _) rfl ?_
    exact ⟨rfl, rfl⟩
  · have tq : (q == 0) = false := beq_eq_false_iff_ne.2 hq
    clear hq
    go_enter Try.func27, Try.ntmps27
    go_wp2_with fail
    refine bodyPost_ret (results_none rfl _ _ _) rfl ?_
    exact ⟨rfl, rfl⟩

set_option maxHeartbeats 400000 in
theorem Byte_rs (c : UInt8) (h : RS w b (c :: l) 0) (hl : l.length ≤ 100000) :
    Calls Try.prog 18 #[.pointer (some ⟨b, 0, none⟩)] w fun e w' => e = .returned (.int .u8 c.toNat) ∧ RS w' b l 0 ∧ Only b w w' := by
  have hL := Lib.hid h
  have c0 := h.c0
  have c1 := h.c1
  have f0 := h.f0
  have hsz := str_size (c :: l)
  have htl := str_tail c l
  rw [hsz] at htl
  have hne : (((c :: l).length : Int) == 0) = false := by simp; omega
  clear h
  go_enter Try.func18, Try.ntmps18
  go_wp2_with (go_at_call 28; go_must (refine (Left_rs hL.out).mono ?_); rintro e w1 ⟨rfl, rfl⟩)
  go_ret
  refine ⟨congrArg (fun n => Ending.returned (.int .u8 n)) ?_, ?_, Only.setCell b 0 w _⟩
  · rfl
  · have := hL.out.set l
    rw [← htl] at this
    exact this

theorem Byte_end (h : RS w b [] 0) : Calls Try.prog 18 #[.pointer (some ⟨b, 0, none⟩)] w fun e w' => e = .returned (.int .u8 0) ∧ RS w' b [] 2 ∧ Only b w w' := by
  have hL := Lib.hid h
  clear h
  go_enter Try.func18, Try.ntmps18
  go_wp2_with (first | (go_at_call 28; go_must (refine (Left_rs hL.out).mono ?_); rintro e w1 ⟨rfl, rfl⟩) | (go_at_call 27; go_must (refine (Fail_rs 2 (by decide) hL.out).mono ?_); rintro e w1 ⟨rfl, h2, o2⟩))
  go_ret
  exact ⟨rfl, h2, o2⟩
theorem Byte_bad (he : e ≠ 0) (h : RS w b [] e) : Calls Try.prog 18 #[.pointer (some ⟨b, 0, none⟩)] w fun en w' => en = .returned (.int .u8 0) ∧ w = w' := by
  have hL := Lib.hid h
  replace he := Lib.hid he
  clear h
  go_enter Try.func18, Try.ntmps18
  go_wp2_with (first | (go_at_call 28; go_must (refine (Left_rs hL.out).mono ?_); rintro e w1 ⟨rfl, rfl⟩) | (go_at_call 27; go_must (refine (Fail_more 2 he.out hL.out).mono ?_); rintro e w1 ⟨rfl, rfl⟩))
  go_ret
  exact ⟨rfl, rfl⟩
end

end Go.Proofs.Ytpdnppncdfialaa
