/-
  Own walks: a table of nodes: Drain, Resume, New, Copy.
-/
import Derived.Test.YtmedbodjikbmfaaNtB
namespace Go.Proofs.Ytmedbodjikbmfaa
open Go.RowKit Go.Lib Go.Sort

set_option maxHeartbeats 400000 in
theorem without_fn (u : Nat) (hu : u < 18446744073709551616) (n : Int) (w : World) (hn : -9223372036854775808 ≤ n ∧ n ≤ 9223372036854775807) :
    Calls Try.prog 31 #[.int .u64 u, .int .i64 n] w fun e w' => e = .returned (.int .u64 (ofN fun i => !decide ((i : Int) = n) && u.testBit i)) ∧ w = w' := by
  have e := bits_not_nat u (bitN n) hu (bitN_lt n)
  have e2 : (ofN fun i => u.testBit i && !(bitN n).testBit i) = ofN fun i => !decide ((i : Int) = n) && u.testBit i := ofN_congr fun i hi => by
    unfold bitN
    rw [ofN_testBit, Bool.and_comm]
    simp [hi]
  rw [e2] at e
  replace e := Lib.hid e
  clear e2
  generalize (ofN fun i => !decide ((i : Int) = n) && u.testBit i) = x at e ⊢
  have hb := fun w => bit_any n w hn
  generalize bitN n = b at *
  clear hu
  go_enter Try.func31, Try.ntmps31
  go_wp2_with (go_at_call 37; go_must (refine (hb _).mono ?_); rintro e w' ⟨rfl, rfl⟩)
  go_ret
  exact ⟨congrArg (fun n => Ending.returned (.int .u64 n)) e.out, rfl⟩

section
variable {w w' : World} {p : Nat} {l : List Int}

/-- What check tells. -/
def chk (l : List Int) (n : Int) (d : Bool) : Int := if n < 0 ∨ (l.length : Int) ≤ n then 11 else if d = decide (l.getD n.toNat 0 < 3) then 8 else 0

set_option maxRecDepth 100000 in
set_option maxHeartbeats 1000000 in
theorem check_any (n : Int) (d : Bool) (hn : -9223372036854775808 ≤ n ∧ n ≤ 9223372036854775807) (h : TW w p l) (hl : Lok l) :
    Calls Try.prog 29 #[.pointer (some ⟨p, 0, none⟩), .int .i64 n, .bool d] w fun e w' => e = .returned (.int .i64 (chk l n d)) ∧ w = w' := by
  have hno := none_any h (all_pos hl)
  have c0 := h.facts.c0
  have c2 := h.facts.c2
  have hA := has_fn (ofN (allB l)) (ofN_lt _) n w hn
  rw [has_all hl] at hA
  have hB := has_fn (ofN (barB l)) (ofN_lt _) n w hn
  clear h
  by_cases hin : n < 0 ∨ (l.length : Int) ≤ n
  · rw [decide_eq_false (by omega)] at hA
    rw [show chk l n d = 11 from if_pos hin]
    generalize ofN (allB l) = A at *
    clear hin hB
    go_enter Try.func29, Try.ntmps29
    go_wp2_with (first | (go_at_call 23; go_must (refine hno.mono ?_); rintro e w' ⟨rfl, rfl⟩) | (go_at_call 34; go_must (refine hA.mono ?_); rintro e w' ⟨rfl, rfl⟩))
    go_ret
    exact ⟨rfl, rfl⟩
  · rw [decide_eq_true (by omega)] at hA
    rw [show chk l n d = if d = decide (l.getD n.toNat 0 < 3) then 8 else 0 from if_neg hin]
    obtain ⟨i, rfl⟩ := Int.eq_ofNat_of_zero_le (show 0 ≤ n by omega)
    have hf := hl.few
    rw [has_bar (by omega), turn_bar (by omega) hl] at hB
    rw [Int.toNat_natCast]
    generalize ofN (allB l) = A at *
    generalize ofN (barB l) = B at *
    generalize decide (l.getD i 0 < 3) = x at *
    clear hin hn hf hl
    cases d <;> cases x
    all_goals
      go_enter Try.func29, Try.ntmps29
      go_wp2_with fail
      go_at_call 23
      refine hno.mono ?_
      rintro e w' ⟨rfl, rfl⟩
      go_wp2_with fail
      go_at_call 34
      refine hA.mono ?_
      clear hA
      rintro e w' ⟨rfl, rfl⟩
      go_wp2_with fail
      go_at_call 34
      refine hB.mono ?_
      clear hB
      rintro e w' ⟨rfl, rfl⟩
      go_wp2_with fail
      go_ret
      exact ⟨rfl, rfl⟩

def TurnT (l : List Int) (n : Int) (d : Bool) (p : Nat) (w : World) (e : Ending) (w' : World) : Prop := OffB p w w' ∧ ∃ (x : Int) (l' : List Int), e = .returned (.int .i64 x) ∧ TurnR l n d x l' ∧ TW w' p l' ∧ Lok l' ∧ l'.length = l.length

set_option maxRecDepth 100000 in
set_option maxHeartbeats 1000000 in
theorem Drain_any (n : Int) (hn : -9223372036854775808 ≤ n ∧ n ≤ 9223372036854775807) (h : TW w p l) (hl : Lok l) :
    Calls Try.prog 11 #[.pointer (some ⟨p, 0, none⟩), .int .i64 n] w (TurnT l n true p w) := by
  have hck := check_any n false hn h hl
  by_cases hin : n < 0 ∨ (l.length : Int) ≤ n
  · rw [show chk l n false = 11 from if_pos hin] at hck
    have hg : Hid (TurnT l n true p w (.returned (.int .i64 11)) w) := ⟨OffB.refl _ _, 11, l, rfl, ⟨fun _ => ⟨rfl, rfl⟩, fun _ _ => by omega, fun _ _ => by omega⟩, h, hl, rfl⟩
    clear h hin
    go_enter Try.func11, Try.ntmps11
    go_wp2_with (go_at_call 29; go_must (refine hck.mono ?_); rintro e w' ⟨rfl, rfl⟩)
    go_ret
    exact hg.out
  · rw [show chk l n false = if false = decide (l.getD n.toNat 0 < 3) then 8 else 0 from if_neg hin] at hck
    obtain ⟨i, rfl⟩ := Int.eq_ofNat_of_zero_le (show 0 ≤ n by omega)
    have hil : i < l.length := by omega
    rw [Int.toNat_natCast] at hck
    by_cases h3 : l.getD i 0 < 3
    · rw [decide_eq_true h3, if_neg (by simp)] at hck
      have hw := with_fn (ofN (barB l)) (ofN_lt _) (i : Int) w hn
      rw [drain_bar hil hl h3] at hw
      have c2 := h.facts.c2
      have fz := h.facts.fz 2
      have hg : Hid (TurnT l i true p w (.returned (.int .i64 0)) (w.setCell ⟨p, 2, none⟩ (.int .u64 (ofN (barB (l.set i (turnX (l.getD i 0)))))))) :=
        ⟨(OffB.refl _ _).setCell, 0, l.set i (turnX (l.getD i 0)), rfl, ⟨fun hx => by omega, fun _ _ hx => absurd hx (by simpa using h3), fun _ _ _ => ⟨rfl, by simp⟩⟩, TW_bar h (by simp) (turn_use hl), turn_ok hl, by simp⟩
      clear h hin
      generalize ofN (barB l) = B at *
      generalize ofN (barB (l.set i (turnX (l.getD i 0)))) = V at *
      replace h3 := Lib.hid h3
      go_enter Try.func11, Try.ntmps11
      go_wp2_with (first | (go_at_call 29; go_must (refine hck.mono ?_); rintro e w' ⟨rfl, rfl⟩) | (go_at_call 30; go_must (refine hw.mono ?_); rintro e w' ⟨rfl, rfl⟩))
      go_ret
      exact hg.out
    · rw [decide_eq_false h3, if_pos rfl] at hck
      have hg : Hid (TurnT l i true p w (.returned (.int .i64 8)) w) := ⟨OffB.refl _ _, 8, l, rfl, ⟨fun hx => by omega, fun _ _ _ => ⟨rfl, rfl⟩, fun _ _ hx => absurd hx (by simpa using h3)⟩, h, hl, rfl⟩
      clear h hin
      replace h3 := Lib.hid h3
      go_enter Try.func11, Try.ntmps11
      go_wp2_with (go_at_call 29; go_must (refine hck.mono ?_); rintro e w' ⟨rfl, rfl⟩)
      go_ret
      exact hg.out

set_option maxRecDepth 100000 in
set_option maxHeartbeats 1000000 in
theorem Resume_any (n : Int) (hn : -9223372036854775808 ≤ n ∧ n ≤ 9223372036854775807) (h : TW w p l) (hl : Lok l) :
    Calls Try.prog 12 #[.pointer (some ⟨p, 0, none⟩), .int .i64 n] w (TurnT l n false p w) := by
  have hck := check_any n true hn h hl
  by_cases hin : n < 0 ∨ (l.length : Int) ≤ n
  · rw [show chk l n true = 11 from if_pos hin] at hck
    have hg : Hid (TurnT l n false p w (.returned (.int .i64 11)) w) := ⟨OffB.refl _ _, 11, l, rfl, ⟨fun _ => ⟨rfl, rfl⟩, fun _ _ => by omega, fun _ _ => by omega⟩, h, hl, rfl⟩
    clear h hin
    go_enter Try.func12, Try.ntmps12
    go_wp2_with (go_at_call 29; go_must (refine hck.mono ?_); rintro e w' ⟨rfl, rfl⟩)
    go_ret
    exact hg.out
  · rw [show chk l n true = if true = decide (l.getD n.toNat 0 < 3) then 8 else 0 from if_neg hin] at hck
    obtain ⟨i, rfl⟩ := Int.eq_ofNat_of_zero_le (show 0 ≤ n by omega)
    have hil : i < l.length := by omega
    rw [Int.toNat_natCast] at hck
    by_cases h3 : l.getD i 0 < 3
    · rw [decide_eq_true h3, if_pos rfl] at hck
      have hg : Hid (TurnT l i false p w (.returned (.int .i64 8)) w) := ⟨OffB.refl _ _, 8, l, rfl, ⟨fun hx => by omega, fun _ _ _ => ⟨rfl, rfl⟩, fun _ _ hx => absurd hx (by simpa using h3)⟩, h, hl, rfl⟩
      clear h hin
      replace h3 := Lib.hid h3
      go_enter Try.func12, Try.ntmps12
      go_wp2_with (go_at_call 29; go_must (refine hck.mono ?_); rintro e w' ⟨rfl, rfl⟩)
      go_ret
      exact hg.out
    · rw [decide_eq_false h3, if_neg (by simp)] at hck
      have hw := without_fn (ofN (barB l)) (ofN_lt _) (i : Int) w hn
      rw [resume_bar hil hl h3] at hw
      have c2 := h.facts.c2
      have fz := h.facts.fz 2
      have hg : Hid (TurnT l i false p w (.returned (.int .i64 0)) (w.setCell ⟨p, 2, none⟩ (.int .u64 (ofN (barB (l.set i (turnX (l.getD i 0)))))))) :=
        ⟨(OffB.refl _ _).setCell, 0, l.set i (turnX (l.getD i 0)), rfl, ⟨fun hx => by omega, fun _ _ hx => absurd hx (by simpa using h3), fun _ _ _ => ⟨rfl, by simp⟩⟩, TW_bar h (by simp) (turn_use hl), turn_ok hl, by simp⟩
      clear h hin
      generalize ofN (barB l) = B at *
      generalize ofN (barB (l.set i (turnX (l.getD i 0)))) = V at *
      replace h3 := Lib.hid h3
      go_enter Try.func12, Try.ntmps12
      go_wp2_with (first | (go_at_call 29; go_must (refine hck.mono ?_); rintro e w' ⟨rfl, rfl⟩) | (go_at_call 31; go_must (refine hw.mono ?_); rintro e w' ⟨rfl, rfl⟩))
      go_ret
      exact hg.out

theorem New_bad (n : Int) (w : World) (h : n < 1 ∨ 64 < n) : Calls Try.prog 6 #[.int .i64 n] w fun e w' => e = .returned (.tuple #[.pointer none, .int .i64 1]) ∧ w = w' := by
  by_cases h1 : n < 1
  · go_enter Try.func6, Try.ntmps6
    go_wp2_with fail
    go_ret2
    exact ⟨rfl, rfl⟩
  · have h2 : 64 < n := by omega
    clear h
    go_enter Try.func6, Try.ntmps6
    go_wp2_with fail
    go_ret2
    exact ⟨rfl, rfl⟩
theorem rep_ok {n : Nat} (h1 : 1 ≤ n) (h2 : n ≤ 64) : Lok (List.replicate n 1) := by
  refine ⟨by simpa using h1, by simpa using h2, fun i hi => ?_⟩
  have hi' : i < n := by simpa using hi
  simp [List.getD_eq_getElem?_getD, hi']
theorem rep_get (n i : Nat) : (List.replicate n (1 : Int)).getD i 0 = if i < n then 1 else 0 := by
  by_cases hi : i < n
  · simp [List.getD_eq_getElem?_getD, hi]
  · simp [List.getD_eq_getElem?_getD, hi]
theorem rep_all (n : Nat) : (ofN fun i => decide ((i : Int) < (n : Int))) = ofN (allB (List.replicate n 1)) := by
  refine ofN_congr fun i _ => ?_
  unfold allB
  rw [List.length_replicate, Bool.eq_iff_iff]
  simp
theorem rep_use (n : Nat) : ofN (useB (List.replicate n 1)) = 0 := ofN_zero.2 fun i _ => by
  unfold useB
  rw [rep_get]
  split <;> simp
theorem rep_bar (n : Nat) : ofN (barB (List.replicate n 1)) = 0 := ofN_zero.2 fun i _ => by
  unfold barB
  rw [rep_get]
  split <;> simp

def NewT (n : Nat) (w : World) (e : Ending) (w' : World) : Prop := e = .returned (.tuple #[.pointer (some ⟨w.heap.size, 0, none⟩), .int .i64 0]) ∧ TW w' w.heap.size (List.replicate n 1) ∧ Below w.heap.size w w'

set_option maxRecDepth 100000 in
theorem New_any (n : Nat) (w : World) (h1 : 1 ≤ n) (h2 : n ≤ 64) : Calls Try.prog 6 #[.int .i64 n] w (NewT n w) := by
  have ha := all_fn (n : Int) w (by omega)
  rw [rep_all] at ha
  have hg : Hid (NewT n w (.returned (.tuple #[.pointer (some ⟨w.heap.size, 0, none⟩), .int .i64 0])) (w.alloc (.cells #[.int .u64 (ofN (allB (List.replicate n 1))), .int .u64 0, .int .u64 0] 49))) := by
    refine ⟨rfl, ?_, (Below.refl _ _).alloc (Nat.le_refl _) _⟩
    unfold TW
    rw [rep_use, rep_bar]
    exact heap_alloc_new w _
  generalize ofN (allB (List.replicate n 1)) = A at *
  have b1 : ¬ ((n : Int) < 1) := by omega
  have b2 : ¬ (64 < (n : Int)) := by omega
  go_enter Try.func6, Try.ntmps6
  go_wp2_with (go_at_call 22; go_must (refine ha.mono ?_); rintro e w' ⟨rfl, rfl⟩)
  go_ret2
  exact hg.out

def CopyT (l : List Int) (w : World) (e : Ending) (w' : World) : Prop := e = .returned (.pointer (some ⟨w.heap.size, 0, none⟩)) ∧ TW w' w.heap.size l ∧ Below w.heap.size w w'

set_option maxRecDepth 100000 in
theorem Copy_any (h : TW w p l) (hl : Lok l) : Calls Try.prog 16 #[.pointer (some ⟨p, 0, none⟩)] w (CopyT l w) := by
  have hno := none_any h (all_pos hl)
  have c0 := h.facts.c0
  have c1 := h.facts.c1
  have c2 := h.facts.c2
  have hb := h.facts.pl
  go_enter Try.func16, Try.ntmps16
  go_wp2_with (go_at_call 23; go_must (refine hno.mono ?_); rintro e w' ⟨rfl, rfl⟩)
  go_ret
  exact ⟨rfl, heap_alloc_new w _, (Below.refl _ _).alloc (Nat.le_refl _) _⟩
end

end Go.Proofs.Ytmedbodjikbmfaa
