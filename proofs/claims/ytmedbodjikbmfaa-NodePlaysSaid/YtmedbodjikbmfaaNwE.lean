/-
  Own walks: the chapter's example; tables that nobody made; the statement on these.
-/
import Derived.Test.YtmedbodjikbmfaaNwD
namespace Go.Proofs.Ytmedbodjikbmfaa
open Go.RowKit Go.Lib Go.Sort

theorem exTake {s : Nat} {x : Int} {l' : List Int} (h : TakeR (List.replicate 4 1) 2 s x l') : s = 3 ∧ x = 0 ∧ l' = [2, 2, 1, 1] := by
  obtain ⟨rfl, rfl, rfl⟩ := h.good (by decide) (by decide +kernel)
  exact ⟨by decide +kernel, rfl, by decide +kernel⟩
theorem exDrain {x : Int} {l' : List Int} (h : TurnR [2, 2, 1, 1] 1 true x l') : x = 0 ∧ l' = [2, 3, 1, 1] := by
  obtain ⟨rfl, rfl⟩ := h.good (by decide) (by decide) (by decide)
  exact ⟨rfl, by decide +kernel⟩
theorem exGive {n x : Int} {l' : List Int} (h : GiveR [2, 3, 1, 1] 3 n x l') : n = 1 ∧ x = 0 ∧ l' = [1, 4, 1, 1] := by
  have hP : InP [2, 3, 1, 1] 3 2 3 64 := by unfold InP; decide +kernel
  obtain ⟨rfl, rfl, rfl⟩ := h.good hP
  exact ⟨by decide +kernel, rfl, by decide +kernel⟩

set_option maxRecDepth 100000 in
set_option maxHeartbeats 2000000 in
theorem awake_any (w : World) : Calls Try.prog 7 #[] w fun e w' => e = .returned (.bool true) ∧ Below w.heap.size w w' := by
  have hnw := New_any 4 w (by omega) (by omega)
  go_enter Try.func7, Try.ntmps7
  go_wp2_with fail
  go_at_call 6
  refine hnw.mono ?_
  clear hnw
  rintro e w1 ⟨rfl, ht1, hb1⟩
  have htk := Take_any 2 (by omega) ht1 (rep_ok (by omega) (by omega))
  have hz : w.heap.size ≤ w.heap.size := Nat.le_refl _
  go_wp2_with fail
  go_at_call 13
  refine htk.mono ?_
  clear htk ht1
  rintro e w2 ⟨hO2, s2, x2, l2, rfl, hR2, ht2, hk2, _⟩
  obtain ⟨rfl, rfl, rfl⟩ := exTake hR2
  have hdr := Drain_any 1 (by omega) ht2 hk2
  go_wp2_with fail
  go_at_call 11
  refine hdr.mono ?_
  clear hdr ht2 hR2
  rintro e w3 ⟨hO3, x3, l3, rfl, hR3, ht3, hk3, _⟩
  obtain ⟨rfl, rfl⟩ := exDrain hR3
  have hst := State_any 1 (by omega) ht3 hk3
  rw [show stO [2, 3, 1, 1] 1 = 3 by decide] at hst
  go_wp2_with fail
  go_at_call 21
  refine hst.mono ?_
  clear hst hR3 hk2
  rintro e w4 ⟨rfl, m4, hw4⟩
  have ht4 : TW w4 w.heap.size [2, 3, 1, 1] := by rw [hw4]; exact ht3
  have hO4 : OffB w.heap.size w3 w4 := by rw [hw4]; exact ⟨rfl, rfl, rfl, rfl, fun _ _ => rfl⟩
  have hgv := Give_any 3 (by decide) ht4 hk3
  clear hw4 ht3
  go_wp2_with fail
  go_at_call 18
  refine hgv.mono ?_
  clear hgv ht4
  rintro e w5 ⟨hO5, n5, x5, l5, rfl, hR5, ht5, hk5, _⟩
  obtain ⟨rfl, rfl, rfl⟩ := exGive hR5
  have hs5 := State_any 1 (by omega) ht5 hk5
  rw [show stO [1, 4, 1, 1] 1 = 4 by decide] at hs5
  have hb5 : Below w.heap.size w w5 := hb1.trans ((((hO2.trans hO3).trans hO4).trans hO5).below hz)
  clear hR5 hO2 hO3 hO4 hO5 hb1 ht5 hk3
  go_wp2_with fail
  go_at_call 21
  refine hs5.mono ?_
  clear hs5
  rintro e w6 ⟨rfl, m6, hw6⟩
  have hb6 : Below w.heap.size w w6 := by rw [hw6]; exact below_drewN hb5 _
  clear hw6
  go_wp2_with fail
  go_ret
  exact ⟨rfl, hb6⟩

section
variable {w : World} {p u b : Nat}

/-! A table that nobody made. -/
theorem Take_nil (n : Int) (w : World) : Calls Try.prog 13 #[.pointer none, .int .i64 n] w fun e w' => e = .returned (.tuple #[.int .u64 0, .int .i64 8]) ∧ w = w' := by
  go_enter Try.func13, Try.ntmps13
  go_wp2_with (go_at_call 23; go_must (refine (none_nil _).mono ?_); rintro e w' ⟨rfl, rfl⟩)
  go_ret2
  exact ⟨rfl, rfl⟩
theorem Give_zero (s : Nat) (h : T3 w p 0 u b) : Calls Try.prog 18 #[.pointer (some ⟨p, 0, none⟩), .int .u64 s] w fun e w' => e = .returned (.tuple #[.int .i64 0, .int .i64 8]) ∧ w = w' := by
  have hn := none_zero h
  go_enter Try.func18, Try.ntmps18
  go_wp2_with (go_at_call 23; go_must (refine hn.mono ?_); rintro e w' ⟨rfl, rfl⟩)
  go_ret2
  exact ⟨rfl, rfl⟩
theorem Counts_nil (w : World) : Calls Try.prog 19 #[.pointer none] w fun e w' => e = .returned (.tuple #[.int .i64 0, .int .i64 0, .int .i64 0]) ∧ w = w' := by
  go_enter Try.func19, Try.ntmps19
  go_wp2_with (go_at_call 23; go_must (refine (none_nil _).mono ?_); rintro e w' ⟨rfl, rfl⟩)
  go_ret3
  exact ⟨rfl, rfl⟩
theorem Claim_nil (s : Nat) (w : World) : Calls Try.prog 20 #[.pointer none, .int .u64 s] w fun e w' => e = .returned (.int .i64 8) ∧ w = w' := by
  go_enter Try.func20, Try.ntmps20
  go_wp2_with (go_at_call 23; go_must (refine (none_nil _).mono ?_); rintro e w' ⟨rfl, rfl⟩)
  go_ret
  exact ⟨rfl, rfl⟩
theorem check_nil (n : Int) (d : Bool) (w : World) : Calls Try.prog 29 #[.pointer none, .int .i64 n, .bool d] w fun e w' => e = .returned (.int .i64 8) ∧ w = w' := by
  go_enter Try.func29, Try.ntmps29
  go_wp2_with (go_at_call 23; go_must (refine (none_nil _).mono ?_); rintro e w' ⟨rfl, rfl⟩)
  go_ret
  exact ⟨rfl, rfl⟩
theorem check_zero (n : Int) (d : Bool) (h : T3 w p 0 u b) : Calls Try.prog 29 #[.pointer (some ⟨p, 0, none⟩), .int .i64 n, .bool d] w fun e w' => e = .returned (.int .i64 8) ∧ w = w' := by
  have hn := none_zero h
  go_enter Try.func29, Try.ntmps29
  go_wp2_with (go_at_call 23; go_must (refine hn.mono ?_); rintro e w' ⟨rfl, rfl⟩)
  go_ret
  exact ⟨rfl, rfl⟩
theorem Drain_zero (n : Int) (h : T3 w p 0 u b) : Calls Try.prog 11 #[.pointer (some ⟨p, 0, none⟩), .int .i64 n] w fun e w' => e = .returned (.int .i64 8) ∧ w = w' := by
  have hn := check_zero n false h
  go_enter Try.func11, Try.ntmps11
  go_wp2_with (go_at_call 29; go_must (refine hn.mono ?_); rintro e w' ⟨rfl, rfl⟩)
  go_ret
  exact ⟨rfl, rfl⟩
theorem Resume_nil (n : Int) (w : World) : Calls Try.prog 12 #[.pointer none, .int .i64 n] w fun e w' => e = .returned (.int .i64 8) ∧ w = w' := by
  go_enter Try.func12, Try.ntmps12
  go_wp2_with (go_at_call 29; go_must (refine (check_nil n true _).mono ?_); rintro e w' ⟨rfl, rfl⟩)
  go_ret
  exact ⟨rfl, rfl⟩
theorem State_nil (n : Int) (w : World) : Calls Try.prog 21 #[.pointer none, .int .i64 n] w fun e w' => e = .returned (.int .i64 0) ∧ w = w' := by
  go_enter Try.func21, Try.ntmps21
  go_wp2_with (go_at_call 23; go_must (refine (none_nil _).mono ?_); rintro e w' ⟨rfl, rfl⟩)
  go_ret
  exact ⟨rfl, rfl⟩
theorem Size_zero (h : T3 w p 0 u b) : Calls Try.prog 8 #[.pointer (some ⟨p, 0, none⟩)] w fun e w' => e = .returned (.int .i64 0) ∧ w = w' := by
  have hn := none_zero h
  go_enter Try.func8, Try.ntmps8
  go_wp2_with (go_at_call 23; go_must (refine hn.mono ?_); rintro e w' ⟨rfl, rfl⟩)
  go_ret
  exact ⟨rfl, rfl⟩
theorem Idle_nil (w : World) : Calls Try.prog 14 #[.pointer none] w fun e w' => e = .returned (.int .u64 0) ∧ w = w' := by
  go_enter Try.func14, Try.ntmps14
  go_wp2_with (go_at_call 23; go_must (refine (none_nil _).mono ?_); rintro e w' ⟨rfl, rfl⟩)
  go_ret
  exact ⟨rfl, rfl⟩
theorem Used_zero (h : T3 w p 0 u b) : Calls Try.prog 15 #[.pointer (some ⟨p, 0, none⟩)] w fun e w' => e = .returned (.int .u64 0) ∧ w = w' := by
  have hn := none_zero h
  go_enter Try.func15, Try.ntmps15
  go_wp2_with (go_at_call 23; go_must (refine hn.mono ?_); rintro e w' ⟨rfl, rfl⟩)
  go_ret
  exact ⟨rfl, rfl⟩
theorem Copy_nil (w : World) : Calls Try.prog 16 #[.pointer none] w fun e w' => e = .returned (.pointer none) ∧ w = w' := by
  go_enter Try.func16, Try.ntmps16
  go_wp2_with (go_at_call 23; go_must (refine (none_nil _).mono ?_); rintro e w' ⟨rfl, rfl⟩)
  go_ret
  exact ⟨rfl, rfl⟩
end

set_option maxRecDepth 100000 in
set_option maxHeartbeats 2000000 in
theorem walkNobody (n : Int) (s : Nat) (w : World) (_hn : -9223372036854775808 ≤ n ∧ n ≤ 9223372036854775807) (_hs : s < 18446744073709551616) :
    Calls Try.prog 5 #[.int .i64 n, .int .u64 s] w fun e w' => e = .returned (.bool true) ∧ Below w.heap.size w w' := by
  have hz : T3 (w.alloc (.cells #[.int .u64 0, .int .u64 0, .int .u64 0] 49)) w.heap.size 0 0 0 := heap_alloc_new w _
  have hb : Below w.heap.size w (w.alloc (.cells #[.int .u64 0, .int .u64 0, .int .u64 0] 49)) := (Below.refl _ _).alloc (Nat.le_refl _) _
  have g1 := Give_zero s hz
  have g2 := Drain_zero n hz
  have g3 := Size_zero hz
  have g4 := Used_zero hz
  clear hz
  go_enter Try.func5, Try.ntmps5
  go_wp2_with (first | (go_at_call 13; go_must (refine (Take_nil n _).mono ?_); rintro e w' ⟨rfl, rfl⟩) | (go_at_call 18; go_must (refine (g1).mono ?_); rintro e w' ⟨rfl, rfl⟩) | (go_at_call 19; go_must (refine (Counts_nil _).mono ?_); rintro e w' ⟨rfl, rfl⟩) | (go_at_call 20; go_must (refine (Claim_nil s _).mono ?_); rintro e w' ⟨rfl, rfl⟩) | (go_at_call 11; go_must (refine (g2).mono ?_); rintro e w' ⟨rfl, rfl⟩) | (go_at_call 12; go_must (refine (Resume_nil n _).mono ?_); rintro e w' ⟨rfl, rfl⟩) | (go_at_call 21; go_must (refine (State_nil n _).mono ?_); rintro e w' ⟨rfl, rfl⟩) | (go_at_call 8; go_must (refine (g3).mono ?_); rintro e w' ⟨rfl, rfl⟩) | (go_at_call 14; go_must (refine (Idle_nil _).mono ?_); rintro e w' ⟨rfl, rfl⟩) | (go_at_call 15; go_must (refine (g4).mono ?_); rintro e w' ⟨rfl, rfl⟩) | (go_at_call 16; go_must (refine (Copy_nil _).mono ?_); rintro e w' ⟨rfl, rfl⟩) | (go_at_call 7; go_must (refine (awake_any _).mono ?_); rintro e w5 ⟨rfl, hb5⟩))
  go_ret
  exact ⟨rfl, hb.trans (hb5.mono hb.size)⟩

end Go.Proofs.Ytmedbodjikbmfaa
