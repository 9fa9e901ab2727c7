/-
  Own walks: the chapter's example, and when two lists are the same.
-/
import Derived.Test.YtdlfbkiihkhmmaaHiG
namespace Go.Proofs.Ytdlfbkiihkhmmaa
set_option maxRecDepth 8000
open Go.RowKit Go.Lib Put

def aEv (k : Int) : Ev := { (default : Ev) with kd := k, tk := 1 }
/-- A new block of events is a list of them. -/
theorem evs_new (w : World) (L : List Ev) (hl : L.length ≤ 1000) : RowAt encE 24 (w.alloc (.cells (L.flatMap encE).toArray 36)) (.slice (some ⟨w.heap.size, 0, none⟩) L.length L.length) L :=
  RowAt.of_own (base := w.heap.size) (e := 36) (own_new (vs := L.flatMap encE) rfl (Nat.le_refl _) (flatE_len L) (by unfold maxLen; omega)) (fun _ => rfl) rfl rfl
/-- A new log is empty. -/
theorem log_new (w : World) : LG w.heap.size (w.alloc (.cells #[.int .i64 0, .slice none 0 0] 26)) w.heap.size 0 (.slice none 0 0) [] :=
  ⟨heap_alloc_new w _, World.ownsRow_nil _ _ _ _, Nat.le_refl _⟩

theorem three_lit : ([aEv 1, aEv 2, aEv 3].flatMap encE).toArray = #[.int .i64 0, .int .i64 1, .int .i64 1, .int .i64 0, .int .i64 0, .int .i64 0, .int .i64 0, .int .i64 0, .int .i64 0, .bool false, .int .i64 0, .int .i64 0, .int .i64 0, .int .i64 0, .int .i64 0, .int .i64 0, .int .i64 0, .int .i64 0, .int .i64 0, .int .i64 0, .int .i64 0, .int .i64 0, .int .i64 0, .bool false, .int .i64 0, .int .i64 2, .int .i64 1, .int .i64 0, .int .i64 0, .int .i64 0, .int .i64 0, .int .i64 0, .int .i64 0, .bool false, .int .i64 0, .int .i64 0, .int .i64 0, .int .i64 0, .int .i64 0, .int .i64 0, .int .i64 0, .int .i64 0, .int .i64 0, .int .i64 0, .int .i64 0, .int .i64 0, .int .i64 0, .bool false, .int .i64 0, .int .i64 3, .int .i64 1, .int .i64 0, .int .i64 0, .int .i64 0, .int .i64 0, .int .i64 0, .int .i64 0, .bool false, .int .i64 0, .int .i64 0, .int .i64 0, .int .i64 0, .int .i64 0, .int .i64 0, .int .i64 0, .int .i64 0, .int .i64 0, .int .i64 0, .int .i64 0, .int .i64 0, .int .i64 0, .bool false] := rfl
theorem one_lit : ([aEv 2].flatMap encE).toArray = #[.int .i64 0, .int .i64 2, .int .i64 1, .int .i64 0, .int .i64 0, .int .i64 0, .int .i64 0, .int .i64 0, .int .i64 0, .bool false, .int .i64 0, .int .i64 0, .int .i64 0, .int .i64 0, .int .i64 0, .int .i64 0, .int .i64 0, .int .i64 0, .int .i64 0, .int .i64 0, .int .i64 0, .int .i64 0, .int .i64 0, .bool false] := rfl
theorem sound3 : soundF [aEv 1, aEv 2, aEv 3] = true := by decide
theorem sound1 : soundF [aEv 2] = false := by decide
theorem stamp3 : [] ++ [aEv 1, aEv 2, aEv 3].map (stamp 0) = [aEv 1, aEv 2, aEv 3] := rfl
theorem order3 : ([aEv 1, aEv 2, aEv 3].filter fun x => decide (x.kd ∈ [2, 4])) = [aEv 2] := rfl
theorem aEv_fits (k : Int) : FitsE (aEv k) := by unfold FitsE aEv; dsimp only; omega

set_option maxRecDepth 1000000 in
set_option maxHeartbeats 4000000 in
theorem awake_fn (w : World) : Calls Try.prog 14 #[] w fun e w' => e = .returned (.bool true) ∧ Below w.heap.size w w' := by
  have hG1 := log_new w
  have hb1 : Below w.heap.size w (w.alloc (.cells #[.int .i64 0, .slice none 0 0] 26)) := (Below.refl _ _).alloc (Nat.le_refl _) _
  have hs1 : (w.alloc (.cells #[.int .i64 0, .slice none 0 0] 26)).heap.size = w.heap.size + 1 := by simp
  have hb2 : Below (w.alloc (.cells #[.int .i64 0, .slice none 0 0] 26)).heap.size (w.alloc (.cells #[.int .i64 0, .slice none 0 0] 26)) ((w.alloc (.cells #[.int .i64 0, .slice none 0 0] 26)).alloc (.cells ([aEv 1, aEv 2, aEv 3].flatMap encE).toArray 36)) := (Below.refl _ _).alloc (Nat.le_refl _) _
  have hbN := Lib.hid (Below.add hb1 hb2)
  have hN := Note_fn (hG1.below hb2) (evs_new (w.alloc (.cells #[.int .i64 0, .slice none 0 0] 26)) [aEv 1, aEv 2, aEv 3] (by decide)) (fun _ b off m c e => by
    rw [hs1] at e
    injection e with e _ _
    injection e with e
    injection e with e _ _
    exact ⟨by omega, by simp [Value.ownBlock]⟩) (by decide)
  unfold NotePost at hN
  rw [stamp3] at hN
  rw [three_lit] at hN hbN
  rw [hs1] at hN
  have hp3 : ∀ v3 (w3 : World), LG w.heap.size w3 w.heap.size 0 v3 [aEv 1, aEv 2, aEv 3] → Calls Try.prog 9 #[.pointer (some ⟨w.heap.size, 0, none⟩)] w3 (EvRes w3 [aEv 1, aEv 2, aEv 3]) := fun v3 w3 h => Events_fn h (by decide)
  clear hG1 hb1 hb2 hs1
  go_enter Try.func14, Try.ntmps14
  go_wp2_with fail
  go_at_call 7
  refine hN.mono ?_
  clear hN
  rintro e w3 ⟨rfl, v3, hG3, hO3, hN3⟩
  have hb3 : Below w.heap.size w w3 := hbN.out.trans (hO3.below hbN.out.size (Nat.le_refl _) (fun k hk => by cases hk))
  clear hO3 hN3 hbN
  replace hG3 := Lib.hid hG3
  replace hb3 := Lib.hid hb3
  replace hp3 := Lib.hid hp3
  go_wp2_with fail
  go_at_call 9
  refine (hp3.out _ _ hG3.out).mono ?_
  clear hp3
  rintro e w4 ⟨v4, rfl, hr4, hb4⟩
  have hG4 := Lib.hid (hG3.out.below hb4)
  have hb4' := Lib.hid (Below.add hb3.out hb4)
  clear hG3 hb3 hb4
  have hS4 := Sound_fn v4 _ w4 hr4 (fun x hx => by simp only [List.mem_cons, List.not_mem_nil, or_false] at hx; rcases hx with rfl | rfl | rfl <;> exact aEv_fits _) (by decide)
  rw [sound3] at hS4
  clear hr4
  go_wp2_with fail
  go_at_call 15
  refine hS4.mono ?_
  clear hS4
  rintro e w5 ⟨rfl, hb5⟩
  have hG5 := Lib.hid (hG4.out.below hb5)
  have hb5' := Lib.hid (Below.add hb4'.out hb5)
  clear hG4 hb4' hb5
  have hn5 : Below w5.heap.size w5 (w5.alloc (.cells ([aEv 2].flatMap encE).toArray 36)) := (Below.refl _ _).alloc (Nat.le_refl _) _
  have hS5 := Sound_fn _ _ _ (evs_new w5 [aEv 2] (by decide)) (fun x hx => by simp only [List.mem_cons, List.not_mem_nil, or_false] at hx; rcases hx with rfl; exact aEv_fits _) (by decide)
  rw [sound1] at hS5
  rw [one_lit] at hS5 hn5
  have hO5 := fun (w6 : World) (h : Below w5.heap.size w5 w6) => Order_fn (hG5.out.below h) (by decide)
  rw [order3] at hO5
  replace hO5 := Lib.hid hO5
  replace hn5 := Lib.hid hn5
  go_wp2_with fail
  go_at_call 15
  refine hS5.mono ?_
  clear hS5
  rintro e w6 ⟨rfl, hb6⟩
  have hO6 := hO5.out w6 (Below.add hn5.out hb6)
  have hb6' := Lib.hid (Below.add hb5'.out (Below.add hn5.out hb6))
  clear hO5 hn5 hb6 hb5' hG5
  go_wp2_with fail
  go_at_call 11
  refine hO6.mono ?_
  clear hO6
  rintro e w7 ⟨v7, rfl, hr7, hb7⟩
  obtain ⟨ao, cap, rfl, _, _, _⟩ := hr7
  have hb7' := Lib.hid (Below.add hb6'.out hb7)
  clear hb7 hb6'
  simp only [List.length_cons, List.length_nil]
  go_wp2_with fail
  go_ret
  exact ⟨rfl, hb7'.out⟩

set_option maxRecDepth 1000000 in
set_option maxHeartbeats 4000000 in
/-- Lists that are the same are the same. -/
theorem same_fn (u v : Value) (L : List Ev) (w : World) (hu : RowAt encE 24 w u L) (hv : RowAt encE 24 w v L) (hl : L.length ≤ 900) : Calls Try.prog 8 #[u, v] w fun e w' => e = .returned (.bool true) ∧ Below w.heap.size w w' := by
  have zE := zE_ev
  obtain ⟨k24, hk⟩ : ∃ k, k = 24 := ⟨_, rfl⟩
  rw [← hk] at zE
  replace hk := Lib.hid hk
  have huH := Lib.hid hu
  have hvH := Lib.hid hv
  obtain ⟨ao, cap, rfl, q1, q2, q3⟩ := hu
  obtain ⟨bo, cbp, rfl, p1, p2, p3⟩ := hv
  obtain ⟨n, hn⟩ : ∃ n, L.length = n := ⟨_, rfl⟩
  rw [hn] at q1 q3 p1 p3 hl huH hvH ⊢
  have HA : Hid (0 < n → ∃ b off c f, ao = some ⟨b, off, none⟩ ∧ bo = some ⟨c, f, none⟩) := fun hp => by
    obtain ⟨b, off, e, _⟩ := q3 hp
    obtain ⟨c, f, e2, _⟩ := p3 hp
    exact ⟨b, off, c, f, e, e2⟩
  have hcM : cap ≤ 9223372036854775807 := by unfold maxLen at q2; omega
  have hcN : cbp ≤ 9223372036854775807 := by unfold maxLen at p2; omega
  have hnM : n ≤ 9223372036854775807 := by omega
  clear q2 q3 p2 p3
  replace hn := Lib.hid hn
  go_enter Try.func8, Try.ntmps8
  go_wp2_with fail
  go_loopw [5] (fun ii wr => ∃ (i : Nat), i ≤ n ∧ ii = .int .i64 i ∧ Hid (Below w.heap.size w wr)) (fun ii _ => n - (intOf ii).toNat)
  case atStart => exact ⟨0, Nat.zero_le _, rfl, Below.refl _ _⟩
  case round =>
    obtain ⟨i, hin, rfl, hb⟩ := hrel
    by_cases hlt : i < n
    · have b2 : (i : Int) < (n : Int) := by omega
      have b0 : (0 : Int) ≤ (i : Int) := by omega
      have wi : IntKind.i64.wrap ((i : Int) + 1) = (i : Int) + 1 := by rw [IntKind.wrap_i64]; omega
      obtain ⟨g, off, g', off', rfl, rfl⟩ := HA.out (by omega)
      have hiL : i < L.length := by have := hn.out; omega
      have LI := ev_row (huH.out.below hb.out.drew) hk.out hiL
      have LJ := ev_row (hvH.out.below hb.out.drew) hk.out hiL
      generalize L[i]! = y at *
      have hne := ev_neq y
      have hgd := ev_guard
      go_wp2_with fail
      go_region
      all_goals
        go_wp2_with fail
        go_roundw
        case rel => exact ⟨i + 1, by omega, by go_num, hb.out.drew⟩
        case measure => simp [intOf]; omega
    · have b2 : ¬ (i : Int) < (n : Int) := by omega
      go_wp2_with fail
      go_ret
      exact ⟨rfl, hb.out⟩

end Go.Proofs.Ytdlfbkiihkhmmaa
