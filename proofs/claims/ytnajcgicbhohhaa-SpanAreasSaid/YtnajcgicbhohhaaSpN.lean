/-
  The statement on areas: its walk.
-/
import Derived.Test.YtnajcgicbhohhaaSpE
import Derived.Test.YtnajcgicbhohhaaSpL
import Derived.Deep.QuietTactic
import Derived.BigQuiet
namespace Go.Proofs.Ytnajcgicbhohhaa
open Go.RowKit Go.Lib

theorem area_yes {f t sum A B y : Int} {s : Sp} (hr : rightB s = true) (hA : A = max f s.a) (hB : B = min t s.b) (hAB : A < B) (hs : 0 ≤ sum ∧ sum ≤ 1152921504606846976) (hy : y = s.n * (B - A)) (hy0 : 0 ≤ y) (hy1 : y ≤ 72057594037927936) : stepA f t sum s = min (sum + y) 1152921504606846976 := by
  subst hA hB
  rw [stepA, if_pos ⟨hr, hAB⟩, ← hy, hd_mid (v := y) (by omega) (by omega)]
  unfold hd
  omega
theorem area_no {f t sum A B : Int} {s : Sp} (hA : A = max f s.a) (hB : B = min t s.b) (hAB : B ≤ A) : stepA f t sum s = sum := by
  subst hA hB
  rw [stepA, if_neg (by omega)]
theorem area_prod {n A B : Int} (h1 : 1 ≤ n) (h2 : n ≤ 64) (h3 : A < B) (h4 : 0 ≤ A) (h5 : B ≤ 1125899906842624) : 0 ≤ n * (B - A) ∧ n * (B - A) ≤ 72057594037927936 := by
  refine ⟨Int.mul_nonneg (by omega) (by omega), ?_⟩
  have := Int.mul_le_mul h2 (show B - A ≤ 1125899906842624 by omega) (by omega) (by omega)
  omega

set_option maxHeartbeats 1000000 in
theorem areas_out1 (f t : Int) (v : Value) (l : List Sp) (w : World) (h : RowAt enc3 3 w v l) (h1 : f < 0) :
    Calls Try.prog 5 #[.int .i64 f, .int .i64 t, v] w fun e w' => e = .returned (.bool true) ∧ Below w.heap.size w w' := by
  have hfew := few_any v l w h
  clear h
  go_enter Try.func5, Try.ntmps5
  go_wp2_with (first | (go_at_call 7; go_must (refine hfew.mono ?_); rintro e w' ⟨v', rfl, h, rfl⟩) | (go_at_call 15; go_must (refine (awake_any _).mono ?_); rintro e w4 ⟨rfl, hb4⟩))
  go_ret
  exact ⟨rfl, hb4⟩

set_option maxHeartbeats 1000000 in
theorem areas_out2 (f t : Int) (v : Value) (l : List Sp) (w : World) (h : RowAt enc3 3 w v l) (h0 : 0 ≤ f) (h1 : 1125899906842624 < f) :
    Calls Try.prog 5 #[.int .i64 f, .int .i64 t, v] w fun e w' => e = .returned (.bool true) ∧ Below w.heap.size w w' := by
  have hfew := few_any v l w h
  clear h
  go_enter Try.func5, Try.ntmps5
  go_wp2_with (first | (go_at_call 7; go_must (refine hfew.mono ?_); rintro e w' ⟨v', rfl, h, rfl⟩) | (go_at_call 15; go_must (refine (awake_any _).mono ?_); rintro e w4 ⟨rfl, hb4⟩))
  go_ret
  exact ⟨rfl, hb4⟩

set_option maxHeartbeats 1000000 in
theorem areas_out3 (f t : Int) (v : Value) (l : List Sp) (w : World) (h : RowAt enc3 3 w v l) (h0 : 0 ≤ f) (h1 : f ≤ 1125899906842624) (h2 : t < 0) :
    Calls Try.prog 5 #[.int .i64 f, .int .i64 t, v] w fun e w' => e = .returned (.bool true) ∧ Below w.heap.size w w' := by
  have hfew := few_any v l w h
  clear h
  go_enter Try.func5, Try.ntmps5
  go_wp2_with (first | (go_at_call 7; go_must (refine hfew.mono ?_); rintro e w' ⟨v', rfl, h, rfl⟩) | (go_at_call 15; go_must (refine (awake_any _).mono ?_); rintro e w4 ⟨rfl, hb4⟩))
  go_ret
  exact ⟨rfl, hb4⟩

set_option maxHeartbeats 1000000 in
theorem areas_out4 (f t : Int) (v : Value) (l : List Sp) (w : World) (h : RowAt enc3 3 w v l) (h0 : 0 ≤ f) (h1 : f ≤ 1125899906842624) (h2 : 0 ≤ t) (h3 : 1125899906842624 < t) :
    Calls Try.prog 5 #[.int .i64 f, .int .i64 t, v] w fun e w' => e = .returned (.bool true) ∧ Below w.heap.size w w' := by
  have hfew := few_any v l w h
  clear h
  go_enter Try.func5, Try.ntmps5
  go_wp2_with (first | (go_at_call 7; go_must (refine hfew.mono ?_); rintro e w' ⟨v', rfl, h, rfl⟩) | (go_at_call 15; go_must (refine (awake_any _).mono ?_); rintro e w4 ⟨rfl, hb4⟩))
  go_ret
  exact ⟨rfl, hb4⟩

set_option maxRecDepth 100000 in
set_option maxHeartbeats 4000000 in
theorem areas_in (f t : Int) (v : Value) (l : List Sp) (w : World) (h : RowAt enc3 3 w v l) (hf0 : 0 ≤ f) (hf1 : f ≤ 1125899906842624) (ht0 : 0 ≤ t) (ht1 : t ≤ 1125899906842624) :
    Calls Try.prog 5 #[.int .i64 f, .int .i64 t, v] w fun e w' => e = .returned (.bool true) ∧ Below w.heap.size w w' := by
  have hfew := few_any v l w h
  have hlen : (l.take 30).length ≤ 30 := by rw [List.length_take]; omega
  obtain ⟨m, hm⟩ : ∃ m, m = l.take 30 := ⟨_, rfl⟩
  rw [← hm] at hfew hlen
  clear hm h
  go_enter Try.func5, Try.ntmps5
  go_wp2_with (go_at_call 7; go_must (refine hfew.mono ?_); rintro e w' ⟨v', rfl, h, rfl⟩)
  have h0 := h
  obtain ⟨ao, cap, rfl, hlc, hcm, hcells⟩ := h0
  clear hcm hfew
  go_loopw [7, 8] (fun u i wr => ∃ (k : Nat), k ≤ m.length ∧ i = .int .i64 k ∧ u = .int .i64 (areaF f t (m.take k)) ∧ Below w.heap.size w wr) (fun _ i _ => m.length - (intOf i).toNat)
  case atStart => exact ⟨0, Nat.zero_le _, rfl, rfl, Below.refl _ _⟩
  case round =>
    obtain ⟨k, hk, rfl, rfl, hb⟩ := hrel
    by_cases hlt : k < m.length
    · obtain ⟨b, off, rfl, hbw, hcell⟩ := hcells (by omega)
      obtain ⟨s, hs⟩ : ∃ s, m[k]? = some s := ⟨_, List.getElem?_eq_getElem hlt⟩
      obtain ⟨c0, c1, c2⟩ := span_at hcell hs
      rw [← hb.cell (p := ⟨b, _, none⟩) hbw] at c0 c1 c2
      have hsz := hb.size
      have hx1 : (k : Int) < (m.length : Int) := by omega
      clear hcell hcells
      have hn : areaF f t (m.take (k + 1)) = stepA f t (areaF f t (m.take k)) s := by rw [take_snoc hs, areaF_snoc]
      have hu := areaF_range f t (m.take k)
      obtain ⟨u, hU⟩ : ∃ u, u = areaF f t (m.take k) := ⟨_, rfl⟩
      rw [← hU] at hn hu ⊢
      clear hU
      replace hs := Lib.hid hs
      have hbd : Below w.heap.size w ((wr.alloc (.cells #[.int .i64 s.a, .int .i64 s.b, .int .i64 s.n] 26)).alloc (.cells #[.int .i64 s.a, .int .i64 s.b, .int .i64 s.n] 26)) := (hb.alloc hb.size _).alloc (Nat.le_trans hb.size (by simp)) _
      by_cases hr : rightB s = true
      · have hnr := rightB_yes hr
        obtain ⟨hr0, hr1, hr2, hr3, hr4⟩ := hnr
        by_cases hbig : 1125899906842624 < s.b
        · clear hn
          go_wp2_with (first | (go_at_call 9; go_must (refine (right_any s _).mono ?_); rintro e w' ⟨rfl, rfl⟩; rw [hr]) | (go_at_call 15; go_must (refine (awake_any _).mono ?_); rintro e w4 ⟨rfl, hb4⟩))
          go_ret
          exact ⟨rfl, hbd.trans (hb4.mono hbd.size)⟩
        · have hbig' : s.b ≤ 1125899906842624 := by omega
          have go_on : True := trivial
          rcases Int.lt_or_le s.a f with h1 | h1
          · rcases Int.lt_or_le t s.b with h2 | h2
            · rcases Int.lt_or_le f t with h3 | h3
              · have hp := area_prod (n := s.n) (A := f) (B := t) hr3 hr4 h3 (by omega) (by omega)
                obtain ⟨hp0, hp1⟩ := hp
                have hy := area_yes (f := f) (t := t) (A := f) (B := t) hr (by omega) (by omega) h3 hu rfl hp0 hp1
                rcases Int.lt_or_le 1152921504606846976 (u + s.n * (t - f)) with h4 | h4
                · have HN : Hid (areaF f t (m.take (k + 1)) = 1152921504606846976) := by show _ = _; rw [hn, hy]; exact Int.min_eq_right (by omega)
                  clear hn hy
                  go_wp2_with (go_at_call 9; go_must (refine (right_any s _).mono ?_); rintro e w' ⟨rfl, rfl⟩; rw [hr])
                  go_quiet (fail)
                  go_wp2_with fail
                  go_roundw
                  case rel => exact ⟨k + 1, by omega, by go_num, by rw [HN.out], below_drewN hbd _⟩
                  case measure => simp [intOf]; omega
                · have HN : Hid (areaF f t (m.take (k + 1)) = u + s.n * (t - f)) := by show _ = _; rw [hn, hy]; exact Int.min_eq_left (by omega)
                  clear hn hy
                  go_wp2_with (go_at_call 9; go_must (refine (right_any s _).mono ?_); rintro e w' ⟨rfl, rfl⟩; rw [hr])
                  go_quiet (fail)
                  go_wp2_with fail
                  go_roundw
                  case rel => exact ⟨k + 1, by omega, by go_num, by rw [HN.out], below_drewN hbd _⟩
                  case measure => simp [intOf]; omega
              · have HN : Hid (areaF f t (m.take (k + 1)) = u) := by show _ = _; rw [hn]; exact area_no (A := f) (B := t) (by omega) (by omega) h3
                clear hn
                go_wp2_with (go_at_call 9; go_must (refine (right_any s _).mono ?_); rintro e w' ⟨rfl, rfl⟩; rw [hr])
                go_quiet (fail)
                go_wp2_with fail
                go_roundw
                case rel => exact ⟨k + 1, by omega, by go_num, by rw [HN.out], below_drewN hbd _⟩
                case measure => simp [intOf]; omega
            · rcases Int.lt_or_le f s.b with h3 | h3
              · have hp := area_prod (n := s.n) (A := f) (B := s.b) hr3 hr4 h3 (by omega) (by omega)
                obtain ⟨hp0, hp1⟩ := hp
                have hy := area_yes (f := f) (t := t) (A := f) (B := s.b) hr (by omega) (by omega) h3 hu rfl hp0 hp1
                rcases Int.lt_or_le 1152921504606846976 (u + s.n * (s.b - f)) with h4 | h4
                · have HN : Hid (areaF f t (m.take (k + 1)) = 1152921504606846976) := by show _ = _; rw [hn, hy]; exact Int.min_eq_right (by omega)
                  clear hn hy
                  go_wp2_with (go_at_call 9; go_must (refine (right_any s _).mono ?_); rintro e w' ⟨rfl, rfl⟩; rw [hr])
                  go_quiet (fail)
                  go_wp2_with fail
                  go_roundw
                  case rel => exact ⟨k + 1, by omega, by go_num, by rw [HN.out], below_drewN hbd _⟩
                  case measure => simp [intOf]; omega
                · have HN : Hid (areaF f t (m.take (k + 1)) = u + s.n * (s.b - f)) := by show _ = _; rw [hn, hy]; exact Int.min_eq_left (by omega)
                  clear hn hy
                  go_wp2_with (go_at_call 9; go_must (refine (right_any s _).mono ?_); rintro e w' ⟨rfl, rfl⟩; rw [hr])
                  go_quiet (fail)
                  go_wp2_with fail
                  go_roundw
                  case rel => exact ⟨k + 1, by omega, by go_num, by rw [HN.out], below_drewN hbd _⟩
                  case measure => simp [intOf]; omega
              · have HN : Hid (areaF f t (m.take (k + 1)) = u) := by show _ = _; rw [hn]; exact area_no (A := f) (B := s.b) (by omega) (by omega) h3
                clear hn
                go_wp2_with (go_at_call 9; go_must (refine (right_any s _).mono ?_); rintro e w' ⟨rfl, rfl⟩; rw [hr])
                go_quiet (fail)
                go_wp2_with fail
                go_roundw
                case rel => exact ⟨k + 1, by omega, by go_num, by rw [HN.out], below_drewN hbd _⟩
                case measure => simp [intOf]; omega
          · rcases Int.lt_or_le t s.b with h2 | h2
            · rcases Int.lt_or_le s.a t with h3 | h3
              · have hp := area_prod (n := s.n) (A := s.a) (B := t) hr3 hr4 h3 (by omega) (by omega)
                obtain ⟨hp0, hp1⟩ := hp
                have hy := area_yes (f := f) (t := t) (A := s.a) (B := t) hr (by omega) (by omega) h3 hu rfl hp0 hp1
                rcases Int.lt_or_le 1152921504606846976 (u + s.n * (t - s.a)) with h4 | h4
                · have HN : Hid (areaF f t (m.take (k + 1)) = 1152921504606846976) := by show _ = _; rw [hn, hy]; exact Int.min_eq_right (by omega)
                  clear hn hy
                  go_wp2_with (go_at_call 9; go_must (refine (right_any s _).mono ?_); rintro e w' ⟨rfl, rfl⟩; rw [hr])
                  go_quiet (fail)
                  go_wp2_with fail
                  go_roundw
                  case rel => exact ⟨k + 1, by omega, by go_num, by rw [HN.out], below_drewN hbd _⟩
                  case measure => simp [intOf]; omega
                · have HN : Hid (areaF f t (m.take (k + 1)) = u + s.n * (t - s.a)) := by show _ = _; rw [hn, hy]; exact Int.min_eq_left (by omega)
                  clear hn hy
                  go_wp2_with (go_at_call 9; go_must (refine (right_any s _).mono ?_); rintro e w' ⟨rfl, rfl⟩; rw [hr])
                  go_quiet (fail)
                  go_wp2_with fail
                  go_roundw
                  case rel => exact ⟨k + 1, by omega, by go_num, by rw [HN.out], below_drewN hbd _⟩
                  case measure => simp [intOf]; omega
              · have HN : Hid (areaF f t (m.take (k + 1)) = u) := by show _ = _; rw [hn]; exact area_no (A := s.a) (B := t) (by omega) (by omega) h3
                clear hn
                go_wp2_with (go_at_call 9; go_must (refine (right_any s _).mono ?_); rintro e w' ⟨rfl, rfl⟩; rw [hr])
                go_quiet (fail)
                go_wp2_with fail
                go_roundw
                case rel => exact ⟨k + 1, by omega, by go_num, by rw [HN.out], below_drewN hbd _⟩
                case measure => simp [intOf]; omega
            · rcases Int.lt_or_le s.a s.b with h3 | h3
              · have hp := area_prod (n := s.n) (A := s.a) (B := s.b) hr3 hr4 h3 (by omega) (by omega)
                obtain ⟨hp0, hp1⟩ := hp
                have hy := area_yes (f := f) (t := t) (A := s.a) (B := s.b) hr (by omega) (by omega) h3 hu rfl hp0 hp1
                rcases Int.lt_or_le 1152921504606846976 (u + s.n * (s.b - s.a)) with h4 | h4
                · have HN : Hid (areaF f t (m.take (k + 1)) = 1152921504606846976) := by show _ = _; rw [hn, hy]; exact Int.min_eq_right (by omega)
                  clear hn hy
                  go_wp2_with (go_at_call 9; go_must (refine (right_any s _).mono ?_); rintro e w' ⟨rfl, rfl⟩; rw [hr])
                  go_quiet (fail)
                  go_wp2_with fail
                  go_roundw
                  case rel => exact ⟨k + 1, by omega, by go_num, by rw [HN.out], below_drewN hbd _⟩
                  case measure => simp [intOf]; omega
                · have HN : Hid (areaF f t (m.take (k + 1)) = u + s.n * (s.b - s.a)) := by show _ = _; rw [hn, hy]; exact Int.min_eq_left (by omega)
                  clear hn hy
                  go_wp2_with (go_at_call 9; go_must (refine (right_any s _).mono ?_); rintro e w' ⟨rfl, rfl⟩; rw [hr])
                  go_quiet (fail)
                  go_wp2_with fail
                  go_roundw
                  case rel => exact ⟨k + 1, by omega, by go_num, by rw [HN.out], below_drewN hbd _⟩
                  case measure => simp [intOf]; omega
              · exact absurd h3 (Int.not_le.2 hr1)
      · have hr' : rightB s = false := by simpa using hr
        have HN : Hid (areaF f t (m.take (k + 1)) = u) := by show _ = _; rw [hn, stepA, if_neg (fun h => hr h.1)]
        clear hn hr
        go_wp2_with (go_at_call 9; go_must (refine (right_any s _).mono ?_); rintro e w' ⟨rfl, rfl⟩; rw [hr'])
        go_roundw
        case rel => exact ⟨k + 1, by omega, by go_num, by rw [HN.out], hbd⟩
        case measure => simp [intOf]; omega
    · obtain rfl : k = m.length := by omega
      rw [List.take_of_length_le (Nat.le_refl _)]
      have hpk := SArea_any f t _ m wr (h.below hb) hlen
      obtain ⟨M, hM⟩ : ∃ M, M = areaF f t m := ⟨_, rfl⟩
      rw [← hM] at hpk ⊢
      clear hM hcells
      go_wp2_with (first | (go_at_call 17; go_must (refine hpk.mono ?_); rintro e w3 ⟨rfl, hb3⟩) | (go_at_call 15; go_must (refine (awake_any _).mono ?_); rintro e w4 ⟨rfl, hb4⟩))
      go_ret
      exact ⟨rfl, (hb.trans (hb3.mono hb.size)).trans (hb4.mono (Nat.le_trans hb.size hb3.size))⟩

theorem areas_law (f t : Int) (v : Value) (l : List Sp) (w : World) (_ : -9223372036854775808 ≤ f ∧ f ≤ 9223372036854775807) (_ : -9223372036854775808 ≤ t ∧ t ≤ 9223372036854775807) (h : RowAt enc3 3 w v l) (_ : ∀ s ∈ l, s.fits) :
    Calls Try.prog 5 #[.int .i64 f, .int .i64 t, v] w fun e w' => e = .returned (.bool true) ∧ Below w.heap.size w w' := by
  by_cases h1 : f < 0
  · exact areas_out1 f t v l w h h1
  · by_cases h2 : 1125899906842624 < f
    · exact areas_out2 f t v l w h (by omega) h2
    · by_cases h3 : t < 0
      · exact areas_out3 f t v l w h (by omega) (by omega) h3
      · by_cases h4 : 1125899906842624 < t
        · exact areas_out4 f t v l w h (by omega) (by omega) (by omega) h4
        · exact areas_in f t v l w h (by omega) (by omega) (by omega) (by omega)

end Go.Proofs.Ytnajcgicbhohhaa
