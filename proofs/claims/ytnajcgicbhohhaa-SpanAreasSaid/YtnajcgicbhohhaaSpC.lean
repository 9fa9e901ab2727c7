/-
  Own walks: the law's own words (which spans may be; how many nodes they have; the first of them; the last end).
-/
import Derived.Test.YtnajcgicbhohhaaSpB
import Derived.Sort.Grow
namespace Go.Proofs.Ytnajcgicbhohhaa
open Go.RowKit

set_option maxHeartbeats 400000 in
theorem right_any (s : Sp) (w : World) :
    Calls Try.prog 9 #[.agg #[.int .i64 s.a, .int .i64 s.b, .int .i64 s.n]] w fun e w' => e = .returned (.bool (rightB s)) ∧ w' = w.alloc (.cells #[.int .i64 s.a, .int .i64 s.b, .int .i64 s.n] 26) := by
  obtain ⟨a, b, n⟩ := s
  dsimp only
  by_cases h1 : 0 ≤ a
  · by_cases h2 : a < b
    · by_cases h3 : b ≤ 1152921504606846976
      · by_cases h4 : 1 ≤ n
        · by_cases h5 : n ≤ 64
          · rw [rightB_mk ⟨h1, h2, h3, h4, h5⟩]
            go_enter Try.func9, Try.ntmps9
            go_wp2_with fail
            go_ret
            exact ⟨rfl, rfl⟩
          · rw [rightB_no (fun h => h5 h.2.2.2.2)]
            have h5' : 64 < n := by omega
            go_enter Try.func9, Try.ntmps9
            go_wp2_with fail
            go_ret
            exact ⟨rfl, rfl⟩
        · rw [rightB_no (fun h => h4 h.2.2.2.1)]
          have h4' : n < 1 := by omega
          go_enter Try.func9, Try.ntmps9
          go_wp2_with fail
          go_ret
          exact ⟨rfl, rfl⟩
      · rw [rightB_no (fun h => h3 h.2.2.1)]
        have h3' : 1152921504606846976 < b := by omega
        go_enter Try.func9, Try.ntmps9
        go_wp2_with fail
        go_ret
        exact ⟨rfl, rfl⟩
    · rw [rightB_no (fun h => h2 h.2.1)]
      have h2' : b ≤ a := by omega
      go_enter Try.func9, Try.ntmps9
      go_wp2_with fail
      go_ret
      exact ⟨rfl, rfl⟩
  · rw [rightB_no (fun h => h1 h.1)]
    have h1' : a < 0 := by omega
    go_enter Try.func9, Try.ntmps9
    go_wp2_with fail
    go_ret
    exact ⟨rfl, rfl⟩


/-- Nothing but new blocks. -/
def Gr (w w' : World) : Prop := ∃ os, w' = Sort.grow w os
theorem Gr.refl (w : World) : Gr w w := ⟨#[], (Sort.grow_empty w).symm⟩
theorem Gr.alloc {w w' : World} (h : Gr w w') (o : Obj) : Gr w (w'.alloc o) := by
  obtain ⟨os, rfl⟩ := h
  exact ⟨_, by rw [Sort.alloc_eq_grow, Sort.grow_grow]⟩
theorem Gr.below {w w' : World} (h : Gr w w') : Below w.heap.size w w' := by
  obtain ⟨os, rfl⟩ := h
  exact ⟨rfl, rfl, rfl, by simp, fun k hk => Sort.heap_grow_old w os hk⟩

set_option maxHeartbeats 400000 in
theorem at_gr (t : Int) (v : Value) (l : List Sp) (w : World) (h : RowAt enc3 3 w v l) (hlen : l.length ≤ 30) :
    Calls Try.prog 13 #[.int .i64 t, v] w fun e w' => e = .returned (.int .i64 (usedF l t)) ∧ Gr w w' := by
  obtain ⟨ao, cap, rfl, hlc, hcm, hcells⟩ := h
  clear hcm
  go_enter Try.func13, Try.ntmps13
  go_wp2_with fail
  go_loopw [5, 6] (fun u i wr => ∃ (k : Nat), k ≤ l.length ∧ i = .int .i64 k ∧ u = .int .i64 (usedF (l.take k) t) ∧ Gr w wr) (fun _ i _ => l.length - (intOf i).toNat)
  case atStart => exact ⟨0, Nat.zero_le _, rfl, rfl, Gr.refl _⟩
  case round =>
    obtain ⟨k, hk, rfl, rfl, hg⟩ := hrel
    have hb := hg.below
    by_cases hlt : k < l.length
    · obtain ⟨b, off, rfl, hbw, hcell⟩ := hcells (by omega)
      obtain ⟨s, hs⟩ : ∃ s, l[k]? = some s := ⟨_, List.getElem?_eq_getElem hlt⟩
      obtain ⟨c0, c1, c2⟩ := span_at hcell hs
      rw [← hb.cell (p := ⟨b, _, none⟩) hbw] at c0 c1 c2
      have hsz := hb.size
      have hbw' : b < wr.heap.size := by omega
      clear hcell hcells
      have hn : usedF (l.take (k + 1)) t = usedF (l.take k) t + hadF t s := by rw [take_snoc hs, usedF_snoc]
      have hu := usedF_range (l.take k) t
      have hkl : (l.take k).length ≤ 30 := by rw [List.length_take]; omega
      have hbd : Gr w (wr.alloc (.cells #[.int .i64 s.a, .int .i64 s.b, .int .i64 s.n] 26)) := hg.alloc _
      by_cases hin : rightB s = true ∧ s.a ≤ t ∧ t < s.b
      · have hh : hadF t s = s.n := if_pos hin
        obtain ⟨hr, h1, h2⟩ := hin
        have hnr := rightB_yes hr
        obtain ⟨_, _, _, hn1, hn2⟩ := hnr
        have HN : Hid (usedF (l.take (k + 1)) t = usedF (l.take k) t + s.n) := by show _ = _; rw [hn, hh]
        clear hn hh
        go_wp2_with (go_at_call 9; go_must (refine (right_any s _).mono ?_); rintro e w' ⟨rfl, rfl⟩; rw [hr])
        go_roundw
        case rel => exact ⟨k + 1, by omega, by go_num, by rw [HN.out], hbd⟩
        case measure => simp [intOf]; omega
      · have hh : hadF t s = 0 := if_neg hin
        have HN : Hid (usedF (l.take (k + 1)) t = usedF (l.take k) t) := by show _ = _; rw [hn, hh]; omega
        clear hn hh
        by_cases hr : rightB s = true
        · by_cases h1 : s.a ≤ t
          · have h2 : s.b ≤ t := by
              rcases Int.lt_or_le t s.b with h | h
              · exact (hin ⟨hr, h1, h⟩).elim
              · exact h
            clear hin
            go_wp2_with (go_at_call 9; go_must (refine (right_any s _).mono ?_); rintro e w' ⟨rfl, rfl⟩; rw [hr])
            go_roundw
            case rel => exact ⟨k + 1, by omega, by go_num, by rw [HN.out], hbd⟩
            case measure => simp [intOf]; omega
          · have h1' : t < s.a := by omega
            clear hin
            go_wp2_with (go_at_call 9; go_must (refine (right_any s _).mono ?_); rintro e w' ⟨rfl, rfl⟩; rw [hr])
            go_roundw
            case rel => exact ⟨k + 1, by omega, by go_num, by rw [HN.out], hbd⟩
            case measure => simp [intOf]; omega
        · have hr' : rightB s = false := by simpa using hr
          clear hin hr
          go_wp2_with (go_at_call 9; go_must (refine (right_any s _).mono ?_); rintro e w' ⟨rfl, rfl⟩; rw [hr'])
          go_roundw
          case rel => exact ⟨k + 1, by omega, by go_num, by rw [HN.out], hbd⟩
          case measure => simp [intOf]; omega
    · obtain rfl : k = l.length := by omega
      rw [List.take_of_length_le (Nat.le_refl _)]
      go_wp2_with fail
      go_ret
      exact ⟨rfl, hg⟩

theorem at_any (t : Int) (v : Value) (l : List Sp) (w : World) (h : RowAt enc3 3 w v l) (hlen : l.length ≤ 30) :
    Calls Try.prog 13 #[.int .i64 t, v] w fun e w' => e = .returned (.int .i64 (usedF l t)) ∧ Below w.heap.size w w' := (at_gr t v l w h hlen).mono fun _ _ ⟨he, hg⟩ => ⟨he, hg.below⟩

theorem few_any (v : Value) (l : List Sp) (w : World) (h : RowAt enc3 3 w v l) :
    Calls Try.prog 7 #[v] w fun e w' => ∃ v', e = .returned v' ∧ RowAt enc3 3 w v' (l.take 30) ∧ w = w' := by
  have h0 := h
  obtain ⟨ao, cap, rfl, hlc, hcm, -⟩ := h
  have hcM : cap ≤ 9223372036854775807 := by unfold maxLen at hcm; omega
  by_cases hl : 30 < l.length
  · have HC := Lib.hid (h0.cut (n := 30) (by omega))
    clear h0
    go_enter Try.func7, Try.ntmps7
    go_wp2_with fail
    go_ret
    exact ⟨_, rfl, HC.out, rfl⟩
  · rw [List.take_of_length_le (by omega)]
    have HC := Lib.hid h0
    clear h0
    go_enter Try.func7, Try.ntmps7
    go_wp2_with fail
    go_ret
    exact ⟨_, rfl, HC.out, rfl⟩

/-- The greatest end. -/
def lastF (l : List Sp) : Int := l.foldl (fun m s => if rightB s then max m s.b else m) 0
theorem lastF_snoc (l : List Sp) (s : Sp) : lastF (l ++ [s]) = if rightB s then max (lastF l) s.b else lastF l := by unfold lastF; rw [List.foldl_append]; rfl

set_option maxHeartbeats 400000 in
theorem Last_any (v : Value) (l : List Sp) (w : World) (h : RowAt enc3 3 w v l) (hlen : l.length ≤ 30) :
    Calls Try.prog 14 #[v] w fun e w' => e = .returned (.int .i64 (lastF l)) ∧ Below w.heap.size w w' := by
  obtain ⟨ao, cap, rfl, hlc, hcm, hcells⟩ := h
  clear hcm
  go_enter Try.func14, Try.ntmps14
  go_wp2_with fail
  go_loopw [3, 8] (fun u i wr => ∃ (k : Nat), k ≤ l.length ∧ i = .int .i64 k ∧ u = .int .i64 (lastF (l.take k)) ∧ Below w.heap.size w wr) (fun _ i _ => l.length - (intOf i).toNat)
  case atStart => exact ⟨0, Nat.zero_le _, rfl, rfl, Below.refl _ _⟩
  case round =>
    obtain ⟨k, hk, rfl, rfl, hb⟩ := hrel
    by_cases hlt : k < l.length
    · obtain ⟨b, off, rfl, hbw, hcell⟩ := hcells (by omega)
      obtain ⟨s, hs⟩ : ∃ s, l[k]? = some s := ⟨_, List.getElem?_eq_getElem hlt⟩
      obtain ⟨c0, c1, c2⟩ := span_at hcell hs
      rw [← hb.cell (p := ⟨b, _, none⟩) hbw] at c0 c1 c2
      have hsz := hb.size
      clear hcell hcells
      have hn : lastF (l.take (k + 1)) = if rightB s then max (lastF (l.take k)) s.b else lastF (l.take k) := by rw [take_snoc hs, lastF_snoc]
      have hbd : Below w.heap.size w ((wr.alloc (.cells #[.int .i64 s.a, .int .i64 s.b, .int .i64 s.n] 26)).alloc (.cells #[.int .i64 s.a, .int .i64 s.b, .int .i64 s.n] 26)) := (hb.alloc hb.size _).alloc (Nat.le_trans hb.size (by simp)) _
      by_cases hr : rightB s = true
      · have HN : Hid (lastF (l.take (k + 1)) = max (lastF (l.take k)) s.b) := by show _ = _; rw [hn, if_pos hr]
        clear hn
        go_wp2_with (go_at_call 8; go_must (refine (Right_any s _).mono ?_); rintro e w' ⟨rfl, rfl⟩; rw [hr])
        go_roundw
        case rel => exact ⟨k + 1, by omega, by go_num, by rw [HN.out], hbd⟩
        case measure => simp [intOf]; omega
      · have hr' : rightB s = false := by simpa using hr
        have HN : Hid (lastF (l.take (k + 1)) = lastF (l.take k)) := by show _ = _; rw [hn, if_neg hr]
        clear hn hr
        go_wp2_with (go_at_call 8; go_must (refine (Right_any s _).mono ?_); rintro e w' ⟨rfl, rfl⟩; rw [hr'])
        go_roundw
        case rel => exact ⟨k + 1, by omega, by go_num, by rw [HN.out], hbd⟩
        case measure => simp [intOf]; omega
    · obtain rfl : k = l.length := by omega
      rw [List.take_of_length_le (Nat.le_refl _)]
      go_wp2_with fail
      go_ret
      exact ⟨rfl, hb⟩

end Go.Proofs.Ytnajcgicbhohhaa
