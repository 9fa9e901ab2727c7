/-
  The statement on peaks: its walk.
-/
import Derived.Test.YtnajcgicbhohhaaSpL
namespace Go.Proofs.Ytnajcgicbhohhaa
open Go.RowKit Go.Lib

theorem int_of {w : World} {base g n cap : Nat} {e : TypeId} {r : List Int} {x : Int} (h : w.ownsRow base e 1 (.slice (some ⟨g, 0, none⟩) n cap) n (intsV r)) {k : Nat} (hx : r[k]? = some x) : w.cell? ⟨g, k, none⟩ = some (.int .i64 x) := by
  have hv : (intsV r)[k]? = some (.int .i64 x) := by simp [intsV, hx]
  have c := h.cells (g := g) rfl _ _ hv
  rw [Go.WideShapes.add_plain] at c
  simpa using c
theorem mostF_no {f t : Int} (l : List Sp) (r : List Int) (h : t ≤ f) : mostF f t l r = 0 := by
  have key : ∀ n, n ≤ r.length → mostF f t l (r.take n) = 0 := by
    intro n
    induction n with
    | zero => intro _; unfold mostF; rw [List.take_zero, List.foldl_nil, if_neg (by omega)]
    | succ n ih =>
      intro hn
      rw [take_snoc (List.getElem?_eq_getElem (show n < r.length by omega)), mostF_snoc, if_neg (by omega)]
      exact ih (by omega)
  have := key r.length (Nat.le_refl _)
  rwa [List.take_of_length_le (Nat.le_refl _)] at this
theorem mostF_range (f t : Int) (l : List Sp) (r : List Int) : 0 ≤ mostF f t l r ∧ mostF f t l r ≤ 64 * l.length := by
  have key : ∀ n, n ≤ r.length → 0 ≤ mostF f t l (r.take n) ∧ mostF f t l (r.take n) ≤ 64 * l.length := by
    intro n
    induction n with
    | zero =>
      intro _
      unfold mostF
      rw [List.take_zero, List.foldl_nil]
      have := usedF_range l f
      split <;> omega
    | succ n ih =>
      intro hn
      have hi := ih (by omega)
      have := usedF_range l r[n]
      rw [take_snoc (List.getElem?_eq_getElem (show n < r.length by omega)), mostF_snoc]
      split <;> omega
  have := key r.length (Nat.le_refl _)
  rwa [List.take_of_length_le (Nat.le_refl _)] at this

set_option maxRecDepth 100000 in
set_option maxHeartbeats 2000000 in
theorem peaks_yes (f t : Int) (v : Value) (l : List Sp) (w : World) (h : RowAt enc3 3 w v l) (hft : f < t) :
    Calls Try.prog 4 #[.int .i64 f, .int .i64 t, v] w fun e w' => e = .returned (.bool true) ∧ Below w.heap.size w w' := by
  have hfew := few_any v l w h
  have hlen : (l.take 30).length ≤ 30 := by rw [List.length_take]; omega
  obtain ⟨m, hm⟩ : ∃ m, m = l.take 30 := ⟨_, rfl⟩
  rw [← hm] at hfew hlen
  clear hm h
  go_enter Try.func4, Try.ntmps4
  go_wp2_with (first | (go_at_call 7; go_must (refine hfew.mono ?_); rintro e w' ⟨v', rfl, h, rfl⟩) | (go_at_call 13; go_must (refine (at_any f v' m _ h hlen).mono ?_); rintro e w1 ⟨rfl, hb1⟩; have h1 := h.below hb1) | (go_at_call 11; go_must (refine (times_any v' m _ h1 hlen).mono ?_); rintro e w2 ⟨vx, r, rfl, hT, hx, hb2⟩; obtain ⟨ax, capx, rfl, hax⟩ := own_shape hx))
  have h2 := h1.below hb2
  have hxl := own_len hx
  have hbw : Below w.heap.size w w2 := hb1.trans (hb2.mono hb1.size)
  have hstart : Hid (mostF f t m [] = usedF m f) := if_pos hft
  replace hT := Lib.hid hT
  clear h h1 hb1 hb2 hfew
  go_loopw [7, 9] (fun mo i wr => ∃ (k : Nat), k ≤ r.length ∧ i = .int .i64 k ∧ mo = .int .i64 (mostF f t m (r.take k)) ∧ Below w2.heap.size w2 wr) (fun _ i _ => r.length - (intOf i).toNat)
  case atStart => exact ⟨0, Nat.zero_le _, rfl, by rw [List.take_zero, hstart.out], Below.refl _ _⟩
  case round =>
    obtain ⟨k, hk, rfl, rfl, hb⟩ := hrel
    by_cases hlt : k < r.length
    · obtain ⟨gx, rfl⟩ := hax (by omega)
      obtain ⟨x, hxk⟩ : ∃ x, r[k]? = some x := ⟨_, List.getElem?_eq_getElem hlt⟩
      have hcell := int_of (own_kept hx hb) hxk
      have hn : mostF f t m (r.take (k + 1)) = if f < x ∧ x < t ∧ mostF f t m (r.take k) < usedF m x then usedF m x else mostF f t m (r.take k) := by rw [take_snoc hxk, mostF_snoc]
      have hx1 : (k : Int) < (r.length : Int) := by omega
      have hgx := (hx.lt gx rfl).2
      have hsz := hb.size
      have hgr : gx < wr.heap.size := by omega
      have hr2 := h2.below hb
      have hat := fun W (hW : RowAt enc3 3 W v' m) => at_any x v' m W hW hlen
      obtain ⟨u, hu⟩ : ∃ u, u = usedF m x := ⟨_, rfl⟩
      obtain ⟨M, hM⟩ : ∃ M, M = mostF f t m (r.take k) := ⟨_, rfl⟩
      rw [← hu, ← hM] at hn
      rw [← hu] at hat
      rw [← hM]
      replace hxk := Lib.hid hxk
      clear hu hM
      by_cases h1 : f < x
      · by_cases h2 : x < t
        · by_cases h3 : M < u
          · have HN : Hid (mostF f t m (r.take (k + 1)) = u) := by show _ = _; rw [hn, if_pos ⟨h1, h2, h3⟩]
            clear hn
            go_wp2_with fail
            refine (hat _ hr2).mono ?_
            rintro e w3 ⟨rfl, hb3⟩
            have hr3 := hr2.below hb3
            have hcell3 := (hb3.cell (p := ⟨gx, _, none⟩) hgr).trans hcell
            clear hcell
            go_wp2_with fail
            refine (hat _ hr3).mono ?_
            rintro e w4 ⟨rfl, hb4⟩
            have hbd : Below w2.heap.size w2 w4 := (hb.trans (hb3.mono hsz)).trans (hb4.mono (Nat.le_trans hsz hb3.size))
            go_wp2_with fail
            go_roundw
            case rel => exact ⟨k + 1, by omega, by go_num, by rw [HN.out], hbd⟩
            case measure => simp [intOf]; omega
          · have h3' : u ≤ M := by omega
            have HN : Hid (mostF f t m (r.take (k + 1)) = M) := by show _ = _; rw [hn, if_neg (by omega)]
            clear hn
            go_wp2_with fail
            refine (hat _ hr2).mono ?_
            rintro e w3 ⟨rfl, hb3⟩
            have hbd : Below w2.heap.size w2 w3 := hb.trans (hb3.mono hsz)
            go_wp2_with fail
            go_roundw
            case rel => exact ⟨k + 1, by omega, by go_num, by rw [HN.out], hbd⟩
            case measure => simp [intOf]; omega
        · have h2' : t ≤ x := by omega
          have HN : Hid (mostF f t m (r.take (k + 1)) = M) := by show _ = _; rw [hn, if_neg (by omega)]
          clear hn
          go_wp2_with fail
          go_roundw
          case rel => exact ⟨k + 1, by omega, by go_num, by rw [HN.out], hb⟩
          case measure => simp [intOf]; omega
      · have h1' : x ≤ f := by omega
        have HN : Hid (mostF f t m (r.take (k + 1)) = M) := by show _ = _; rw [hn, if_neg (by omega)]
        clear hn
        go_wp2_with fail
        go_roundw
        case rel => exact ⟨k + 1, by omega, by go_num, by rw [HN.out], hb⟩
        case measure => simp [intOf]; omega
    · obtain rfl : k = r.length := by omega
      rw [List.take_of_length_le (Nat.le_refl _)]
      have hpk := Peak_any f t v' m r wr (h2.below hb) hlen hT.out
      obtain ⟨M, hM⟩ : ∃ M, M = mostF f t m r := ⟨_, rfl⟩
      rw [← hM] at hpk ⊢
      clear hM
      go_wp2_with (first | (go_at_call 16; go_must (refine hpk.mono ?_); rintro e w3 ⟨rfl, hb3⟩) | (go_at_call 15; go_must (refine (awake_any _).mono ?_); rintro e w4 ⟨rfl, hb4⟩))
      go_ret
      exact ⟨rfl, ((hbw.trans (hb.mono hbw.size)).trans (hb3.mono (Nat.le_trans hbw.size hb.size))).trans (hb4.mono (Nat.le_trans hbw.size (Nat.le_trans hb.size hb3.size)))⟩

set_option maxRecDepth 100000 in
set_option maxHeartbeats 1000000 in
theorem peaks_no (f t : Int) (v : Value) (l : List Sp) (w : World) (h : RowAt enc3 3 w v l) (hft : t ≤ f) :
    Calls Try.prog 4 #[.int .i64 f, .int .i64 t, v] w fun e w' => e = .returned (.bool true) ∧ Below w.heap.size w w' := by
  have hfew := few_any v l w h
  have hlen : (l.take 30).length ≤ 30 := by rw [List.length_take]; omega
  obtain ⟨m, hm⟩ : ∃ m, m = l.take 30 := ⟨_, rfl⟩
  rw [← hm] at hfew hlen
  have hT := compact_sort m
  have hpk := fun v' W hW => Peak_any f t v' m _ W hW hlen hT
  rw [mostF_no m _ hft] at hpk
  clear hm h hT
  go_enter Try.func4, Try.ntmps4
  go_wp2_with (first | (go_at_call 7; go_must (refine hfew.mono ?_); rintro e w' ⟨v', rfl, h, rfl⟩) | (go_at_call 16; go_must (refine (hpk v' _ h).mono ?_); rintro e w3 ⟨rfl, hb3⟩) | (go_at_call 15; go_must (refine (awake_any _).mono ?_); rintro e w4 ⟨rfl, hb4⟩))
  go_ret
  exact ⟨rfl, hb3.trans (hb4.mono hb3.size)⟩

theorem peaks_walk (f t : Int) (v : Value) (l : List Sp) (w : World) (h : RowAt enc3 3 w v l) :
    Calls Try.prog 4 #[.int .i64 f, .int .i64 t, v] w fun e w' => e = .returned (.bool true) ∧ Below w.heap.size w w' := by
  rcases Int.lt_or_le f t with h1 | h1
  · exact peaks_yes f t v l w h h1
  · exact peaks_no f t v l w h h1

theorem peaks_law (f t : Int) (v : Value) (l : List Sp) (w : World) (_ : -9223372036854775808 ≤ f ∧ f ≤ 9223372036854775807) (_ : -9223372036854775808 ≤ t ∧ t ≤ 9223372036854775807) (h : RowAt enc3 3 w v l) (_ : ∀ s ∈ l, s.fits) :
    Calls Try.prog 4 #[.int .i64 f, .int .i64 t, v] w fun e w' => e = .returned (.bool true) ∧ Below w.heap.size w w' := peaks_walk f t v l w h

end Go.Proofs.Ytnajcgicbhohhaa
