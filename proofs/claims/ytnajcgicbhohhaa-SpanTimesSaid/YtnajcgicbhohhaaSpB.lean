/-
  Own walks: how many nodes spans have at a time.
-/
import Derived.Test.YtnajcgicbhohhaaSpA
namespace Go.Proofs.Ytnajcgicbhohhaa
open Go.RowKit

/-- How many nodes a span has at a time. -/
def hadF (t : Int) (s : Sp) : Int := if rightB s = true ∧ s.a ≤ t ∧ t < s.b then s.n else 0
/-- How many nodes spans have at a time. -/
def usedF (l : List Sp) (t : Int) : Int := (l.map (hadF t)).sum

theorem hadF_range (t : Int) (s : Sp) : 0 ≤ hadF t s ∧ hadF t s ≤ 64 := by
  unfold hadF
  split
  · rename_i h; have := rightB_yes h.1; omega
  · omega
theorem usedF_snoc (l : List Sp) (s : Sp) (t : Int) : usedF (l ++ [s]) t = usedF l t + hadF t s := by simp [usedF]
theorem usedF_range (l : List Sp) (t : Int) : 0 ≤ usedF l t ∧ usedF l t ≤ 64 * l.length := by
  induction l with
  | nil => simp [usedF]
  | cons s l ih =>
    have := hadF_range t s
    have e : usedF (s :: l) t = hadF t s + usedF l t := by simp [usedF]
    rw [e, List.length_cons]
    omega
theorem take_snoc {α : Type} {l : List α} {k : Nat} {s : α} (h : l[k]? = some s) : l.take (k + 1) = l.take k ++ [s] := by
  obtain ⟨hk, rfl⟩ := List.getElem?_eq_some_iff.1 h
  rw [List.take_succ_eq_append_getElem hk]

/-- The three cells of a span in a slice. -/
theorem span_at {w : World} {l : List Sp} {b off k : Nat} {s : Sp} (hc : ∀ i s j u, l[i]? = some s → (enc3 s)[j]? = some u → w.cell? ⟨b, off + (i * 3 + j), none⟩ = some u) (hs : l[k]? = some s) :
    w.cell? ⟨b, off + k * 3, none⟩ = some (.int .i64 s.a) ∧ w.cell? ⟨b, off + k * 3 + 1, none⟩ = some (.int .i64 s.b) ∧ w.cell? ⟨b, off + k * 3 + 2, none⟩ = some (.int .i64 s.n) :=
  ⟨hc k s 0 _ hs rfl, hc k s 1 _ hs rfl, hc k s 2 _ hs rfl⟩

set_option maxHeartbeats 400000 in
theorem At_any (t : Int) (v : Value) (l : List Sp) (w : World) (h : RowAt enc3 3 w v l) (hlen : l.length ≤ 30) :
    Calls Try.prog 12 #[.int .i64 t, v] w fun e w' => e = .returned (.int .i64 (usedF l t)) ∧ Below w.heap.size w w' := by
  obtain ⟨ao, cap, rfl, hlc, hcm, hcells⟩ := h
  clear hcm
  go_enter Try.func12, Try.ntmps12
  go_wp2_with fail
  go_loopw [5, 10] (fun u i wr => ∃ (k : Nat), k ≤ l.length ∧ i = .int .i64 k ∧ u = .int .i64 (usedF (l.take k) t) ∧ Below w.heap.size w wr) (fun _ i _ => l.length - (intOf i).toNat)
  case atStart => exact ⟨0, Nat.zero_le _, rfl, rfl, Below.refl _ _⟩
  case round =>
    obtain ⟨k, hk, rfl, rfl, hb⟩ := hrel
    by_cases hlt : k < l.length
    · obtain ⟨b, off, rfl, hbw, hcell⟩ := hcells (by omega)
      obtain ⟨s, hs⟩ : ∃ s, l[k]? = some s := ⟨_, List.getElem?_eq_getElem hlt⟩
      obtain ⟨c0, c1, c2⟩ := span_at hcell hs
      rw [← hb.cell (p := ⟨b, _, none⟩) hbw] at c0 c1 c2
      have hsz := hb.size
      clear hcell hcells
      have hn : usedF (l.take (k + 1)) t = usedF (l.take k) t + hadF t s := by rw [take_snoc hs, usedF_snoc]
      have hu := usedF_range (l.take k) t
      have hkl : (l.take k).length ≤ 30 := by rw [List.length_take]; omega
      have hbd : Below w.heap.size w ((wr.alloc (.cells #[.int .i64 s.a, .int .i64 s.b, .int .i64 s.n] 26)).alloc (.cells #[.int .i64 s.a, .int .i64 s.b, .int .i64 s.n] 26)) := (hb.alloc hb.size _).alloc (Nat.le_trans hb.size (by simp)) _
      by_cases hin : rightB s = true ∧ s.a ≤ t ∧ t < s.b
      · have hh : hadF t s = s.n := if_pos hin
        obtain ⟨hr, h1, h2⟩ := hin
        have hnr := rightB_yes hr
        obtain ⟨_, _, _, hn1, hn2⟩ := hnr
        have HN : Hid (usedF (l.take (k + 1)) t = usedF (l.take k) t + s.n) := by show _ = _; rw [hn, hh]
        clear hn hh
        go_wp2_with (go_at_call 8; go_must (refine (Right_any s _).mono ?_); rintro e w' ⟨rfl, rfl⟩; rw [hr])
        go_roundw
        case rel => exact ⟨k + 1, by omega, by go_num, by rw [HN.out], hbd⟩
        case measure => simp [intOf]; omega
      · have hh : hadF t s = 0 := if_neg hin
        have HN : Hid (usedF (l.take (k + 1)) t = usedF (l.take k) t) := by show _ = _; rw [hn, hh]; omega
        clear hn hh
        by_cases hr : rightB s = true
        · by_cases h1 : s.a ≤ t
          · have h2 : s.b ≤ t := by
              rcases Int.lt_or_le t s.b with h | h
              · exact (hin ⟨hr, h1, h⟩).elim
              · exact h
            clear hin
            go_wp2_with (go_at_call 8; go_must (refine (Right_any s _).mono ?_); rintro e w' ⟨rfl, rfl⟩; rw [hr])
            go_roundw
            case rel => exact ⟨k + 1, by omega, by go_num, by rw [HN.out], hbd⟩
            case measure => simp [intOf]; omega
          · have h1' : t < s.a := by omega
            clear hin
            go_wp2_with (go_at_call 8; go_must (refine (Right_any s _).mono ?_); rintro e w' ⟨rfl, rfl⟩; rw [hr])
            go_roundw
            case rel => exact ⟨k + 1, by omega, by go_num, by rw [HN.out], hbd⟩
            case measure => simp [intOf]; omega
        · have hr' : rightB s = false := by simpa using hr
          clear hin hr
          go_wp2_with (go_at_call 8; go_must (refine (Right_any s _).mono ?_); rintro e w' ⟨rfl, rfl⟩; rw [hr'])
          go_roundw
          case rel => exact ⟨k + 1, by omega, by go_num, by rw [HN.out], hbd⟩
          case measure => simp [intOf]; omega
    · obtain rfl : k = l.length := by omega
      rw [List.take_of_length_le (Nat.le_refl _)]
      go_wp2_with fail
      go_ret
      exact ⟨rfl, hb⟩

end Go.Proofs.Ytnajcgicbhohhaa
