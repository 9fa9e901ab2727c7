/-
  Own walks: package span's Peak, and Steps in the words of the law.
-/
import Derived.Test.YtnajcgicbhohhaaStM
namespace Go.Proofs.Ytnajcgicbhohhaa
open Go.RowKit Go.Lib

theorem compF_sub {L : List (Int × Int)} {x : Int × Int} (h : x ∈ compF L) : x ∈ L := by
  unfold compF keptUpTo at h
  obtain ⟨i, hi, rfl⟩ := List.mem_map.1 h
  have hi' : i < L.length := by simpa using List.mem_range.1 (List.mem_filter.1 hi).1
  simp [hi']
theorem stepsR_free {all f : Int} {l : List Sp} {r : List Int} {x : Int × Int} (h : x ∈ stepsR all f l r) : x.2 = all - usedF l x.1 := by
  unfold stepsR at h
  obtain ⟨t, _, rfl⟩ := List.mem_map.1 h
  rfl
/-- The steps that come of it. -/
def outF (all f : Int) (l : List Sp) (r : List Int) : List (Int × Int) := compF (stepsR all f l r)
theorem outF_free {all f : Int} {l : List Sp} {r : List Int} {x : Int × Int} (h : x ∈ outF all f l r) : x.2 = all - usedF l x.1 := stepsR_free (compF_sub h)
theorem outF_pos (all f : Int) (l : List Sp) (r : List Int) : 0 < (outF all f l r).length := by
  obtain ⟨h1, h2, _⟩ := keptK_at (stepsR all f l r) 0 (f, all - usedF l f) rfl
  exact Nat.lt_of_lt_of_le h1 h2

theorem StepsR_any (all f : Int) (v : Value) (l : List Sp) (r : List Int) (w : World) (h : RowAt enc3 3 w v l) (hlen : l.length ≤ 30) (hall : -1048576 ≤ all ∧ all ≤ 1048576) (hr : IsT l r) :
    Calls Try.prog 18 #[.int .i64 all, .int .i64 f, v] w fun e w' => ∃ g cap, e = .returned (.slice (some ⟨g, 0, none⟩) (outF all f l r).length cap) ∧ w'.ownsRow w.heap.size 41 2 (.slice (some ⟨g, 0, none⟩) (outF all f l r).length cap) (outF all f l r).length (prV (outF all f l r)) ∧ Below w.heap.size w w' :=
  (Steps_any all f v l w h hlen hall).mono fun e w' ⟨v', cs, he, hp, hs, hown, hb⟩ => by
    rw [rawF_eq hp hs hr] at hown
    obtain ⟨g, cap, rfl, _⟩ := own_slice hown (outF_pos all f l r)
    exact ⟨g, cap, he, hown, hb⟩

set_option maxRecDepth 100000 in
set_option maxHeartbeats 1000000 in
theorem Peak_any (f t : Int) (v : Value) (l : List Sp) (r : List Int) (w : World) (h : RowAt enc3 3 w v l) (hlen : l.length ≤ 30) (hr : IsT l r) :
    Calls Try.prog 16 #[.int .i64 f, .int .i64 t, v] w fun e w' => e = .returned (.int .i64 (mostF f t l r)) ∧ Below w.heap.size w w' := by
  have hst := StepsR_any 0 f v l r w h hlen (by omega) hr
  have hpk : Hid (peakF t (outF 0 f l r) = mostF f t l r) := by show _ = _; rw [mostF_peak, outF, peakF_comp _ _ (stepsR_asc hr.1)]
  have hfree : ∀ x ∈ outF 0 f l r, -1920 ≤ x.2 ∧ x.2 ≤ 0 := by
    intro x hx
    have h1 := outF_free hx
    have h2 := usedF_range l x.1
    omega
  obtain ⟨D, hD⟩ : ∃ D, D = outF 0 f l r := ⟨_, rfl⟩
  rw [← hD] at hst hpk hfree
  clear hD h hr
  go_enter Try.func16, Try.ntmps16
  go_wp2_with (go_at_call 18; go_must (refine hst.mono ?_); rintro e w2 ⟨g, cap, rfl, hown, hb2⟩; have hDl := own_len hown)
  go_loopw [7, 14] (fun p i wr => ∃ (k : Nat), k ≤ D.length ∧ i = .int .i64 k ∧ p = .int .i64 (peakF t (D.take k)) ∧ Below w2.heap.size w2 wr) (fun _ i _ => D.length - (intOf i).toNat)
  case atStart => exact ⟨0, Nat.zero_le _, rfl, rfl, Below.refl _ _⟩
  case round =>
    obtain ⟨k, hk, rfl, rfl, hb⟩ := hrel
    have hbb : Below w.heap.size w wr := hb2.trans (hb.mono hb2.size)
    by_cases hlt : k < D.length
    · obtain ⟨x, hx⟩ : ∃ x, D[k]? = some x := ⟨_, List.getElem?_eq_getElem hlt⟩
      have hfx := hfree x (List.mem_of_getElem? hx)
      obtain ⟨a0, a1⟩ := pair_of (own_kept hown hb) hx
      have hsz := hb.size
      have hn : peakF t (D.take (k + 1)) = if x.1 < t then max (peakF t (D.take k)) (-x.2) else peakF t (D.take k) := by rw [take_snoc hx, peakF_snoc]
      have hx1 : (k : Int) < (D.length : Int) := by omega
      replace hx := Lib.hid hx
      have hbd : Below w2.heap.size w2 (wr.alloc (.cells #[.int .i64 x.1, .int .i64 x.2] 41)) := hb.alloc hb.size _
      clear hfree
      by_cases h1 : x.1 < t
      · have HN : Hid (peakF t (D.take (k + 1)) = max (peakF t (D.take k)) (-x.2)) := by show _ = _; rw [hn, if_pos h1]
        clear hn
        go_wp2_with fail
        go_roundw
        case rel => exact ⟨k + 1, by omega, by go_num, by rw [HN.out], hbd⟩
        case measure => simp [intOf]; omega
      · have h1' : t ≤ x.1 := by omega
        have HN : Hid (peakF t (D.take (k + 1)) = peakF t (D.take k)) := by show _ = _; rw [hn, if_neg h1]
        clear hn
        go_wp2_with fail
        go_roundw
        case rel => exact ⟨k + 1, by omega, by go_num, by rw [HN.out], hbd⟩
        case measure => simp [intOf]; omega
    · obtain rfl : k = D.length := by omega
      rw [List.take_of_length_le (Nat.le_refl _), hpk.out]
      go_wp2_with fail
      go_ret
      exact ⟨rfl, hbb⟩

end Go.Proofs.Ytnajcgicbhohhaa
