/-
  Own walks: sums and the least of lists of numbers, and the chapter's example.
-/
import Derived.Test.YtnajcgicbhohhaaSatB
import Derived.Test.YtnajcgicbhohhaaInts
namespace Go.Proofs.Ytnajcgicbhohhaa
open Go.RowKit

/-- The sum of numbers, held each time. -/
def sumF (l : List Int) : Int := l.foldl (fun s v => hd (s + hd v)) 0
/-- The least of numbers, the greatest at most. -/
def leastF (l : List Int) : Int := l.foldl min 1152921504606846976

theorem sumF_snoc (l : List Int) (z : Int) : sumF (l ++ [z]) = hd (sumF l + hd z) := by unfold sumF; rw [List.foldl_append]; rfl
theorem leastF_snoc (l : List Int) (z : Int) : leastF (l ++ [z]) = min (leastF l) z := by unfold leastF; rw [List.foldl_append]; rfl
theorem sumF_range (l : List Int) : 0 ≤ sumF l ∧ sumF l ≤ 1152921504606846976 := by
  rcases List.eq_nil_or_concat l with rfl | ⟨m, z, rfl⟩
  · decide
  · rw [List.concat_eq_append, sumF_snoc]; exact hd_range _

set_option maxHeartbeats 400000 in
theorem Add_any (v : Value) (zs : List Int) (w : World) (h : IntsAt w v zs) :
    Calls Try.prog 23 #[v] w fun e w' => e = .returned (.int .i64 (sumF zs)) ∧ w = w' := by
  obtain ⟨⟨ao, cap, rfl, hlc, hcm, hcells⟩, hfit⟩ := h
  have hcM : cap ≤ 9223372036854775807 := by unfold maxLen at hcm; omega
  clear hfit hcm
  go_enter Try.func23, Try.ntmps23
  go_wp2_with fail
  go_loopw [3, 8] (fun s i wr => ∃ (k : Nat), k ≤ zs.length ∧ i = .int .i64 k ∧ s = .int .i64 (sumF (zs.take k)) ∧ wr = w) (fun _ i _ => zs.length - (intOf i).toNat)
  case atStart => exact ⟨0, Nat.zero_le _, rfl, rfl, rfl⟩
  case round =>
    obtain ⟨k, hk, rfl, rfl, rfl⟩ := hrel
    by_cases hlt : k < zs.length
    · obtain ⟨b, off, rfl, hbw, hcell⟩ := hcells (by rintro rfl; simp at hlt)
      obtain ⟨z, hz⟩ : ∃ z, z = zs.getD k 0 := ⟨_, rfl⟩
      have hcw : wr.cell? ⟨b, off + k, none⟩ = some (.int .i64 z) := by rw [hz]; exact hcell k hlt
      have hs := sumF_range (zs.take k)
      have hh := hd_range z
      have hn : Hid (hd (sumF (zs.take k) + hd z) = sumF (zs.take (k + 1))) := by show _ = _; rw [take_more hlt, sumF_snoc, hz]
      clear hz hcell hcells
      go_wp2_with (go_at_call 30; go_must (refine (saturate_any _ _).mono ?_); rintro e w' ⟨rfl, rfl⟩)
      go_roundw
      case rel => exact ⟨k + 1, by omega, by go_num, congrArg (Value.int .i64) hn.out, trivial⟩
      case measure => simp [intOf]; omega
    · obtain rfl : k = zs.length := by omega
      rw [List.take_of_length_le (Nat.le_refl _)]
      go_wp2_with fail
      go_ret
      exact ⟨rfl, rfl⟩

theorem pair_at (w : World) (x y : Int) (e : TypeId) (hx : -9223372036854775808 ≤ x ∧ x ≤ 9223372036854775807) (hy : -9223372036854775808 ≤ y ∧ y ≤ 9223372036854775807) :
    IntsAt (w.alloc (.cells #[.int .i64 x, .int .i64 y] e)) (.slice (some ⟨w.heap.size, 0, none⟩) 2 2) [x, y] := by
  refine ⟨⟨_, _, rfl, by simp, by decide, fun _ => ⟨w.heap.size, 0, rfl, by simp, fun i hi => ?_⟩⟩, fun z hz => ?_⟩
  · have hi : i = 0 ∨ i = 1 := by simp at hi; omega
    rcases hi with rfl | rfl <;> go_simp
  · simp at hz
    rcases hz with rfl | rfl
    · exact hx
    · exact hy

end Go.Proofs.Ytnajcgicbhohhaa
