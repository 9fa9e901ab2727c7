/-
  The statement on sums of any numbers, and the least of them: its walk.
-/
import Derived.Test.YtijghjofchkdoaaSatC
namespace Go.Proofs.Ytijghjofchkdoaa
open Go.RowKit

theorem fold_ge (l : List Int) : ∀ s : Int, 0 ≤ s → s ≤ 1152921504606846976 → s ≤ l.foldl (fun s v => hd (s + hd v)) s ∧ ∀ z ∈ l, hd z ≤ l.foldl (fun s v => hd (s + hd v)) s := by
  induction l with
  | nil => intro s _ _; exact ⟨Int.le_refl _, fun z hz => by cases hz⟩
  | cons v l ih =>
    intro s h0 h1
    have hv := hd_range v
    have hr := hd_range (s + hd v)
    obtain ⟨h2, h3⟩ := ih (hd (s + hd v)) hr.1 hr.2
    have hs : s ≤ hd (s + hd v) := by unfold hd at hv hr ⊢; omega
    have hw : hd v ≤ hd (s + hd v) := by unfold hd at hv hr ⊢; omega
    refine ⟨Int.le_trans hs h2, fun z hz => ?_⟩
    rcases List.mem_cons.1 hz with rfl | hz
    · exact Int.le_trans hw h2
    · exact h3 z hz
theorem sumF_get {l : List Int} (k : Nat) (hk : k < l.length) : hd (l.getD k 0) ≤ sumF l := by
  rw [getD_of hk]
  exact (fold_ge l 0 (by decide) (by decide)).2 _ (List.getElem_mem _)

set_option maxHeartbeats 2000000 in
theorem sums_mid (v : Value) (zs : List Int) (w : World) (h : IntsAt w v zs) (h50 : zs.length ≤ 50) :
    Calls Try.prog 3 #[v] w fun e w' => e = .returned (.bool true) ∧ Below w.heap.size w w' := by
  have hat := h
  have hget := h.get
  obtain ⟨⟨ao, cap, rfl, hlc, hcm, hcells⟩, hfit⟩ := h
  have hcM : cap ≤ 9223372036854775807 := by unfold maxLen at hcm; omega
  clear hfit hcm
  go_enter Try.func3, Try.ntmps3
  go_wp2_with fail
  go_loopw [3, 4, 5] (fun s l i wr => ∃ (k : Nat), k ≤ zs.length ∧ i = .int .i64 k ∧ s = .int .i64 (sumF (zs.take k)) ∧ l = .int .i64 (leastF (zs.take k)) ∧ w = wr) (fun _ _ i _ => zs.length - (intOf i).toNat)
  case atStart => exact ⟨0, Nat.zero_le _, rfl, rfl, rfl, rfl⟩
  case round =>
    obtain ⟨k, hk, rfl, rfl, rfl, rfl⟩ := hrel
    by_cases hlt : k < zs.length
    · obtain ⟨b, off, rfl, hbw, hcell⟩ := hcells (by rintro rfl; simp at hlt)
      obtain ⟨z, hz⟩ : ∃ z, z = zs.getD k 0 := ⟨_, rfl⟩
      have hcw : w.cell? ⟨b, off + k, none⟩ = some (.int .i64 z) := by rw [hz]; exact hcell k (by omega)
      have hzb : -9223372036854775808 ≤ z ∧ z ≤ 9223372036854775807 := by rw [hz]; exact hget k (by omega)
      have hs := sumF_range (zs.take k)
      have hh := hd_range z
      have hn : Hid (hd (sumF (zs.take k) + hd z) = sumF (zs.take (k + 1))) := by show _ = _; rw [take_more (by omega), sumF_snoc, hz]
      have hm : Hid (leastF (zs.take (k + 1)) = min (leastF (zs.take k)) z) := by show _ = _; rw [take_more (by omega), leastF_snoc, hz]
      clear hz hcell hcells
      by_cases hless : z < leastF (zs.take k)
      · have hq : Hid (leastF (zs.take (k + 1)) = z) := by show _ = _; rw [hm.out]; omega
        go_wp2_with (go_at_call 7; go_must (refine (hold_any _ _ (by omega)).mono ?_); rintro e w' ⟨rfl, rfl⟩)
        go_roundw
        case rel => exact ⟨k + 1, by omega, by go_num, congrArg (Value.int .i64) hn.out, congrArg (Value.int .i64) hq.out.symm, trivial⟩
        case measure => simp [intOf]; omega
      · have hq : Hid (leastF (zs.take (k + 1)) = leastF (zs.take k)) := by show _ = _; rw [hm.out]; omega
        go_wp2_with (go_at_call 7; go_must (refine (hold_any _ _ (by omega)).mono ?_); rintro e w' ⟨rfl, rfl⟩)
        go_roundw
        case rel => exact ⟨k + 1, by omega, by go_num, congrArg (Value.int .i64) hn.out, congrArg (Value.int .i64) hq.out.symm, trivial⟩
        case measure => simp [intOf]; omega
    · obtain rfl : k = zs.length := by omega
      have htk : zs.take zs.length = zs := List.take_of_length_le (by omega)
      rw [htk]
      have hsr := sumF_range zs
      go_wp2_with (go_at_call 8; go_must (refine (Add_any _ zs _ hat).mono ?_); rintro e w' ⟨rfl, rfl⟩)
      go_loopw [7] (fun i wr => ∃ (k : Nat), k ≤ zs.length ∧ i = .int .i64 k ∧ w = wr) (fun i _ => zs.length - (intOf i).toNat)
      case atStart => exact ⟨0, Nat.zero_le _, rfl, rfl⟩
      case round =>
        obtain ⟨k, hk, rfl, rfl⟩ := hrel
        by_cases hlt : k < zs.length
        · obtain ⟨b, off, rfl, hbw, hcell⟩ := hcells (by rintro rfl; simp at hlt)
          obtain ⟨z, hz⟩ : ∃ z, z = zs.getD k 0 := ⟨_, rfl⟩
          have hcw : w.cell? ⟨b, off + k, none⟩ = some (.int .i64 z) := by rw [hz]; exact hcell k (by omega)
          have hzb : -9223372036854775808 ≤ z ∧ z ≤ 9223372036854775807 := by rw [hz]; exact hget k (by omega)
          have hge : hd z ≤ sumF zs := by rw [hz]; exact sumF_get k (by omega)
          clear hz hcell hcells
          go_wp2_with (go_at_call 7; go_must (refine (hold_any _ _ (by omega)).mono ?_); rintro e w' ⟨rfl, rfl⟩)
          go_roundw
          case rel => exact ⟨k + 1, by omega, by go_num, trivial⟩
          case measure => simp [intOf]; omega
        · obtain rfl : k = zs.length := by omega
          go_wp2_with (first | (go_at_call 9; go_must (refine (Least_any _ zs _ hat).mono ?_); rintro e w' ⟨rfl, rfl⟩) | (go_at_call 10; go_must (refine (awake_any _).mono ?_); rintro e w' ⟨rfl, hbl⟩))
          go_ret
          exact ⟨rfl, hbl⟩

set_option maxHeartbeats 2000000 in
theorem sums_big (v : Value) (zs : List Int) (w : World) (h : IntsAt w v zs) (h50 : 50 < zs.length) :
    Calls Try.prog 3 #[v] w fun e w' => e = .returned (.bool true) ∧ Below w.heap.size w w' := by
  obtain ⟨⟨ao, cap, rfl, hlc, hcm, hcells⟩, hfit⟩ := id h
  have hcM : cap ≤ 9223372036854775807 := by unfold maxLen at hcm; omega
  clear hfit hcm
  obtain ⟨b, off, rfl, hbw, _⟩ := hcells (by rintro rfl; simp at h50)
  have hat := h.cut (n := 50) (by omega)
  obtain ⟨ys, hys⟩ : ∃ ys, ys = zs.take 50 := ⟨_, rfl⟩
  have hl : ys.length = 50 := by rw [hys, List.length_take]; omega
  rw [← hys] at hat
  have hget := hat.get
  have hcell0 : ∀ i, i < ys.length → w.cell? ⟨b, off + i, none⟩ = some (.int .i64 (ys.getD i 0)) := by
    obtain ⟨⟨_, _, e, _, _, hcs⟩, _⟩ := hat
    injection e with e1 _ _
    obtain ⟨_, _, e2, _, hc⟩ := hcs (by rintro rfl; simp at hl)
    rw [← e1] at e2
    injection e2 with e2
    injection e2 with e3 e4 _
    subst e3 e4
    exact hc
  have h50' : decide ((50 : Int) < (zs.length : Int)) = true := by simp; omega
  clear hys hcells h
  go_enter Try.func3, Try.ntmps3
  go_wp2_with fail
  go_loopw [3, 4, 5] (fun s l i wr => ∃ (k : Nat), k ≤ 50 ∧ i = .int .i64 k ∧ s = .int .i64 (sumF (ys.take k)) ∧ l = .int .i64 (leastF (ys.take k)) ∧ w = wr) (fun _ _ i _ => 50 - (intOf i).toNat)
  case atStart => exact ⟨0, Nat.zero_le _, rfl, rfl, rfl, rfl⟩
  case round =>
    obtain ⟨k, hk, rfl, rfl, rfl, rfl⟩ := hrel
    by_cases hlt : k < 50
    · have hcell := hcell0
      obtain ⟨z, hz⟩ : ∃ z, z = ys.getD k 0 := ⟨_, rfl⟩
      have hcw : w.cell? ⟨b, off + k, none⟩ = some (.int .i64 z) := by rw [hz]; exact hcell k (by omega)
      have hzb : -9223372036854775808 ≤ z ∧ z ≤ 9223372036854775807 := by rw [hz]; exact hget k (by omega)
      have hs := sumF_range (ys.take k)
      have hh := hd_range z
      have hn : Hid (hd (sumF (ys.take k) + hd z) = sumF (ys.take (k + 1))) := by show _ = _; rw [take_more (by omega), sumF_snoc, hz]
      have hm : Hid (leastF (ys.take (k + 1)) = min (leastF (ys.take k)) z) := by show _ = _; rw [take_more (by omega), leastF_snoc, hz]
      clear hz hcell hcell0
      by_cases hless : z < leastF (ys.take k)
      · have hq : Hid (leastF (ys.take (k + 1)) = z) := by show _ = _; rw [hm.out]; omega
        go_wp2_with (go_at_call 7; go_must (refine (hold_any _ _ (by omega)).mono ?_); rintro e w' ⟨rfl, rfl⟩)
        go_roundw
        case rel => exact ⟨k + 1, by omega, by go_num, congrArg (Value.int .i64) hn.out, congrArg (Value.int .i64) hq.out.symm, trivial⟩
        case measure => simp [intOf]; omega
      · have hq : Hid (leastF (ys.take (k + 1)) = leastF (ys.take k)) := by show _ = _; rw [hm.out]; omega
        go_wp2_with (go_at_call 7; go_must (refine (hold_any _ _ (by omega)).mono ?_); rintro e w' ⟨rfl, rfl⟩)
        go_roundw
        case rel => exact ⟨k + 1, by omega, by go_num, congrArg (Value.int .i64) hn.out, congrArg (Value.int .i64) hq.out.symm, trivial⟩
        case measure => simp [intOf]; omega
    · obtain rfl : k = 50 := by omega
      have htk : ys.take 50 = ys := List.take_of_length_le (by omega)
      rw [htk]
      have hsr := sumF_range ys
      go_wp2_with (go_at_call 8; go_must (refine (Add_any _ ys _ hat).mono ?_); rintro e w' ⟨rfl, rfl⟩)
      go_loopw [7] (fun i wr => ∃ (k : Nat), k ≤ 50 ∧ i = .int .i64 k ∧ w = wr) (fun i _ => 50 - (intOf i).toNat)
      case atStart => exact ⟨0, Nat.zero_le _, rfl, rfl⟩
      case round =>
        obtain ⟨k, hk, rfl, rfl⟩ := hrel
        by_cases hlt : k < 50
        · have hcell := hcell0
          obtain ⟨z, hz⟩ : ∃ z, z = ys.getD k 0 := ⟨_, rfl⟩
          have hcw : w.cell? ⟨b, off + k, none⟩ = some (.int .i64 z) := by rw [hz]; exact hcell k (by omega)
          have hzb : -9223372036854775808 ≤ z ∧ z ≤ 9223372036854775807 := by rw [hz]; exact hget k (by omega)
          have hge : hd z ≤ sumF ys := by rw [hz]; exact sumF_get k (by omega)
          clear hz hcell hcell0
          go_wp2_with (go_at_call 7; go_must (refine (hold_any _ _ (by omega)).mono ?_); rintro e w' ⟨rfl, rfl⟩)
          go_roundw
          case rel => exact ⟨k + 1, by omega, by go_num, trivial⟩
          case measure => simp [intOf]; omega
        · obtain rfl : k = 50 := by omega
          go_wp2_with (first | (go_at_call 9; go_must (refine (Least_any _ ys _ hat).mono ?_); rintro e w' ⟨rfl, rfl⟩) | (go_at_call 10; go_must (refine (awake_any _).mono ?_); rintro e w' ⟨rfl, hbl⟩))
          go_ret
          exact ⟨rfl, hbl⟩

theorem sums_walk (zs : List Int) (v : Value) (w : World) (h : IntsAt w v zs) :
    Calls Try.prog 3 #[v] w fun e w' => e = .returned (.bool true) ∧ Below w.heap.size w w' := by
  by_cases h50 : zs.length ≤ 50
  · exact sums_mid v zs w h h50
  · exact sums_big v zs w h (by omega)

end Go.Proofs.Ytijghjofchkdoaa
