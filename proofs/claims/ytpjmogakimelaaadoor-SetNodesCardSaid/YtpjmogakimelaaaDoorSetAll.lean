/-
  Own walk: all nodes of a set as a list of truths.
-/
import Derived.Test.YtpjmogakimelaaaDoorSetR
namespace Go.Proofs.YtpjmogakimelaaaDoor
open Go.RowKit

set_option maxHeartbeats 400000 in
set_option maxRecDepth 100000 in
theorem all_any (u : Nat) (hu : u < 18446744073709551616) (base : Nat) (w : World) (hbase : base ≤ w.heap.size) :
    Calls Tryd.prog 4 #[.int .u64 u] w fun e w' => ∃ v', e = .returned v' ∧ Own64 w' base v' u.testBit ∧ Below base w w' := by
  obtain ⟨i0, hi, hz0, hz1, hz2⟩ := info_of (α := Nat) infoT
  go_enter Tryd.func4, Tryd.ntmps4
  go_wp2_with fail
  go_loopw [3, 4] (fun v i wr => ∃ (k : Nat), k ≤ 64 ∧ i = .int .i64 k ∧ wr.ownsRow base 4 1 v k (tv u.testBit k) ∧ base ≤ wr.heap.size ∧ Below base w wr) (fun _ i _ => 64 - (intOf i).toNat)
  case atStart => exact ⟨0, Nat.zero_le _, rfl, World.ownsRow_nil _ _ _ _, hbase, Below.refl _ _⟩
  case round =>
    obtain ⟨k, hk, rfl, hown, hwb, hbel⟩ := hrel
    by_cases hlt : k < 64
    · have hf := hasF_nat (u := u) hlt
      go_wp2_with (first | (go_at_call 5; go_must (refine (has_any u hu _ _ (by omega)).mono ?_); rintro e w' ⟨rfl, rfl⟩; rw [hf]) | (at_builtin; go_must (refine wpList_append_own _ rfl (.tmp 9) (.tmp 13) 24 rfl base 4 i0 (.bool false) 1 1 Tryd.underlying24 hi hz0 hz1 hz2 rfl (by decide) u3 k (tv u.testBit k) rfl (hown.alloc _) ⟨wr.heap.size, 0, none⟩ 1 1 [.bool (u.testBit k)] rfl rfl ?c0 ?c1 ?c2 ?c3 ?c4 ?c5)))
      case c0 => exact cell_one_new _ _ _
      case c1 => simp [Value.oneCell']
      case c2 => unfold maxLen; omega
      case c3 => omega
      case c4 => simp; omega
      case c5 =>
        intro v' w1 hown1 hg1 _
        rw [← tv_succ] at hown1
        have hb1 : Below base wr w1 := (((Below.refl _ _).alloc hwb _)).grown hg1 (by simp; omega) fun k hk => (hown.lt k hk).1
        have hs1 := hb1.size
        clear hg1 hown
        go_wp2
        go_roundw
        case rel => exact ⟨k + 1, by omega, by go_num, hown1, by omega, hbel.trans hb1⟩
        case measure => simp [intOf]; omega
    · obtain rfl : k = 64 := by omega
      go_wp2_with fail
      go_ret
      exact ⟨_, rfl, hown, hbel⟩

end Go.Proofs.YtpjmogakimelaaaDoor
