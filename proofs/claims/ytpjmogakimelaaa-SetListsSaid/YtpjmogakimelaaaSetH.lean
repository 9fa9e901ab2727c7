/-
  Own walks: what the statements' own helpers on sets come to.
-/
import Derived.Test.YtpjmogakimelaaaRows
import Derived.Test.YtpjmogakimelaaaOwn
import Derived.Test.YtpjmogakimelaaaBitF
import Derived.Deep.DeepMust
import Derived.Lib.Hide
namespace Go.Proofs.Ytpjmogakimelaaa
open Go.RowKit

set_option maxHeartbeats 400000 in
theorem has_any (u : Nat) (hu : u < 18446744073709551616) (n : Int) (w : World) (_hn : -9223372036854775808 ≤ n ∧ n ≤ 9223372036854775807) :
    Calls Try.prog 13 #[.int .u64 u, .int .i64 n] w fun e w' => e = .returned (.bool (hasF u n)) ∧ w = w' := by
  by_cases h0 : n < 0
  · go_enter Try.func13, Try.ntmps13
    go_wp2
    go_ret
    exact ⟨congrArg (fun n => Ending.returned (.bool n)) (by unfold hasF; simp [show ¬ 0 ≤ n by omega]), rfl⟩
  by_cases h1 : 63 < n
  · go_enter Try.func13, Try.ntmps13
    go_wp2
    go_ret
    exact ⟨congrArg (fun n => Ending.returned (.bool n)) (by unfold hasF; simp [show ¬ n ≤ 63 by omega]), rfl⟩
  obtain ⟨m, rfl⟩ := Int.eq_ofNat_of_zero_le (show 0 ≤ n by omega)
  have hm : m ≤ 63 := by omega
  go_enter Try.func13, Try.ntmps13
  go_wp2_with fail
  go_loopw [0, 5] (fun s i wr => ∃ (k x : Nat), k ≤ m ∧ i = .int .i64 k ∧ s = .int .u64 x ∧ x ≤ 18446744073709551615 ∧ Hid (x = u >>> k) ∧ w = wr) (fun _ i _ => m - (intOf i).toNat)
  case atStart => exact ⟨0, u, Nat.zero_le _, rfl, rfl, by omega, rfl, rfl⟩
  case round =>
    obtain ⟨k, x, hk, rfl, rfl, hx, hX, rfl⟩ := hrel
    by_cases hlt : k < m
    · go_wp2_with fail
      go_roundw
      case rel => exact ⟨k + 1, x / 2, by omega, by go_num, by go_num, by omega, by show x / 2 = u >>> (k + 1); rw [hX.out, Nat.shiftRight_succ], trivial⟩
      case measure => simp [intOf]; omega
    · obtain rfl : k = m := by omega
      have hb : hasF u (k : Int) = decide (x % 2 = 1) := by rw [hasF_nat (by omega), testBit_div, hX.out]
      go_wp2_with fail
      go_ret
      refine ⟨congrArg (fun n => Ending.returned (.bool n)) ?_, rfl⟩
      rw [hb, Bool.eq_iff_iff]
      simp
      omega

/-- Cells of 64 truths. -/
def Cells64 (w : World) (b off : Nat) (f : Nat → Bool) : Prop := ∀ i, i < 64 → w.cell? ⟨b, off + i, none⟩ = some (.bool (f i))

set_option maxHeartbeats 400000 in
theorem of_any (b off cap : Nat) (f : Nat → Bool) (w : World) (hc : Cells64 w b off f) :
    Calls Try.prog 8 #[.slice (some ⟨b, off, none⟩) 64 cap] w fun e w' => e = .returned (.int .u64 (ofN f)) ∧ w = w' := by
  go_enter Try.func8, Try.ntmps8
  go_wp2_with fail
  go_loopw [3, 4, 5] (fun s t i wr => ∃ (k x y : Nat), k ≤ 64 ∧ i = .int .i64 k ∧ s = .int .u64 x ∧ t = .int .u64 y ∧ Hid (x = ofK f k) ∧ Hid (y = 2 ^ k % 2 ^ 64) ∧ w = wr) (fun _ _ i _ => 64 - (intOf i).toNat)
  case atStart => exact ⟨0, 0, 1, Nat.zero_le _, rfl, rfl, rfl, rfl, rfl, rfl⟩
  case round =>
    obtain ⟨k, x, y, hk, rfl, rfl, rfl, hx, hy, rfl⟩ := hrel
    by_cases hlt : k < 64
    · have hcw := hc k hlt
      have hxl := ofK_lt f k
      rw [← hx.out] at hxl
      have hyk : y = 2 ^ k := by rw [hy.out]; exact Nat.mod_eq_of_lt (Nat.pow_lt_pow_right (by decide) hlt)
      have hp : 2 ^ k ≤ 9223372036854775808 := show 2 ^ k ≤ 2 ^ 63 from Nat.pow_le_pow_right (by decide) (by omega)
      rw [← hyk] at hxl hp
      have hx1 : x + y ≤ 18446744073709551615 := by omega
      have hy1 : Hid (y * 2 % 18446744073709551616 = 2 ^ (k + 1) % 2 ^ 64) := by show _ = _; rw [hyk, Nat.pow_succ]
      have hy2 := Lib.hid hyk
      clear hyk
      cases hf : f k with
      | true =>
        have hn : Hid (x + y = ofK f (k + 1)) := by show _ = _; rw [ofK, hf, hx.out, hy2.out]; rfl
        rw [hf] at hcw
        clear hf hc
        go_wp2_with fail
        go_roundw
        case rel => exact ⟨k + 1, x + y, y * 2 % 18446744073709551616, by omega, by go_num, by go_num, by rw [IntKind.wrap_u64]; go_num, hn, hy1, trivial⟩
        case measure => simp [intOf]; omega
      | false =>
        have hn : Hid (x = ofK f (k + 1)) := by show _ = _; rw [ofK, hf, hx.out]; rfl
        rw [hf] at hcw
        clear hf hc
        go_wp2_with fail
        go_roundw
        case rel => exact ⟨k + 1, x, y * 2 % 18446744073709551616, by omega, by go_num, rfl, by rw [IntKind.wrap_u64]; go_num, hn, hy1, trivial⟩
        case measure => simp [intOf]; omega
    · obtain rfl : k = 64 := by omega
      go_wp2_with fail
      go_ret
      exact ⟨congrArg (fun n : Nat => Ending.returned (.int .u64 n)) hx.out, rfl⟩

end Go.Proofs.Ytpjmogakimelaaa
