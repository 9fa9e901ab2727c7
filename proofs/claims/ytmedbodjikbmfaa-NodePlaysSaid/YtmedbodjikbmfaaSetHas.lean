/-
  The contract of package set's Has.
-/
import Derived.Test.YtmedbodjikbmfaaSetC
namespace Go.Proofs.Ytmedbodjikbmfaa
open Go.RowKit

theorem and_bitN {u : Nat} {n : Int} : (u &&& bitN n = 0) ↔ hasF u n = false := by
  constructor
  · intro h
    by_cases hn : 0 ≤ n ∧ n ≤ 63
    · obtain ⟨m, rfl⟩ := Int.eq_ofNat_of_zero_le hn.1
      have := congrArg (fun x => x.testBit m) h
      simp only [Nat.testBit_and, Nat.zero_testBit] at this
      unfold bitN at this
      rw [ofN_testBit] at this
      rw [hasF_nat (by omega)]
      simpa [show m < 64 by omega] using this
    · unfold hasF
      by_cases h0 : 0 ≤ n
      · have : ¬ n ≤ 63 := by omega
        simp [this]
      · simp [h0]
  · intro h
    apply Nat.eq_of_testBit_eq
    intro i
    rw [Nat.testBit_and, Nat.zero_testBit]
    unfold bitN
    rw [ofN_testBit]
    by_cases hi : i < 64 ∧ (i : Int) = n
    · obtain ⟨hi, rfl⟩ := hi
      rw [hasF_nat hi] at h
      rw [h]; rfl
    · have : (decide (i < 64) && decide ((i : Int) = n)) = false := by simp; omega
      rw [this, Bool.and_false]

set_option maxHeartbeats 400000 in
theorem has_fn (u : Nat) (hu : u < 18446744073709551616) (n : Int) (w : World) (hn : -9223372036854775808 ≤ n ∧ n ≤ 9223372036854775807) :
    Calls Try.prog 34 #[.int .u64 u, .int .i64 n] w fun e w' => e = .returned (.bool (hasF u n)) ∧ w = w' := by
  have hb := fun w => bit_any n w hn
  have hand := bits_and_u64_nat u (bitN n) hu (bitN_lt n)
  have hi := and_bitN (u := u) (n := n)
  generalize bitN n = b at *
  generalize u &&& b = y at *
  clear hu hn
  cases h : hasF u n with
  | true =>
    have hy : ((y : Int) != 0) = true := by
      rw [h] at hi
      simp
      intro e
      exact absurd (hi.1 (by omega)) (by decide)
    clear h hi
    go_enter Try.func34, Try.ntmps34
    go_wp2_with (go_at_call 37; go_must (refine (hb _).mono ?_); rintro e w' ⟨rfl, rfl⟩)
    go_ret
    exact ⟨rfl, rfl⟩
  | false =>
    have hy : ((y : Int) != 0) = false := by
      have := hi.2 h
      simp
      omega
    clear h hi
    go_enter Try.func34, Try.ntmps34
    go_wp2_with (go_at_call 37; go_must (refine (hb _).mono ?_); rintro e w' ⟨rfl, rfl⟩)
    go_ret
    exact ⟨rfl, rfl⟩

end Go.Proofs.Ytmedbodjikbmfaa
