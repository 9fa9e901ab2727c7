/-
  Contracts of package set's functions that the statement on nodes calls besides: Has, Without, Low, High.
-/
import Derived.Test.YtpjmogakimelaaaDoorSetE
import Derived.Test.YtpjmogakimelaaaDoorHiLo
namespace Go.Proofs.YtpjmogakimelaaaDoor
open Go.RowKit

/-- The table of math/bits.TrailingZeros64 lies in the world as its text lays it. -/
def TabAt (w : World) : Prop := ∀ i, i < 64 → w.cell? ⟨0, i, none⟩ = some (.int .u8 (debT.getD i 0))

theorem neg_wrap {u : Nat} (hu : u < 18446744073709551616) (h0 : u ≠ 0) : IntKind.u64.wrap (-(u : Int)) = ((18446744073709551616 - u : Nat) : Int) := by rw [IntKind.wrap_u64]; omega
theorem mul_wrap (p : Nat) : IntKind.u64.wrap ((p : Int) * 285870213051353865) = ((p * 285870213051353865 % 18446744073709551616 : Nat) : Int) := by rw [IntKind.wrap_u64]; omega
/-- The steps of the search for the lowest bit, each under a name. -/
theorem deb_steps {u m : Nat} (hu : u < 18446744073709551616) (hb : u.testBit m = true) (hm : m < 64) (hlo : ∀ i, i < m → u.testBit i = false) : ∃ v p x k : Nat, IntKind.u64.wrap (-(u : Int)) = (v : Int) ∧ bits .and .u64 (u : Int) (v : Int) = (p : Int) ∧
    IntKind.u64.wrap ((p : Int) * 285870213051353865) = (x : Int) ∧ (x : Int) / 288230376151711744 = (k : Int) ∧ k < 64 ∧ debT.getD k 0 = (m : Int) := by
  have h0 : u ≠ 0 := by rintro rfl; simp at hb
  obtain ⟨d1, d2⟩ := deb_all ⟨m, hm⟩
  refine ⟨18446744073709551616 - u, 2 ^ m, 2 ^ m * 285870213051353865 % 18446744073709551616, 2 ^ m * 285870213051353865 % 18446744073709551616 / 288230376151711744, neg_wrap hu h0, ?_, mul_wrap _, rfl, d1, d2⟩
  rw [bits_and_u64_nat u (18446744073709551616 - u) hu (by omega), and_neg hu hb hm hlo]

set_option maxHeartbeats 400000 in
theorem ntz_fn (u : Nat) (hu : u < 18446744073709551616) (h0 : u ≠ 0) (w : World) (ht : TabAt w) :
    Calls Tryd.prog 16 #[.int .u64 u] w fun e w' => e = .returned (.int .i64 (loK u.testBit 64)) ∧ w = w' := by
  obtain ⟨m, hm, hb, hlo⟩ := lowest hu h0
  rw [loK_is hb hlo 64 hm]
  obtain ⟨v, p, x, k, e1, e2, e3, e4, hk, d2⟩ := deb_steps hu hb hm hlo
  have h00 : ((u : Int) == 0) = false := by simp; omega
  have hc := ht k hk
  rw [d2] at hc
  clear ht d2 hlo hb h0 hu
  go_enter Tryd.func16, Tryd.ntmps16
  go_wp2
  go_ret
  exact ⟨rfl, rfl⟩

set_option maxHeartbeats 400000 in
theorem low_fn (u : Nat) (hu : u < 18446744073709551616) (w : World) (ht : TabAt w) :
    Calls Tryd.prog 11 #[.int .u64 u] w fun e w' => e = .returned (.int .i64 (loK u.testBit 64)) ∧ w = w' := by
  by_cases h0 : u = 0
  · subst h0
    rw [loK_none 64 fun i _ => Nat.zero_testBit i]
    clear hu ht
    go_enter Tryd.func11, Tryd.ntmps11
    go_wp2_with fail
    go_ret
    exact ⟨rfl, rfl⟩
  · have h := ntz_fn u hu h0 w ht
    have h00 : ((u : Int) == 0) = false := by simp; omega
    generalize loK u.testBit 64 = c at *
    clear hu h0 ht
    go_enter Tryd.func11, Tryd.ntmps11
    go_wp2_with (go_at_call 16; go_must (refine h.mono ?_); rintro e w' ⟨rfl, rfl⟩)
    go_ret
    exact ⟨rfl, rfl⟩

theorem and_bitN {u : Nat} {n : Int} : (u &&& bitN n = 0) ↔ hasF u n = false := by
  constructor
  · intro h
    by_cases hn : 0 ≤ n ∧ n ≤ 63
    · obtain ⟨m, rfl⟩ := Int.eq_ofNat_of_zero_le hn.1
      have := congrArg (fun x => x.testBit m) h
      simp only [Nat.testBit_and, Nat.zero_testBit] at this
      unfold bitN at this
      rw [ofN_testBit] at this
      rw [hasF_nat (by omega)]
      simpa [show m < 64 by omega] using this
    · unfold hasF
      by_cases h0 : 0 ≤ n
      · have : ¬ n ≤ 63 := by omega
        simp [this]
      · simp [h0]
  · intro h
    apply Nat.eq_of_testBit_eq
    intro i
    rw [Nat.testBit_and, Nat.zero_testBit]
    unfold bitN
    rw [ofN_testBit]
    by_cases hi : i < 64 ∧ (i : Int) = n
    · obtain ⟨hi, rfl⟩ := hi
      rw [hasF_nat hi] at h
      rw [h]; rfl
    · have : (decide (i < 64) && decide ((i : Int) = n)) = false := by simp; omega
      rw [this, Bool.and_false]

set_option maxHeartbeats 400000 in
theorem has_fn (u : Nat) (hu : u < 18446744073709551616) (n : Int) (w : World) (hn : -9223372036854775808 ≤ n ∧ n ≤ 9223372036854775807) :
    Calls Tryd.prog 6 #[.int .u64 u, .int .i64 n] w fun e w' => e = .returned (.bool (hasF u n)) ∧ w = w' := by
  have hb := fun w => bit_any n w hn
  have hand := bits_and_u64_nat u (bitN n) hu (bitN_lt n)
  have hi := and_bitN (u := u) (n := n)
  generalize bitN n = b at *
  generalize u &&& b = y at *
  clear hu hn
  cases h : hasF u n with
  | true =>
    have hy : ((y : Int) != 0) = true := by
      rw [h] at hi
      simp
      intro e
      exact absurd (hi.1 (by omega)) (by decide)
    clear h hi
    go_enter Tryd.func6, Tryd.ntmps6
    go_wp2_with (go_at_call 14; go_must (refine (hb _).mono ?_); rintro e w' ⟨rfl, rfl⟩)
    go_ret
    exact ⟨rfl, rfl⟩
  | false =>
    have hy : ((y : Int) != 0) = false := by
      have := hi.2 h
      simp
      omega
    clear h hi
    go_enter Tryd.func6, Tryd.ntmps6
    go_wp2_with (go_at_call 14; go_must (refine (hb _).mono ?_); rintro e w' ⟨rfl, rfl⟩)
    go_ret
    exact ⟨rfl, rfl⟩

set_option maxHeartbeats 400000 in
theorem without_fn (u : Nat) (hu : u < 18446744073709551616) (n : Int) (w : World) (hn : -9223372036854775808 ≤ n ∧ n ≤ 9223372036854775807) :
    Calls Tryd.prog 9 #[.int .u64 u, .int .i64 n] w fun e w' => e = .returned (.int .u64 (ofN fun i => !decide ((i : Int) = n) && u.testBit i)) ∧ w = w' := by
  have e := bits_not_nat u (bitN n) hu (bitN_lt n)
  have e2 : (ofN fun i => u.testBit i && !(bitN n).testBit i) = ofN fun i => !decide ((i : Int) = n) && u.testBit i := ofN_congr fun i hi => by
    unfold bitN
    rw [ofN_testBit, Bool.and_comm]
    simp [hi]
  rw [e2] at e
  replace e := Lib.hid e
  clear e2
  generalize (ofN fun i => !decide ((i : Int) = n) && u.testBit i) = x at e ⊢
  have hb := fun w => bit_any n w hn
  generalize bitN n = b at *
  clear hu
  go_enter Tryd.func9, Tryd.ntmps9
  go_wp2_with (go_at_call 14; go_must (refine (hb _).mono ?_); rintro e w' ⟨rfl, rfl⟩)
  go_ret
  exact ⟨congrArg (fun n => Ending.returned (.int .u64 n)) e.out, rfl⟩

end Go.Proofs.YtpjmogakimelaaaDoor
