/-
  Contracts of package set's functions on one set.
-/
import Derived.Test.YtmedbodjikbmfaaSetR
import Derived.Test.YtmedbodjikbmfaaInts
import Derived.Test.YtmedbodjikbmfaaBits
import Derived.Lib.MinMax
namespace Go.Proofs.Ytmedbodjikbmfaa
open Go.RowKit

/-- The bit of node n; nothing if n is no node. -/
def bitN (n : Int) : Nat := ofN fun i => decide ((i : Int) = n)

theorem bits_not_nat (a b : Nat) (ha : a < 18446744073709551616) (hb : b < 18446744073709551616) :
    bits .andNot .u64 (a : Int) (b : Int) = ((ofN fun i => a.testBit i && !b.testBit i : Nat) : Int) := by
  have h1 : (BitVec.ofInt 64 (a : Int)).toNat = a := by
    rw [BitVec.ofInt_natCast, BitVec.toNat_ofNat]; exact Nat.mod_eq_of_lt (by omega)
  have h2 : (BitVec.ofInt 64 (b : Int)).toNat = b := by
    rw [BitVec.ofInt_natCast, BitVec.toNat_ofNat]; exact Nat.mod_eq_of_lt (by omega)
  show IntKind.u64.wrap ((BitVec.ofInt 64 (a : Int) &&& ~~~ BitVec.ofInt 64 (b : Int)).toNat : Int) = _
  generalize hA : BitVec.ofInt 64 (a : Int) = A at *
  generalize hB : BitVec.ofInt 64 (b : Int) = B at *
  have e : (A &&& ~~~ B).toNat = ofN fun i => a.testBit i && !b.testBit i := by
    refine (ofN_eq (A &&& ~~~ B).isLt fun i hi => ?_).symm
    rw [BitVec.testBit_toNat, BitVec.getLsbD_and, BitVec.getLsbD_not, ← BitVec.testBit_toNat, ← BitVec.testBit_toNat, h1, h2]
    simp [hi]
  rw [e]
  exact wrap_small (ofN_lt _)

theorem bitN_none {n : Int} (h : n < 0 ∨ 64 ≤ n) : bitN n = 0 := by
  unfold bitN
  exact ofN_eq (by decide) fun i hi => by simp; omega
theorem bitN_pow {m : Nat} (h : m < 64) : bitN (m : Int) = 2 ^ m := by
  unfold bitN
  refine ofN_eq (Nat.pow_lt_pow_right (by decide) h) fun i hi => ?_
  rw [Nat.testBit_two_pow, Bool.eq_iff_iff]
  simp
  omega
theorem bitN_lt (n : Int) : bitN n < 18446744073709551616 := ofN_lt _

set_option maxHeartbeats 400000 in
theorem bit_any (n : Int) (w : World) (hn : -9223372036854775808 ≤ n ∧ n ≤ 9223372036854775807) :
    Calls Try.prog 37 #[.int .i64 n] w fun e w' => e = .returned (.int .u64 (bitN n)) ∧ w = w' := by
  by_cases h0 : n < 0
  · rw [bitN_none (.inl h0)]
    go_enter Try.func37, Try.ntmps37
    go_wp2
    go_ret
    exact ⟨rfl, rfl⟩
  by_cases h1 : 64 ≤ n
  · rw [bitN_none (.inr h1)]
    go_enter Try.func37, Try.ntmps37
    go_wp2
    go_ret
    exact ⟨rfl, rfl⟩
  obtain ⟨m, rfl⟩ := Int.eq_ofNat_of_zero_le (show 0 ≤ n by omega)
  have hm : m < 64 := by omega
  go_enter Try.func37, Try.ntmps37
  go_wp2
  go_ret
  refine ⟨congrArg (fun n => Ending.returned (.int .u64 n)) ?_, rfl⟩
  have h := wrap_small (n := 2 ^ m) (Nat.pow_lt_pow_right (by decide) hm)
  rw [bitN_pow hm, ← h]
  exact congrArg IntKind.u64.wrap (by simp)

theorem all_fin : ∀ m : Fin 65, IntKind.u64.wrap (IntKind.u64.wrap (2 ^ m.val) - 1) = ((2 ^ m.val - 1 : Nat) : Int) := by decide +kernel

set_option maxHeartbeats 400000 in
theorem all_fn (n : Int) (w : World) (hn : -9223372036854775808 ≤ n ∧ n ≤ 9223372036854775807) :
    Calls Try.prog 22 #[.int .i64 n] w fun e w' => e = .returned (.int .u64 (ofN fun i => decide ((i : Int) < n))) ∧ w = w' := by
  go_enter Try.func22, Try.ntmps22
  go_wp2
  go_ret
  refine ⟨congrArg (fun n => Ending.returned (.int .u64 n)) ?_, rfl⟩
  have hm : (max 0 (min n 64)).toNat < 65 := by omega
  refine (all_fin ⟨(max 0 (min n 64)).toNat, hm⟩).trans ?_
  have hl : 2 ^ (max 0 (min n 64)).toNat - 1 < 18446744073709551616 := by
    have : 2 ^ (max 0 (min n 64)).toNat ≤ 2 ^ 64 := Nat.pow_le_pow_right (by decide) (by omega)
    have h2 : 0 < 2 ^ (max 0 (min n 64)).toNat := Nat.pow_pos (by decide)
    simp only [Nat.reducePow] at this
    omega
  have e := ofN_eq (f := fun i => decide ((i : Int) < n)) hl fun i hi => by
    rw [Nat.testBit_two_pow_sub_one, Bool.eq_iff_iff]
    simp
    omega
  rw [e]

set_option maxHeartbeats 400000 in
theorem with_fn (u : Nat) (hu : u < 18446744073709551616) (n : Int) (w : World) (hn : -9223372036854775808 ≤ n ∧ n ≤ 9223372036854775807) :
    Calls Try.prog 30 #[.int .u64 u, .int .i64 n] w fun e w' => e = .returned (.int .u64 (ofN fun i => decide ((i : Int) = n) || u.testBit i)) ∧ w = w' := by
  have hbl := bitN_lt n
  have e : bits .or .u64 (u : Int) (bitN n : Int) = ((ofN fun i => decide ((i : Int) = n) || u.testBit i : Nat) : Int) := by
    rw [bits_or_u64_nat u (bitN n) hu hbl]
    congr 1
    refine (ofN_eq (Nat.or_lt_two_pow (n := 64) hu hbl) fun i hi => ?_).symm
    rw [Nat.testBit_or]
    unfold bitN
    rw [ofN_testBit, Bool.or_comm]
    simp [hi]
  replace e := Lib.hid e
  generalize (ofN fun i => decide ((i : Int) = n) || u.testBit i) = x at e ⊢
  have hb := fun w => bit_any n w hn
  generalize bitN n = b at *
  clear hu hbl
  go_enter Try.func30, Try.ntmps30
  go_wp2_with (go_at_call 37; go_must (refine (hb _).mono ?_); rintro e w' ⟨rfl, rfl⟩)
  go_ret
  exact ⟨congrArg (fun n => Ending.returned (.int .u64 n)) e.out, rfl⟩

set_option maxHeartbeats 400000 in
theorem len_fn (u : Nat) (hu : u < 18446744073709551616) (w : World) : Calls Try.prog 17 #[.int .u64 u] w fun e w' => e = .returned (.int .i64 (cntK u.testBit 64)) ∧ w = w' := by
  have h := fun w => ones_any u hu w
  generalize cntK u.testBit 64 = c at *
  clear hu
  go_enter Try.func17, Try.ntmps17
  go_wp2_with (go_at_call 33; go_must (refine (h _).mono ?_); rintro e w' ⟨rfl, rfl⟩)
  go_ret
  exact ⟨rfl, rfl⟩

end Go.Proofs.Ytmedbodjikbmfaa
