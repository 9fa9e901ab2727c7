/-
  Own walks: what functions of math/bits come to.
-/
import Derived.Test.YtmedbodjikbmfaaRows
import Derived.WalkKit
import Derived.WalkSpells
import Derived.WalkLawsBesides
import Derived.Deep.DeepMust
import Derived.Lib.Hide
import Derived.Laws.Bits128
import Derived.Test.YtmedbodjikbmfaaPop
namespace Go.Proofs.Ytmedbodjikbmfaa
open Go.RowKit

theorem wrap_small {n : Nat} (h : n < 18446744073709551616) : IntKind.u64.wrap (n : Int) = (n : Int) := by rw [IntKind.wrap_u64]; omega
theorem and_shift (u s : Nat) (c p : Nat) (hu : u < 18446744073709551616) (hc : c < 18446744073709551616) (hp : p = 2 ^ s) : bits .and .u64 ((u : Int) / (p : Int)) (c : Int) = ((u >>> s &&& c : Nat) : Int) := by
  have e : (u : Int) / (p : Int) = ((u >>> s : Nat) : Int) := by rw [Nat.shiftRight_eq_div_pow, hp]; rfl
  rw [e]
  exact bits_and_u64_nat _ _ (Nat.lt_of_le_of_lt (by rw [Nat.shiftRight_eq_div_pow]; exact Nat.div_le_self _ _) hu) hc

theorem ones_any (u : Nat) (hu : u < 18446744073709551616) (w : World) :
    Calls Try.prog 33 #[.int .u64 u] w fun e w' => e = .returned (.int .i64 (cntK u.testBit 64)) ∧ w = w' := by
  obtain ⟨x4, e4⟩ : ∃ x, x = c3 (c2 (c1 u)) + c3 (c2 (c1 u)) >>> 8 := ⟨_, rfl⟩
  obtain ⟨x5, e5⟩ : ∃ x, x = x4 + x4 >>> 16 := ⟨_, rfl⟩
  obtain ⟨x6, e6⟩ : ∃ x, x = x5 + x5 >>> 32 := ⟨_, rfl⟩
  obtain ⟨l1, l2, l4, l5, l6, hend⟩ := pop64 u hu x4 x5 x6 e4 e5 e6
  generalize cntK u.testBit 64 = c at hend ⊢
  obtain ⟨a1, h1⟩ : ∃ x, x = c1 u := ⟨_, rfl⟩
  obtain ⟨a2, h2⟩ : ∃ x, x = c2 a1 := ⟨_, rfl⟩
  obtain ⟨a3, h3⟩ : ∃ x, x = c3 a2 := ⟨_, rfl⟩
  have s1 : IntKind.u64.wrap (bits .and .u64 ((u : Int) / 2) 6148914691236517205 + bits .and .u64 (u : Int) 6148914691236517205) = (a1 : Int) := by
    rw [show (bits .and .u64 ((u : Int) / 2) 6148914691236517205) = _ from and_shift u 1 6148914691236517205 2 hu (by decide) rfl, show (bits .and .u64 (u : Int) 6148914691236517205) = _ from bits_and_u64_nat u 6148914691236517205 hu (by decide)]
    rw [h1]
    exact wrap_small l1
  rw [← h1] at l1 l2 e4
  have s2 : IntKind.u64.wrap (bits .and .u64 ((a1 : Int) / 4) 3689348814741910323 + bits .and .u64 (a1 : Int) 3689348814741910323) = (a2 : Int) := by
    rw [show (bits .and .u64 ((a1 : Int) / 4) 3689348814741910323) = _ from and_shift a1 2 3689348814741910323 4 l1 (by decide) rfl, show (bits .and .u64 (a1 : Int) 3689348814741910323) = _ from bits_and_u64_nat a1 3689348814741910323 l1 (by decide)]
    rw [h2]
    exact wrap_small (Nat.lt_trans l2 (by decide))
  rw [← h2] at l2 e4
  have s3 : bits .and .u64 ((a2 : Int) / 16 + (a2 : Int)) 1085102592571150095 = (a3 : Int) := by
    have e : (a2 : Int) / 16 + (a2 : Int) = ((a2 >>> 4 + a2 : Nat) : Int) := by rw [Nat.shiftRight_eq_div_pow]; rfl
    have l : a2 >>> 4 + a2 < 18446744073709551616 := by rw [Nat.shiftRight_eq_div_pow]; omega
    rw [show (bits .and .u64 ((a2 : Int) / 16 + (a2 : Int)) 1085102592571150095) = bits .and .u64 (((a2 >>> 4 + a2 : Nat)) : Int) 1085102592571150095 from congrArg (fun n => bits .and .u64 n 1085102592571150095) e, h3]
    exact bits_and_u64_nat _ 1085102592571150095 l (by decide)
  rw [← h3] at e4
  have s4 : IntKind.u64.wrap ((a3 : Int) + (a3 : Int) / 256) = (x4 : Int) := by
    have e : (a3 : Int) + (a3 : Int) / 256 = (x4 : Int) := by rw [e4, Nat.shiftRight_eq_div_pow]; simp only [Nat.reducePow]; omega
    rw [e]; exact wrap_small l4
  have s5 : IntKind.u64.wrap ((x4 : Int) + (x4 : Int) / 65536) = (x5 : Int) := by
    have e : (x4 : Int) + (x4 : Int) / 65536 = (x5 : Int) := by rw [e5, Nat.shiftRight_eq_div_pow]; simp only [Nat.reducePow]; omega
    rw [e]; exact wrap_small l5
  have s6 : IntKind.u64.wrap ((x5 : Int) + (x5 : Int) / 4294967296) = (x6 : Int) := by
    have e : (x5 : Int) + (x5 : Int) / 4294967296 = (x6 : Int) := by rw [e6, Nat.shiftRight_eq_div_pow]; simp only [Nat.reducePow]; omega
    rw [e]; exact wrap_small l6
  clear e4 e5 e6 h1 h2 h3
  have hc : c = x6 % 128 := by rw [← hend]; exact Nat.and_two_pow_sub_one_eq_mod x6 7
  clear hend
  have hw : wrap64 (x6 : Int) % 128 = (c : Int) := by
    clear s1 s2 s3 s4 s5 s6 l1 l2 l4 l5
    unfold wrap64
    omega
  have s7 : bits .and .i64 (wrap64 (x6 : Int)) 127 = (c : Int) := by rw [i64_and127, hw]
  clear hc hw
  go_enter Try.func33, Try.ntmps33
  go_wp2
  go_ret
  exact ⟨rfl, rfl⟩

end Go.Proofs.Ytmedbodjikbmfaa
