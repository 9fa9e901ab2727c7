/-
  Own plain mathematics: the bytes of a number (groups of seven bits), signed numbers as numbers. Nothing of a program is said here.
-/
import Derived.WalkKit
namespace Go.Proofs.Ytpdnppncdfialaa

/-- The byte of a number below 256. -/
def byt (n : Nat) : UInt8 := UInt8.ofNat n
theorem byt_toNat {n : Nat} (h : n < 256) : (byt n).toNat = n := by unfold byt; simp; omega

/-- The bytes of a number, at most f + 1 of them. -/
def encF : Nat → Nat → List UInt8
  | 0, u => [byt u]
  | f + 1, u => if u < 128 then [byt u] else byt (u % 128 + 128) :: encF f (u / 128)

/-- The bytes of a number below 2^64. -/
def enc (u : Nat) : List UInt8 := encF 9 u

theorem encF_length (f : Nat) : ∀ u, 1 ≤ (encF f u).length ∧ (encF f u).length ≤ f + 1 := by
  induction f with
  | zero => intro u; simp [encF]
  | succ f ih =>
    intro u
    unfold encF
    split
    · simp
    · have := ih (u / 128); simp only [List.length_cons]; omega

theorem enc_length (u : Nat) : 1 ≤ (enc u).length ∧ (enc u).length ≤ 10 := encF_length 9 u

/-- A signed number as a number. -/
def zg (v : Int) : Nat := if v < 0 then (-2 * v - 1).toNat else (2 * v).toNat

theorem zg_lt {v : Int} (h : -9223372036854775808 ≤ v ∧ v ≤ 9223372036854775807) : zg v < 18446744073709551616 := by unfold zg; split <;> omega
theorem zg_inj {v w : Int} (h : zg v = zg w) : v = w := by unfold zg at h; split at h <;> split at h <;> omega

/-- The bytes as the model's values. -/
def bv (l : List UInt8) : List Value := l.map fun c => Value.int .u8 (c.toNat : Int)
theorem bv_append (a b : List UInt8) : bv (a ++ b) = bv a ++ bv b := by simp [bv]
theorem bv_length (a : List UInt8) : (bv a).length = a.length := by simp [bv]

/-- Bytes as a string. -/
def str (l : List UInt8) : ByteArray := ⟨l.toArray⟩
theorem str_inj {a b : List UInt8} (h : str a = str b) : a = b := by unfold str at h; simpa using h

/-- Numbers whose bytes begin alike are alike, and of one length. -/
theorem encF_prefix (f : Nat) : ∀ u v (s t : List UInt8), u < 128 ^ (f + 1) → v < 128 ^ (f + 1) → encF f u ++ s = encF f v ++ t → u = v ∧ s = t := by
  induction f with
  | zero =>
    intro u v s t hu hv h
    simp [encF] at h hu hv
    have := congrArg UInt8.toNat h.1
    rw [byt_toNat (by omega), byt_toNat (by omega)] at this
    exact ⟨this, h.2⟩
  | succ f ih =>
    intro u v s t hu hv h
    unfold encF at h
    by_cases h1 : u < 128 <;> by_cases h2 : v < 128
    · simp only [h1, h2, if_true, List.cons_append, List.nil_append, List.cons.injEq] at h
      have := congrArg UInt8.toNat h.1
      rw [byt_toNat (by omega), byt_toNat (by omega)] at this
      exact ⟨this, h.2⟩
    · simp only [h1, h2, if_true, if_false, List.cons_append, List.nil_append, List.cons.injEq] at h
      have := congrArg UInt8.toNat h.1
      rw [byt_toNat (by omega), byt_toNat (by omega)] at this
      omega
    · simp only [h1, h2, if_true, if_false, List.cons_append, List.nil_append, List.cons.injEq] at h
      have := congrArg UInt8.toNat h.1
      rw [byt_toNat (by omega), byt_toNat (by omega)] at this
      omega
    · simp only [h1, h2, if_false, List.cons_append, List.cons.injEq] at h
      have := congrArg UInt8.toNat h.1
      rw [byt_toNat (by omega), byt_toNat (by omega)] at this
      have hp : 128 ^ (f + 1 + 1) = 128 ^ (f + 1) * 128 := Nat.pow_succ ..
      have hx := ih (u / 128) (v / 128) s t (by omega) (by omega) h.2
      exact ⟨by omega, hx.2⟩

theorem enc_prefix {u v : Nat} {s t : List UInt8} (hu : u < 18446744073709551616) (hv : v < 18446744073709551616) (h : enc u ++ s = enc v ++ t) : u = v ∧ s = t :=
  encF_prefix 9 u v s t (by omega) (by omega) h

/-- One step of laying bytes behind a text. -/
theorem encF_step {f u : Nat} (h : 128 ≤ u) : encF (f + 1) u = byt (u % 128 + 128) :: encF f (u / 128) := by rw [encF, if_neg (by omega)]
theorem encF_last {f u : Nat} (h : u < 128) : encF f u = [byt u] := by cases f <;> simp [encF, h]
theorem encF_stop {f u : Nat} (hu : u < 128 ^ (f + 1)) (h : 128 ≤ u) : 1 ≤ f := by
  cases f with
  | zero => simp at hu; omega
  | succ f => omega

end Go.Proofs.Ytpdnppncdfialaa
