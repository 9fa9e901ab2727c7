/-
  Own words: what is asked of the program's requests as bytes; the chapter's example over it.
-/
import Derived.Test.YtojipdcckanbfaaRqC
import Derived.Test.YtojipdcckanbfaaByt
namespace Go.Proofs.Ytojipdcckanbfaa
open Go.RowKit

def zeroR : Rq := ⟨0, 0, 0, 0, 0, 0, false, 0, 0⟩
/-- What Read tells of bytes. -/
def ReadP (l : List UInt8) (x : Rq) (q : Int) : Prop :=
  (64 < l.length ∧ x = zeroR ∧ q = 3) ∨ (l.length < 3 ∧ x = zeroR ∧ q = 2) ∨
  (3 ≤ l.length ∧ l.length ≤ 64 ∧ ((FitsR x ∧ rightQ x = true ∧ encQ x = l ∧ q = 0) ∨ ((∀ r, FitsR r → rightQ r = true → encQ r ≠ l) ∧ x = zeroR ∧ q = 4)))

structure RqSpec : Prop where
  right : ∀ (r : Rq) (w : World), Calls Try.prog 7 #[.agg (encR r).toArray] w fun e w' => e = .returned (.bool (rightQ r)) ∧ Below w.heap.size w w'
  put : ∀ (r : Rq) (w : World), FitsR r → rightQ r = true → Calls Try.prog 6 #[.agg (encR r).toArray] w fun e w' => ∃ v, e = .returned (.tuple #[v, .int .i64 0]) ∧ RowAt encB 1 w' v (encQ r) ∧ Below w.heap.size w w'
  bad : ∀ (r : Rq) (w : World), FitsR r → rightQ r = false → Calls Try.prog 6 #[.agg (encR r).toArray] w fun e w' => ∃ ao cap, e = .returned (.tuple #[.slice ao 0 cap, .int .i64 1]) ∧ Below w.heap.size w w'
  read : ∀ (v : Value) (l : List UInt8) (w : World), RowAt encB 1 w v l → l.length ≤ 100 → Calls Try.prog 10 #[v] w fun e w' => ∃ x q, e = .returned (.tuple #[.agg (encR x).toArray, .int .i64 q]) ∧ ReadP l x q ∧ Below w.heap.size w w'

def infoR : Rq := ⟨10, 0, 0, 0, 0, 0, false, 0, 0⟩
theorem infoR_fits : FitsR infoR := ⟨by decide, by decide, by decide, by decide, by decide, by decide, by decide, by decide⟩
theorem infoR_enc : encQ infoR = [183, 10, byt (ckF [byt 183, byt 10])] := rfl

set_option maxRecDepth 100000 in
set_option maxHeartbeats 1000000 in
theorem awakeQ_any (S : RqSpec) (w : World) : Calls Try.prog 9 #[] w fun e w' => e = .returned (.bool true) ∧ Below w.heap.size w w' := by
  have hp := S.put infoR w infoR_fits (by decide)
  rw [infoR_enc] at hp
  generalize byt (ckF [byt 183, byt 10]) = c at hp
  rw [show (encR infoR).toArray = #[.int .i64 10, .int .i64 0, .int .i64 0, .int .i64 0, .int .i64 0, .int .i64 0, .bool false, .int .i64 0, .int .i64 0] from rfl] at hp
  go_enter Try.func9, Try.ntmps9
  go_wp2_with fail
  go_at_call 6
  refine hp.mono ?_
  clear hp
  rintro e w1 ⟨v, rfl, hr, hb⟩
  obtain ⟨ao, cap, rfl, h1, h2, h3⟩ := hr
  obtain ⟨b, off, rfl, _, hc⟩ := h3 (by simp)
  have c0 := hc 0 183 0 _ rfl rfl
  have c1 := hc 1 10 0 _ rfl rfl
  simp only [Nat.mul_one, Nat.add_zero, Nat.one_mul] at c0 c1
  rw [show (([183, 10, c] : List UInt8).length) = 3 from rfl] at h1 ⊢
  rw [show (((183 : UInt8).toNat : Nat) : Int) = 183 from rfl] at c0
  rw [show (((10 : UInt8).toNat : Nat) : Int) = 10 from rfl] at c1
  have hcM : cap ≤ 9223372036854775807 := by unfold maxLen at h2; omega
  clear hc h2 h3
  go_wp2_with fail
  go_ret
  exact ⟨rfl, hb⟩

end Go.Proofs.Ytojipdcckanbfaa
