/-
  Own words: what is asked of the program's replies as bytes; the chapter's example over it.
-/
import Derived.Test.YtpdnppncdfialaaRyB
import Derived.Test.YtpdnppncdfialaaRdC
namespace Go.Proofs.Ytpdnppncdfialaa
open Go.RowKit

def zeroY : Ry := ⟨0, 0, 0, 0, 0, 0, 0, 0, 0⟩
/-- What Read tells of bytes. -/
def ReadY (l : List UInt8) (x : Ry) (q : Int) : Prop := (FitsY x ∧ encYb x = l ∧ q = 0) ∨ ((∀ r, FitsY r → encYb r ≠ l) ∧ x = zeroY ∧ Wrong q)

structure RySpec : Prop where
  put : ∀ (r : Ry) (w : World), FitsY r → Calls Try.prog 6 #[.agg (encY r).toArray] w fun e w' => ∃ v, e = .returned v ∧ RowAt encB 1 w' v (encYb r) ∧ Below w.heap.size w w'
  read : ∀ (v : Value) (l : List UInt8) (w : World), RowAt encB 1 w v l → l.length ≤ 150 → Calls Try.prog 7 #[v] w fun e w' => ∃ x q, e = .returned (.tuple #[.agg (encY x).toArray, .int .i64 q]) ∧ ReadY l x q ∧ Below w.heap.size w w'

def sevenY : Ry := ⟨7, 0, 0, 0, 0, 0, 0, 0, 0⟩
theorem sevenY_fits : FitsY sevenY := by
  intro z hz
  simp only [numsY, sevenY, List.mem_cons, List.not_mem_nil, or_false] at hz
  omega
theorem sevenY_enc : encYb sevenY = [184, 1, 14] := by decide +kernel

set_option maxRecDepth 100000 in
set_option maxHeartbeats 1000000 in
theorem awakeY_any (S : RySpec) (w : World) : Calls Try.prog 9 #[] w fun e w' => e = .returned (.bool true) ∧ Below w.heap.size w w' := by
  have hp := S.put sevenY w sevenY_fits
  rw [sevenY_enc] at hp
  rw [show (encY sevenY).toArray = #[.int .i64 7, .int .i64 0, .int .i64 0, .int .i64 0, .int .i64 0, .int .i64 0, .int .i64 0, .int .i64 0, .int .i64 0] from rfl] at hp
  have hT : str [184, 1, 14] = { data := #[184, 1, 14] } := rfl
  go_enter Try.func9, Try.ntmps9
  go_wp2_with fail
  go_at_call 6
  refine hp.mono ?_
  clear hp
  rintro e w1 ⟨v, rfl, hr, hb⟩
  have hcv := conv_row hr
  rw [hT] at hcv
  clear hr hT
  go_wp2_with fail
  go_ret
  exact ⟨rfl, hb⟩

end Go.Proofs.Ytpdnppncdfialaa
