/-
  Own words and walks: jobs as they lie, when two are the same, which comes ahead (the law's own words).
-/
import Derived.Test.YtpdnppncdfialaaChecked
import Derived.Test.YtpdnppncdfialaaStOf
import Derived.WalkKit
import Derived.WalkSpells
import Derived.WalkLawsBesides
import Derived.Deep.DeepMust
import Derived.Lib.Hide
import Derived.LaidEql
import Derived.Sort.Grow
import Derived.Shelf.GgSortFunc.RowK
namespace Go.Proofs.Ytpdnppncdfialaa
open Go.RowKit Go.Lib

/-- A job: id, user, width, limit, priority, state, start, end, plan, nodes. -/
abbrev Jb : Type := Int × Int × Int × Int × Int × Int × Int × Int × Int × Int
instance : DecidableEq Jb := (@instDecidableEqProd _ _ (inferInstanceAs (DecidableEq Int)) (@instDecidableEqProd _ _ (inferInstanceAs (DecidableEq Int)) (@instDecidableEqProd _ _ (inferInstanceAs (DecidableEq Int)) (@instDecidableEqProd _ _ (inferInstanceAs (DecidableEq Int)) (@instDecidableEqProd _ _ (inferInstanceAs (DecidableEq Int)) (@instDecidableEqProd _ _ (inferInstanceAs (DecidableEq Int)) (@instDecidableEqProd _ _ (inferInstanceAs (DecidableEq Int)) (@instDecidableEqProd _ _ (inferInstanceAs (DecidableEq Int)) (@instDecidableEqProd _ _ (inferInstanceAs (DecidableEq Int)) (inferInstanceAs (DecidableEq Int)))))))))))
instance : Inhabited Jb := ⟨(0, 0, 0, 0, 0, 0, 0, 0, 0, 0)⟩
def Jb.id (j : Jb) : Int := j.1
def Jb.prio (j : Jb) : Int := j.2.2.2.2.1
def encJ (j : Jb) : List Value := [.int .i64 j.1, .int .i64 j.2.1, .int .i64 j.2.2.1, .int .i64 j.2.2.2.1, .int .i64 j.2.2.2.2.1, .int .i64 j.2.2.2.2.2.1, .int .i64 j.2.2.2.2.2.2.1, .int .i64 j.2.2.2.2.2.2.2.1, .int .i64 j.2.2.2.2.2.2.2.2.1, .int .u64 j.2.2.2.2.2.2.2.2.2]
theorem encJ_len (j : Jb) : (encJ j).length = 10 := rfl
theorem encJ_one (j : Jb) : ∀ v ∈ encJ j, v.oneCell' = true := by
  intro v hv
  simp [encJ] at hv
  rcases hv with rfl | rfl | rfl | rfl | rfl | rfl | rfl | rfl | rfl | rfl <;> rfl
/-- Does a job come ahead of another one? -/
def aheadJ (a b : Jb) : Bool := decide (b.prio < a.prio) || (decide (a.prio = b.prio) && decide (a.id < b.id))
/-- Which comes ahead, as a number. -/
def cmpJ (a b : Jb) : Int := if aheadJ a b then -1 else if aheadJ b a then 1 else 0
theorem aheadJ_not {a b : Jb} (h : aheadJ a b = true) : aheadJ b a = false := by
  unfold aheadJ at *
  simp only [Bool.or_eq_true, Bool.and_eq_true, decide_eq_true_eq] at h
  simp only [Bool.or_eq_false_iff, Bool.and_eq_false_iff, decide_eq_false_iff_not]
  omega
theorem cmpJ_lt (a b : Jb) : decide (cmpJ a b < 0) = aheadJ a b := by
  unfold cmpJ
  cases h : aheadJ a b with
  | true => rfl
  | false => cases aheadJ b a <;> rfl

section
set_option maxRecDepth 100000
theorem equalIn_job (x y : Jb) (w : World) : (Op.equalIn 10000 35 (.agg (encJ x).toArray) (.agg (encJ y).toArray)).run Try.prog w = .ok (decide (x = y)) w := by
  have u2 := Try.underlying2
  have a2 := Try.isAgg2
  have z2 := Try.sizeOf2
  have u3 := Try.underlying3
  have a3 := Try.isAgg3
  have z3 := Try.sizeOf3
  have u4 := Try.underlying33
  have a4 := Try.isAgg33
  have z4 := Try.sizeOf33
  have hS : Try.prog.underlying 35 = some (.struct (Try.prog.fieldsOf 35)) := by kernel_rfl
  have hp : Try.prog.stoodInHeld 35 = false := by kernel_rfl
  rw [show (10000 : Nat) = 9999 + 1 from rfl, run_equalIn_agg w 9999 35 _ _ hS hp]
  simp only [Program.fieldsOf, Try.underlying35]
  obtain ⟨x1, x2, x3, x4, x5, x6, x7, x8, x9, x0⟩ := x
  obtain ⟨y1, y2, y3, y4, y5, y6, y7, y8, y9, y0⟩ := y
  simp only [encJ]
  go_simp
  by_cases h1 : x1 = y1
  · by_cases h2 : x2 = y2
    · by_cases h3 : x3 = y3
      · by_cases h4 : x4 = y4
        · by_cases h5 : x5 = y5
          · by_cases h6 : x6 = y6
            · by_cases h7 : x7 = y7
              · by_cases h8 : x8 = y8
                · by_cases h9 : x9 = y9
                  · by_cases h0 : x0 = y0 <;> simp [h1, h2, h3, h4, h5, h6, h7, h8, h9, h0]
                  · simp [h1, h2, h3, h4, h5, h6, h7, h8, h9]
                · simp [h1, h2, h3, h4, h5, h6, h7, h8]
              · simp [h1, h2, h3, h4, h5, h6, h7]
            · simp [h1, h2, h3, h4, h5, h6]
          · simp [h1, h2, h3, h4, h5]
        · simp [h1, h2, h3, h4]
      · simp [h1, h2, h3]
    · simp [h1, h2]
  · simp [h1]
theorem job_eql (x y : Jb) (w : World) : (binOp .eql 35 (.agg (encJ x).toArray) (.agg (encJ y).toArray)).run Try.prog w = .ok (.bool (decide (x = y))) w := by
  rw [run_eql_struct, equalIn_job]; rfl
theorem job_neq (x y : Jb) (w : World) : (binOp .neq 35 (.agg (encJ x).toArray) (.agg (encJ y).toArray)).run Try.prog w = .ok (.bool (!decide (x = y))) w := by
  rw [run_neq_struct, equalIn_job]; rfl
theorem job_guard : Try.prog.eqGuardType Try.prog.depth 35 = false := by kernel_rfl
end

end Go.Proofs.Ytpdnppncdfialaa
