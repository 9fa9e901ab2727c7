/-
  Own words: a job by value, as an argument.
-/
import Derived.Test.YtpdnppncdfialaaOrC
namespace Go.Proofs.Ytpdnppncdfialaa
open Go.RowKit Go.Lib Go.Sort

open Go.ChangeShapes Go.WideShapes Go.ChangeAt Go.Deep in
/-- An argument that is a job by value. -/
theorem job_of {H : Type} {enc : TypeId × Value → H} {P : Program} {w : World} {base : Nat} {t : TypeId} {f0 f1 f2 f3 f4 f5 f6 f7 f8 f9 : Field} {v : Value} {d : DataW H} {ps : List MemPlace} (ht : P.underlying t = some (.struct #[f0, f1, f2, f3, f4, f5, f6, f7, f8, f9]))
    (hone : oneCellFields P #[f0, f1, f2, f3, f4, f5, f6, f7, f8, f9] = true) (hc : P.cellsOf t = 10) (h0 : P.underlying f0.type = some (.int .i64)) (h1 : P.underlying f1.type = some (.int .i64)) (h2 : P.underlying f2.type = some (.int .i64)) (h3 : P.underlying f3.type = some (.int .i64)) (h4 : P.underlying f4.type = some (.int .i64)) (h5 : P.underlying f5.type = some (.int .i64)) (h6 : P.underlying f6.type = some (.int .i64)) (h7 : P.underlying f7.type = some (.int .i64)) (h8 : P.underlying f8.type = some (.int .i64)) (h9 : P.underlying f9.type = some (.int .u64))
    (hval : Value.okWide P w .any base t v) (hd : DataW.Trod enc P w 0 (fun _ => true) true t v d ps) : ∃ j : Jb, v = .agg (encJ j).toArray := by
  obtain ⟨s, rfl, hlen, hf⟩ := struct_of ht hone hc hval hd
  match s, hlen with
  | [a0, a1, a2, a3, a4, a5, a6, a7, a8, a9], _ =>
    obtain ⟨_, _, t0⟩ := hf 0 f0 a0 rfl rfl
    obtain ⟨_, _, t1⟩ := hf 1 f1 a1 rfl rfl
    obtain ⟨_, _, t2⟩ := hf 2 f2 a2 rfl rfl
    obtain ⟨_, _, t3⟩ := hf 3 f3 a3 rfl rfl
    obtain ⟨_, _, t4⟩ := hf 4 f4 a4 rfl rfl
    obtain ⟨_, _, t5⟩ := hf 5 f5 a5 rfl rfl
    obtain ⟨_, _, t6⟩ := hf 6 f6 a6 rfl rfl
    obtain ⟨_, _, t7⟩ := hf 7 f7 a7 rfl rfl
    obtain ⟨_, _, t8⟩ := hf 8 f8 a8 rfl rfl
    obtain ⟨_, _, t9⟩ := hf 9 f9 a9 rfl rfl
    obtain ⟨x0, hx0, _, _⟩ := DataW.trod_int h0 t0
    obtain ⟨x1, hx1, _, _⟩ := DataW.trod_int h1 t1
    obtain ⟨x2, hx2, _, _⟩ := DataW.trod_int h2 t2
    obtain ⟨x3, hx3, _, _⟩ := DataW.trod_int h3 t3
    obtain ⟨x4, hx4, _, _⟩ := DataW.trod_int h4 t4
    obtain ⟨x5, hx5, _, _⟩ := DataW.trod_int h5 t5
    obtain ⟨x6, hx6, _, _⟩ := DataW.trod_int h6 t6
    obtain ⟨x7, hx7, _, _⟩ := DataW.trod_int h7 t7
    obtain ⟨x8, hx8, _, _⟩ := DataW.trod_int h8 t8
    obtain ⟨x9, hx9, _, _⟩ := DataW.trod_int h9 t9
    simp at hx0 hx1 hx2 hx3 hx4 hx5 hx6 hx7 hx8 hx9
    subst hx0 hx1 hx2 hx3 hx4 hx5 hx6 hx7 hx8 hx9
    exact ⟨(x0, x1, x2, x3, x4, x5, x6, x7, x8, x9), rfl⟩

end Go.Proofs.Ytpdnppncdfialaa
