/-
  Own words: replies as they lie, as arguments, and when two are the same.
-/
import Derived.Test.YtpdnppncdfialaaChecked
import Derived.Test.YtpdnppncdfialaaFlat
import Derived.WalkKit
import Derived.WalkSpells
import Derived.WalkLawsBesides
import Derived.Deep.DeepMust
import Derived.Lib.Hide
import Derived.LaidEql
import Derived.Laws.StructEq
import Derived.Shelf.SlicesQ.Load
namespace Go.Proofs.Ytpdnppncdfialaa
open Go.RowKit Go.Lib
open Go.ChangeShapes Go.WideShapes Go.ChangeAt Go.Deep

/-- A reply. -/
structure Ry where
  err : Int
  id : Int
  state : Int
  start : Int
  stop : Int
  plan : Int
  a : Int
  b : Int
  c : Int
deriving DecidableEq
def encY (r : Ry) : List Value := [.int .i64 r.err, .int .i64 r.id, .int .i64 r.state, .int .i64 r.start, .int .i64 r.stop, .int .i64 r.plan, .int .i64 r.a, .int .i64 r.b, .int .i64 r.c]
theorem aE_ry : ∀ w, Sem.run Try.prog (isAgg 24) w = .ok true w := Try.isAgg24
theorem zE_ry : ∀ w, Sem.run Try.prog (Go.sizeOf 24) w = .ok 9 w := Try.sizeOf24
theorem encY_len (r : Ry) : (encY r).length = 9 := rfl
theorem encY_one (r : Ry) : ∀ v ∈ encY r, v.oneCell' = true := by
  intro v hv
  simp [encY] at hv
  rcases hv with rfl | rfl | rfl | rfl | rfl | rfl | rfl | rfl | rfl <;> rfl
theorem ry_cells {W : World} {p : Nat} {x : Ry} (h : W.heap[p]? = some (.cells (encY x).toArray 24 (0, 0))) : ∀ j u, (encY x)[j]? = some u → W.cell? ⟨p, j, none⟩ = some u := by
  intro j u hj
  simp [World.cell?, h, hj]
/-- A load of a reply that lies in a block of its own, its size a variable. -/
theorem ry_load {W : World} {p k : Nat} {x : Ry} (h : W.heap[p]? = some (.cells (encY x).toArray 24 (0, 0))) (hk : (encY x).length = k) : Sem.run Try.prog (loadCellsFrom ⟨p, 0, none⟩ 0 k #[]) W = .ok (encY x).toArray W := by
  refine run_loadCellsFrom_list Try.prog W _ _ k hk fun j u hj => ?_
  rw [Go.WideShapes.add_plain]
  simpa using ry_cells h j u hj

section
variable {H : Type} {enc : TypeId × Value → H} {w : World} {base : Nat} {v : Value} {d : DataW H} {ps : List MemPlace}

def ryTs : List TypeId := [22, 3, 3, 2, 2, 2, 3, 3, 3]
theorem leaf_y64 {ts : List TypeId} {cs : List Value} (h : LeafAt enc Try.prog w 0 (fun _ => true) true ts cs) (j : Nat) {T : TypeId} {u : Value} (hT : ts[j]? = some T) (hu : Try.prog.underlying T = some (.int .i64)) (hc : cs[j]? = some u) : ∃ x, u = .int .i64 x ∧ -9223372036854775808 ≤ x ∧ x ≤ 9223372036854775807 := by
  obtain ⟨_, _, t0⟩ := h j T u hT hc
  obtain ⟨x, hx, _, hw⟩ := DataW.trod_int hu t0
  exact ⟨x, by simpa using hx, bounds_i64 hw⟩
/-- A reply's numbers, in order. -/
def numsY (r : Ry) : List Int := [r.err, r.id, r.state, r.start, r.stop, r.plan, r.a, r.b, r.c]
/-- Each number of a reply is one of its type. -/
def FitsY (r : Ry) : Prop := ∀ z ∈ numsY r, -9223372036854775808 ≤ z ∧ z ≤ 9223372036854775807
/-- A reply by value, its numbers in their bounds. -/
theorem ry_fits (hval : Value.okWide Try.prog w .any base 24 v) (hd : DataW.Trod enc Try.prog w 0 (fun _ => true) true 24 v d ps) : ∃ r : Ry, v = .agg (encY r).toArray ∧ FitsY r := by
  obtain ⟨s, rfl, hl, hf⟩ := flat_of (n := 2) (ts := ryTs) Try.underlying24 (by kernel_rfl) (by kernel_rfl) hval hd
  match s, hl with
  | [a0, a1, a2, a3, a4, a5, a6, a7, a8], _ =>
    obtain ⟨x0, rfl, b0⟩ := leaf_y64 hf 0 rfl Try.underlying22 rfl
    obtain ⟨x1, rfl, b1⟩ := leaf_y64 hf 1 rfl Try.underlying3 rfl
    obtain ⟨x2, rfl, b2⟩ := leaf_y64 hf 2 rfl Try.underlying3 rfl
    obtain ⟨x3, rfl, b3⟩ := leaf_y64 hf 3 rfl Try.underlying2 rfl
    obtain ⟨x4, rfl, b4⟩ := leaf_y64 hf 4 rfl Try.underlying2 rfl
    obtain ⟨x5, rfl, b5⟩ := leaf_y64 hf 5 rfl Try.underlying2 rfl
    obtain ⟨x6, rfl, b6⟩ := leaf_y64 hf 6 rfl Try.underlying3 rfl
    obtain ⟨x7, rfl, b7⟩ := leaf_y64 hf 7 rfl Try.underlying3 rfl
    obtain ⟨x8, rfl, b8⟩ := leaf_y64 hf 8 rfl Try.underlying3 rfl
    refine ⟨⟨x0, x1, x2, x3, x4, x5, x6, x7, x8⟩, rfl, fun z hz => ?_⟩
    simp only [numsY, List.mem_cons, List.not_mem_nil, or_false] at hz
    rcases hz with rfl | rfl | rfl | rfl | rfl | rfl | rfl | rfl | rfl <;> assumption
end

theorem equalIn_ry (x y : Ry) (w : World) : (Op.equalIn 10000 24 (.agg (encY x).toArray) (.agg (encY y).toArray)).run Try.prog w = .ok (decide (x = y)) w := by
  have u2 := Try.underlying2
  have a2 := Try.isAgg2
  have z2 := Try.sizeOf2
  have u3 := Try.underlying3
  have a3 := Try.isAgg3
  have z3 := Try.sizeOf3
  have u4 := Try.underlying22
  have a4 := Try.isAgg22
  have z4 := Try.sizeOf22
  have hS : Try.prog.underlying 24 = some (.struct (Try.prog.fieldsOf 24)) := by kernel_rfl
  have hp : Try.prog.stoodInHeld 24 = false := by kernel_rfl
  rw [show (10000 : Nat) = 9999 + 1 from rfl, run_equalIn_agg w 9999 24 _ _ hS hp]
  simp only [Program.fieldsOf, Try.underlying24]
  obtain ⟨x1, x2, x3, x4, x5, x6, x7, x8, x9⟩ := x
  obtain ⟨y1, y2, y3, y4, y5, y6, y7, y8, y9⟩ := y
  simp only [encY]
  go_simp
  by_cases h1 : x1 = y1
  · by_cases h2 : x2 = y2
    · by_cases h3 : x3 = y3
      · by_cases h4 : x4 = y4
        · by_cases h5 : x5 = y5
          · by_cases h6 : x6 = y6
            · by_cases h7 : x7 = y7
              · by_cases h8 : x8 = y8
                · by_cases h9 : x9 = y9 <;> simp [h1, h2, h3, h4, h5, h6, h7, h8, h9]
                · simp [h1, h2, h3, h4, h5, h6, h7, h8]
              · simp [h1, h2, h3, h4, h5, h6, h7]
            · simp [h1, h2, h3, h4, h5, h6]
          · simp [h1, h2, h3, h4, h5]
        · simp [h1, h2, h3, h4]
      · simp [h1, h2, h3]
    · simp [h1, h2]
  · simp [h1]
theorem ry_eql (x y : Ry) (w : World) : (binOp .eql 24 (.agg (encY x).toArray) (.agg (encY y).toArray)).run Try.prog w = .ok (.bool (decide (x = y))) w := by
  rw [run_eql_struct, equalIn_ry]; rfl
theorem ry_guard : Try.prog.eqGuardType Try.prog.depth 24 = false := by kernel_rfl

end Go.Proofs.Ytpdnppncdfialaa
