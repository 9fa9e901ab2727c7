/-
  Own words: requests as they lie, as arguments, and when two are the same.
-/
import Derived.Test.YtojipdcckanbfaaChecked
import Derived.Test.YtojipdcckanbfaaFlat
import Derived.WalkKit
import Derived.WalkSpells
import Derived.WalkLawsBesides
import Derived.Deep.DeepMust
import Derived.Lib.Hide
import Derived.LaidEql
import Derived.Laws.StructEq
import Derived.Shelf.SlicesQ.Load
namespace Go.Proofs.Ytojipdcckanbfaa
open Go.RowKit Go.Lib
open Go.ChangeShapes Go.WideShapes Go.ChangeAt Go.Deep

/-- A request. -/
structure Rq where
  kind : Int
  id : Int
  user : Int
  width : Int
  limit : Int
  prio : Int
  held : Bool
  node : Int
  till : Int
deriving DecidableEq
def encR (r : Rq) : List Value := [.int .i64 r.kind, .int .i64 r.id, .int .i64 r.user, .int .i64 r.width, .int .i64 r.limit, .int .i64 r.prio, .bool r.held, .int .i64 r.node, .int .i64 r.till]
theorem aE_req : ∀ w, Sem.run Try.prog (isAgg 23) w = .ok true w := Try.isAgg23
theorem zE_req : ∀ w, Sem.run Try.prog (Go.sizeOf 23) w = .ok 9 w := Try.sizeOf23
theorem encR_len (r : Rq) : (encR r).length = 9 := rfl
theorem encR_one (r : Rq) : ∀ v ∈ encR r, v.oneCell' = true := by
  intro v hv
  simp [encR] at hv
  rcases hv with rfl | rfl | rfl | rfl | rfl | rfl | rfl | rfl | rfl <;> rfl
theorem req_cells {W : World} {p : Nat} {x : Rq} (h : W.heap[p]? = some (.cells (encR x).toArray 23 (0, 0))) : ∀ j u, (encR x)[j]? = some u → W.cell? ⟨p, j, none⟩ = some u := by
  intro j u hj
  simp [World.cell?, h, hj]
/-- A load of a request that lies in a block of its own, its size a variable. -/
theorem req_load {W : World} {p k : Nat} {x : Rq} (h : W.heap[p]? = some (.cells (encR x).toArray 23 (0, 0))) (hk : (encR x).length = k) : Sem.run Try.prog (loadCellsFrom ⟨p, 0, none⟩ 0 k #[]) W = .ok (encR x).toArray W := by
  refine run_loadCellsFrom_list Try.prog W _ _ k hk fun j u hj => ?_
  rw [Go.WideShapes.add_plain]
  simpa using req_cells h j u hj

section
variable {H : Type} {enc : TypeId × Value → H} {w : World} {base : Nat} {v : Value} {d : DataW H} {ps : List MemPlace}

def reqTs : List TypeId := [3, 3, 3, 3, 2, 3, 4, 3, 2]
theorem leaf_int {ts : List TypeId} {cs : List Value} (h : LeafAt enc Try.prog w 0 (fun _ => true) true ts cs) (j : Nat) {T : TypeId} {k : IntKind} {u : Value} (hT : ts[j]? = some T) (hu : Try.prog.underlying T = some (.int k)) (hc : cs[j]? = some u) : ∃ x, u = .int k x := by
  obtain ⟨_, _, t0⟩ := h j T u hT hc
  obtain ⟨x, hx, _, _⟩ := DataW.trod_int hu t0
  exact ⟨x, by simpa using hx⟩
theorem leaf_bool {ts : List TypeId} {cs : List Value} (h : LeafAt enc Try.prog w 0 (fun _ => true) true ts cs) (j : Nat) {T : TypeId} {u : Value} (hT : ts[j]? = some T) (hu : Try.prog.underlying T = some .bool) (hc : cs[j]? = some u) : ∃ x, u = .bool x := by
  obtain ⟨_, _, t0⟩ := h j T u hT hc
  obtain ⟨x, hx, _⟩ := DataW.trod_bool hu t0
  exact ⟨x, by simpa using hx⟩

theorem leaf_i64 {ts : List TypeId} {cs : List Value} (h : LeafAt enc Try.prog w 0 (fun _ => true) true ts cs) (j : Nat) {T : TypeId} {u : Value} (hT : ts[j]? = some T) (hu : Try.prog.underlying T = some (.int .i64)) (hc : cs[j]? = some u) : ∃ x, u = .int .i64 x ∧ -9223372036854775808 ≤ x ∧ x ≤ 9223372036854775807 := by
  obtain ⟨_, _, t0⟩ := h j T u hT hc
  obtain ⟨x, hx, _, hw⟩ := DataW.trod_int hu t0
  exact ⟨x, by simpa using hx, bounds_i64 hw⟩

/-- Each number of a request is one of its type. -/
structure FitsR (r : Rq) : Prop where
  kind : -9223372036854775808 ≤ r.kind ∧ r.kind ≤ 9223372036854775807
  id : -9223372036854775808 ≤ r.id ∧ r.id ≤ 9223372036854775807
  user : -9223372036854775808 ≤ r.user ∧ r.user ≤ 9223372036854775807
  width : -9223372036854775808 ≤ r.width ∧ r.width ≤ 9223372036854775807
  limit : -9223372036854775808 ≤ r.limit ∧ r.limit ≤ 9223372036854775807
  prio : -9223372036854775808 ≤ r.prio ∧ r.prio ≤ 9223372036854775807
  node : -9223372036854775808 ≤ r.node ∧ r.node ≤ 9223372036854775807
  till : -9223372036854775808 ≤ r.till ∧ r.till ≤ 9223372036854775807
/-- A request by value, its numbers in their bounds. -/
theorem req_fits (hval : Value.okWide Try.prog w .any base 23 v) (hd : DataW.Trod enc Try.prog w 0 (fun _ => true) true 23 v d ps) : ∃ r : Rq, v = .agg (encR r).toArray ∧ FitsR r := by
  obtain ⟨s, rfl, hl, hf⟩ := flat_of (n := 2) (ts := reqTs) Try.underlying23 (by kernel_rfl) (by kernel_rfl) hval hd
  match s, hl with
  | [a0, a1, a2, a3, a4, a5, a6, a7, a8], _ =>
    obtain ⟨x0, rfl, b0⟩ := leaf_i64 hf 0 rfl Try.underlying3 rfl
    obtain ⟨x1, rfl, b1⟩ := leaf_i64 hf 1 rfl Try.underlying3 rfl
    obtain ⟨x2, rfl, b2⟩ := leaf_i64 hf 2 rfl Try.underlying3 rfl
    obtain ⟨x3, rfl, b3⟩ := leaf_i64 hf 3 rfl Try.underlying3 rfl
    obtain ⟨x4, rfl, b4⟩ := leaf_i64 hf 4 rfl Try.underlying2 rfl
    obtain ⟨x5, rfl, b5⟩ := leaf_i64 hf 5 rfl Try.underlying3 rfl
    obtain ⟨x6, rfl⟩ := leaf_bool hf 6 rfl Try.underlying4 rfl
    obtain ⟨x7, rfl, b7⟩ := leaf_i64 hf 7 rfl Try.underlying3 rfl
    obtain ⟨x8, rfl, b8⟩ := leaf_i64 hf 8 rfl Try.underlying2 rfl
    exact ⟨⟨x0, x1, x2, x3, x4, x5, x6, x7, x8⟩, rfl, ⟨b0, b1, b2, b3, b4, b5, b7, b8⟩⟩
/-- A request by value. -/
theorem req_of (hval : Value.okWide Try.prog w .any base 23 v) (hd : DataW.Trod enc Try.prog w 0 (fun _ => true) true 23 v d ps) : ∃ r : Rq, v = .agg (encR r).toArray := by
  obtain ⟨r, h, _⟩ := req_fits hval hd
  exact ⟨r, h⟩
end

theorem equalIn_req (x y : Rq) (w : World) : (Op.equalIn 10000 23 (.agg (encR x).toArray) (.agg (encR y).toArray)).run Try.prog w = .ok (decide (x = y)) w := by
  have u2 := Try.underlying2
  have a2 := Try.isAgg2
  have z2 := Try.sizeOf2
  have u3 := Try.underlying3
  have a3 := Try.isAgg3
  have z3 := Try.sizeOf3
  have u4 := Try.underlying4
  have a4 := Try.isAgg4
  have z4 := Try.sizeOf4
  have hS : Try.prog.underlying 23 = some (.struct (Try.prog.fieldsOf 23)) := by kernel_rfl
  have hp : Try.prog.stoodInHeld 23 = false := by kernel_rfl
  rw [show (10000 : Nat) = 9999 + 1 from rfl, run_equalIn_agg w 9999 23 _ _ hS hp]
  simp only [Program.fieldsOf, Try.underlying23]
  obtain ⟨x1, x2, x3, x4, x5, x6, x7, x8, x9⟩ := x
  obtain ⟨y1, y2, y3, y4, y5, y6, y7, y8, y9⟩ := y
  simp only [encR]
  go_simp
  by_cases h1 : x1 = y1
  · by_cases h2 : x2 = y2
    · by_cases h3 : x3 = y3
      · by_cases h4 : x4 = y4
        · by_cases h5 : x5 = y5
          · by_cases h6 : x6 = y6
            · by_cases h7 : x7 = y7
              · by_cases h8 : x8 = y8
                · by_cases h9 : x9 = y9 <;> simp [h1, h2, h3, h4, h5, h6, h7, h8, h9]
                · simp [h1, h2, h3, h4, h5, h6, h7, h8]
              · simp [h1, h2, h3, h4, h5, h6, h7]
            · simp [h1, h2, h3, h4, h5, h6]
          · simp [h1, h2, h3, h4, h5]
        · simp [h1, h2, h3, h4]
      · simp [h1, h2, h3]
    · simp [h1, h2]
  · simp [h1]
theorem req_eql (x y : Rq) (w : World) : (binOp .eql 23 (.agg (encR x).toArray) (.agg (encR y).toArray)).run Try.prog w = .ok (.bool (decide (x = y))) w := by
  rw [run_eql_struct, equalIn_req]; rfl
theorem req_guard : Try.prog.eqGuardType Try.prog.depth 23 = false := by kernel_rfl

end Go.Proofs.Ytojipdcckanbfaa
