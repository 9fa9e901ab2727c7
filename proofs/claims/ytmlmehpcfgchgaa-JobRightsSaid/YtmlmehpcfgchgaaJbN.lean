/-
  Own words: requests and calls of a table as arguments.
-/
import Derived.Test.YtmlmehpcfgchgaaJbM
import Derived.Test.YtmlmehpcfgchgaaFlat
namespace Go.Proofs.Ytmlmehpcfgchgaa
open Go.RowKit Go.Lib Go.Sort
open Go.ChangeShapes Go.WideShapes Go.ChangeAt Go.Deep

section
variable {H : Type} {enc : TypeId × Value → H} {w : World} {base : Nat} {v : Value} {d : DataW H} {ps : List MemPlace}

def reqTs : List TypeId := [3, 3, 3, 3, 2, 3, 4, 3, 2]
def opTs : List TypeId := [3, 3, 3, 3, 3, 2, 3, 4, 3, 2, 3, 2, 3, 36]
theorem leaf_int {ts : List TypeId} {cs : List Value} (h : LeafAt enc Try.prog w 0 (fun _ => true) true ts cs) (j : Nat) {T : TypeId} {k : IntKind} {u : Value} (hT : ts[j]? = some T) (hu : Try.prog.underlying T = some (.int k)) (hc : cs[j]? = some u) : ∃ x, u = .int k x := by
  obtain ⟨_, _, t0⟩ := h j T u hT hc
  obtain ⟨x, hx, _, _⟩ := DataW.trod_int hu t0
  exact ⟨x, by simpa using hx⟩
theorem leaf_bool {ts : List TypeId} {cs : List Value} (h : LeafAt enc Try.prog w 0 (fun _ => true) true ts cs) (j : Nat) {T : TypeId} {u : Value} (hT : ts[j]? = some T) (hu : Try.prog.underlying T = some .bool) (hc : cs[j]? = some u) : ∃ x, u = .bool x := by
  obtain ⟨_, _, t0⟩ := h j T u hT hc
  obtain ⟨x, hx, _⟩ := DataW.trod_bool hu t0
  exact ⟨x, by simpa using hx⟩

/-- A request by value. -/
theorem req_of (hval : Value.okWide Try.prog w .any base 23 v) (hd : DataW.Trod enc Try.prog w 0 (fun _ => true) true 23 v d ps) : ∃ r : Rq, v = .agg (encR r).toArray := by
  obtain ⟨s, rfl, hl, hf⟩ := flat_of (n := 2) (ts := reqTs) Try.underlying23 (by kernel_rfl) (by kernel_rfl) hval hd
  match s, hl with
  | [a0, a1, a2, a3, a4, a5, a6, a7, a8], _ =>
    obtain ⟨x0, rfl⟩ := leaf_int hf 0 rfl Try.underlying3 rfl
    obtain ⟨x1, rfl⟩ := leaf_int hf 1 rfl Try.underlying3 rfl
    obtain ⟨x2, rfl⟩ := leaf_int hf 2 rfl Try.underlying3 rfl
    obtain ⟨x3, rfl⟩ := leaf_int hf 3 rfl Try.underlying3 rfl
    obtain ⟨x4, rfl⟩ := leaf_int hf 4 rfl Try.underlying2 rfl
    obtain ⟨x5, rfl⟩ := leaf_int hf 5 rfl Try.underlying3 rfl
    obtain ⟨x6, rfl⟩ := leaf_bool hf 6 rfl Try.underlying4 rfl
    obtain ⟨x7, rfl⟩ := leaf_int hf 7 rfl Try.underlying3 rfl
    obtain ⟨x8, rfl⟩ := leaf_int hf 8 rfl Try.underlying2 rfl
    exact ⟨⟨x0, x1, x2, x3, x4, x5, x6, x7, x8⟩, rfl⟩

/-- A list of calls. -/
theorem ops_of (hval : Value.okWide Try.prog w .any base 29 v) (hd : DataW.Trod enc Try.prog w 0 (fun _ => true) true 29 v d ps) : ∃ l : List Cl, RowAt encC 14 w v l := by
  obtain ⟨l, hr, hl⟩ := flats_of (n := 3) (ts := opTs) Try.underlying29 (by kernel_rfl) (by kernel_rfl) (by kernel_rfl) (by decide) hval hd
  have key : ∀ s ∈ l, ∃ o : Cl, encC o = s := by
    intro s hs
    obtain ⟨hlen, hf⟩ := hl s hs
    match s, hlen with
    | [a0, b0, b1, b2, b3, b4, b5, b6, b7, b8, a1, a2, a3, a4], _ =>
      obtain ⟨x0, rfl⟩ := leaf_int hf 0 rfl Try.underlying3 rfl
      obtain ⟨y0, rfl⟩ := leaf_int hf 1 rfl Try.underlying3 rfl
      obtain ⟨y1, rfl⟩ := leaf_int hf 2 rfl Try.underlying3 rfl
      obtain ⟨y2, rfl⟩ := leaf_int hf 3 rfl Try.underlying3 rfl
      obtain ⟨y3, rfl⟩ := leaf_int hf 4 rfl Try.underlying3 rfl
      obtain ⟨y4, rfl⟩ := leaf_int hf 5 rfl Try.underlying2 rfl
      obtain ⟨y5, rfl⟩ := leaf_int hf 6 rfl Try.underlying3 rfl
      obtain ⟨y6, rfl⟩ := leaf_bool hf 7 rfl Try.underlying4 rfl
      obtain ⟨y7, rfl⟩ := leaf_int hf 8 rfl Try.underlying3 rfl
      obtain ⟨y8, rfl⟩ := leaf_int hf 9 rfl Try.underlying2 rfl
      obtain ⟨x1, rfl⟩ := leaf_int hf 10 rfl Try.underlying3 rfl
      obtain ⟨x2, rfl⟩ := leaf_int hf 11 rfl Try.underlying2 rfl
      obtain ⟨x3, rfl⟩ := leaf_int hf 12 rfl Try.underlying3 rfl
      obtain ⟨x4, rfl⟩ := leaf_int hf 13 rfl Try.underlying36 rfl
      exact ⟨⟨x0, ⟨y0, y1, y2, y3, y4, y5, y6, y7, y8⟩, x1, x2, x3, x4⟩, rfl⟩
  obtain ⟨l', hl'⟩ : ∃ l' : List Cl, l'.map encC = l := by
    clear hr hl
    induction l with
    | nil => exact ⟨[], rfl⟩
    | cons a l ih =>
      obtain ⟨j, hj⟩ := key a (by simp)
      obtain ⟨l', h'⟩ := ih fun s hs => key s (by simp [hs])
      exact ⟨j :: l', by simp [hj, h']⟩
  subst hl'
  refine ⟨l', ?_⟩
  obtain ⟨ao, cap, rfl, q1, q2, q3⟩ := hr
  refine ⟨ao, cap, by simp, by simpa using q1, q2, fun hp => ?_⟩
  obtain ⟨b, off, e1, e2, e3⟩ := q3 (by simpa using hp)
  exact ⟨b, off, e1, e2, fun i s j u hi hj => e3 i (encC s) j u (by simp [hi]) hj⟩
end

end Go.Proofs.Ytmlmehpcfgchgaa
