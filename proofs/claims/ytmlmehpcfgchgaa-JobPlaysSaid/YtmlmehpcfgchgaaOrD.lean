/-
  Own words and walks: lists of jobs as arguments, the first sixty; what is asked of Sort and Behind.
-/
import Derived.Test.YtmlmehpcfgchgaaOrC
import Derived.Test.YtmlmehpcfgchgaaSbP
namespace Go.Proofs.Ytmlmehpcfgchgaa
open Go.RowKit Go.Lib Go.Sort

open Go.ChangeShapes Go.WideShapes Go.ChangeAt Go.Deep in
/-- What can be read of an argument that is a list of jobs. -/
theorem jobs_of {H : Type} {enc : TypeId × Value → H} {P : Program} {w : World} {base : Nat} {t e : TypeId} {f0 f1 f2 f3 f4 f5 f6 f7 f8 f9 : Field} {v : Value} {d : DataW H} {ps : List MemPlace} (ht : P.underlying t = some (.slice e)) (he : P.underlying e = some (.struct #[f0, f1, f2, f3, f4, f5, f6, f7, f8, f9]))
    (hone : oneCellFields P #[f0, f1, f2, f3, f4, f5, f6, f7, f8, f9] = true) (hc : P.cellsOf e = 10) (h0 : P.underlying f0.type = some (.int .i64)) (h1 : P.underlying f1.type = some (.int .i64)) (h2 : P.underlying f2.type = some (.int .i64)) (h3 : P.underlying f3.type = some (.int .i64)) (h4 : P.underlying f4.type = some (.int .i64)) (h5 : P.underlying f5.type = some (.int .i64)) (h6 : P.underlying f6.type = some (.int .i64)) (h7 : P.underlying f7.type = some (.int .i64)) (h8 : P.underlying f8.type = some (.int .i64)) (h9 : P.underlying f9.type = some (.int .u64))
    (hval : Value.okWide P w .any base t v) (hd : DataW.Trod enc P w 0 (fun _ => true) true t v d ps) : ∃ l : List Jb, RowAt encJ 10 w v l := by
  obtain ⟨l, hr, hl⟩ := structs_of ht he hone hc (by simp) hval hd
  have key : ∀ s ∈ l, ∃ j : Jb, encJ j = s := by
    intro s hs
    obtain ⟨hlen, hf⟩ := hl s hs
    match s, hlen with
    | [a0, a1, a2, a3, a4, a5, a6, a7, a8, a9], _ =>
      obtain ⟨_, _, t0⟩ := hf 0 f0 a0 rfl rfl
      obtain ⟨_, _, t1⟩ := hf 1 f1 a1 rfl rfl
      obtain ⟨_, _, t2⟩ := hf 2 f2 a2 rfl rfl
      obtain ⟨_, _, t3⟩ := hf 3 f3 a3 rfl rfl
      obtain ⟨_, _, t4⟩ := hf 4 f4 a4 rfl rfl
      obtain ⟨_, _, t5⟩ := hf 5 f5 a5 rfl rfl
      obtain ⟨_, _, t6⟩ := hf 6 f6 a6 rfl rfl
      obtain ⟨_, _, t7⟩ := hf 7 f7 a7 rfl rfl
      obtain ⟨_, _, t8⟩ := hf 8 f8 a8 rfl rfl
      obtain ⟨_, _, t9⟩ := hf 9 f9 a9 rfl rfl
      obtain ⟨x0, hx0, _, _⟩ := DataW.trod_int h0 t0
      obtain ⟨x1, hx1, _, _⟩ := DataW.trod_int h1 t1
      obtain ⟨x2, hx2, _, _⟩ := DataW.trod_int h2 t2
      obtain ⟨x3, hx3, _, _⟩ := DataW.trod_int h3 t3
      obtain ⟨x4, hx4, _, _⟩ := DataW.trod_int h4 t4
      obtain ⟨x5, hx5, _, _⟩ := DataW.trod_int h5 t5
      obtain ⟨x6, hx6, _, _⟩ := DataW.trod_int h6 t6
      obtain ⟨x7, hx7, _, _⟩ := DataW.trod_int h7 t7
      obtain ⟨x8, hx8, _, _⟩ := DataW.trod_int h8 t8
      obtain ⟨x9, hx9, _, _⟩ := DataW.trod_int h9 t9
      simp at hx0 hx1 hx2 hx3 hx4 hx5 hx6 hx7 hx8 hx9
      subst hx0 hx1 hx2 hx3 hx4 hx5 hx6 hx7 hx8 hx9
      exact ⟨(x0, x1, x2, x3, x4, x5, x6, x7, x8, x9), rfl⟩
  obtain ⟨l', hl'⟩ : ∃ l' : List Jb, l'.map encJ = l := by
    clear hr hl
    induction l with
    | nil => exact ⟨[], rfl⟩
    | cons a l ih =>
      obtain ⟨j, hj⟩ := key a (by simp)
      obtain ⟨l', h'⟩ := ih fun s hs => key s (by simp [hs])
      exact ⟨j :: l', by simp [hj, h']⟩
  subst hl'
  refine ⟨l', ?_⟩
  obtain ⟨ao, cap, rfl, q1, q2, q3⟩ := hr
  refine ⟨ao, cap, by simp, by simpa using q1, q2, fun hp => ?_⟩
  obtain ⟨b, off, e1, e2, e3⟩ := q3 (by simpa using hp)
  refine ⟨b, off, e1, e2, fun i s j u hi hj => e3 i (encJ s) j u (by simp [hi]) hj⟩

section
variable {w W : World} {v : Value} {l : List Jb}

/-- What a walk reads of a list of jobs, in a world that has only grown. -/
structure JRow (w : World) (b off : Nat) (l : List Jb) : Prop where
  lt : b < w.heap.size
  cell : ∀ i s j u, l[i]? = some s → (encJ s)[j]? = some u → w.cell? ⟨b, off + (i * 10 + j), none⟩ = some u
theorem JRow.below {b off : Nat} (h : JRow w b off l) (hb : Below w.heap.size w W) : JRow W b off l :=
  ⟨Nat.lt_of_lt_of_le h.lt hb.size, fun i s j u hi hj => by rw [hb.cell (p := ⟨b, _, none⟩) h.lt]; exact h.cell i s j u hi hj⟩
/-- An element is loaded, its size a variable. -/
theorem JRow.load {b off i k : Nat} (h : JRow w b off l) (hk : k = 10) (hi : i < l.length) : Sem.run Try.prog (loadCellsFrom ⟨b, off + i * k, none⟩ 0 k #[]) w = .ok (encJ l[i]!).toArray w := by
  subst hk
  refine run_loadCellsFrom_list Try.prog w _ _ 10 (encJ_len _) fun j u hj => ?_
  rw [Go.WideShapes.add_plain, Nat.add_assoc]
  exact h.cell i _ j u (by rw [List.getElem?_eq_getElem hi, getElem!_pos l i hi]) hj

end

end Go.Proofs.Ytmlmehpcfgchgaa
