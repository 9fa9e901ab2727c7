/-
  Own walks: any call of both; steps that are the same; a script of calls; the chapter's example.
-/
import Derived.Test.YtbnpeicmbbgboaaLwA
import Derived.Laws.StructEq
namespace Go.Proofs.Ytbnpeicmbbgboaa
set_option maxRecDepth 8000
open Go.RowKit Go.Sort Go.Lib

theorem equalIn_step (x y : Int × Int) (w : World) : (Op.equalIn 10000 49 (.agg #[.int .i64 x.1, .int .i64 x.2]) (.agg #[.int .i64 y.1, .int .i64 y.2])).run Try.prog w = .ok (decide (x = y)) w := by
  have u2 := Try.underlying2
  have a2 := Try.isAgg2
  have z2 := Try.sizeOf2
  have u3 := Try.underlying3
  have a3 := Try.isAgg3
  have z3 := Try.sizeOf3
  have hS : Try.prog.underlying 49 = some (.struct (Try.prog.fieldsOf 49)) := by kernel_rfl
  have hp : Try.prog.stoodInHeld 49 = false := by kernel_rfl
  rw [show (10000 : Nat) = 9999 + 1 from rfl, run_equalIn_agg w 9999 49 _ _ hS hp]
  simp only [Program.fieldsOf, Try.underlying49]
  go_simp
  obtain ⟨x1, x2⟩ := x
  obtain ⟨y1, y2⟩ := y
  by_cases h1 : x1 = y1 <;> by_cases h2 : x2 = y2 <;> simp [h1, h2]
theorem step_neq_same (x y : Int) (w : World) : (binOp .neq 49 (.agg #[.int .i64 x, .int .i64 y]) (.agg #[.int .i64 x, .int .i64 y])).run Try.prog w = .ok (.bool false) w := by
  have h := equalIn_step (x, y) (x, y) w
  rw [run_neq_struct, h]
  simp
theorem step_guard : Try.prog.eqGuardType Try.prog.depth 49 = false := by kernel_rfl

section
variable {B : Nat} {w w' w0 : World} {p g q k : Nat} {L : List (Int × Int)} {now F : Int} {E : List Sp} {ver : Int}

end

/-- A call of a script. -/
structure Cl where
  k : Int
  a : Int
  b : Int
  n : Int
def enc4 (s : Cl) : List Value := [.int .i64 s.k, .int .i64 s.a, .int .i64 s.b, .int .i64 s.n]

open Go.ChangeShapes Go.WideShapes Go.ChangeAt Go.Deep in
/-- What can be read of an argument that is a script. -/
theorem ops_of {H : Type} {enc : TypeId × Value → H} {P : Program} {w : World} {base : Nat} {t e : TypeId} {f0 f1 f2 f3 : Field} {v : Value} {d : DataW H} {ps : List MemPlace} (ht : P.underlying t = some (.slice e)) (he : P.underlying e = some (.struct #[f0, f1, f2, f3]))
    (hone : Go.Deep.oneCellFields P #[f0, f1, f2, f3] = true) (hc : P.cellsOf e = 4) (h0 : P.underlying f0.type = some (.int .i64)) (h1 : P.underlying f1.type = some (.int .i64)) (h2 : P.underlying f2.type = some (.int .i64)) (h3 : P.underlying f3.type = some (.int .i64))
    (hval : Value.okWide P w .any base t v) (hd : DataW.Trod enc P w 0 (fun _ => true) true t v d ps) : ∃ l, RowAt enc4 4 w v l := by
  obtain ⟨a0, len, cap, rfl⟩ := okWide_slice ht hval
  obtain ⟨fuel, hf⟩ := hd
  rcases open_slice_fields ht he hone (by rw [hc]; rfl) hf with ⟨hcs, _⟩ | ⟨a, len', cap', m, D, Pl, hcs, _, hl, hm, hmm, _, hi⟩
  · simp [Value.cells] at hcs
    obtain ⟨rfl, rfl, rfl⟩ := hcs
    exact ⟨[], RowAt.nil w⟩
  · simp [Value.cells] at hcs
    obtain ⟨rfl, rfl, rfl⟩ := hcs
    simp only [if_true] at hmm
    have hsp : ∀ i, i < len → ∃ s : Cl, w.cell? (a.add (i * 4 + 0)) = some (.int .i64 s.k) ∧ w.cell? (a.add (i * 4 + 1)) = some (.int .i64 s.a) ∧ w.cell? (a.add (i * 4 + 2)) = some (.int .i64 s.b) ∧ w.cell? (a.add (i * 4 + 3)) = some (.int .i64 s.n) := by
      intro i hil
      obtain ⟨ys, n, _, _, _, hfs⟩ := hi i (by omega)
      obtain ⟨v0, y0, c0, _, t0⟩ := hfs 0 f0 rfl
      obtain ⟨v1, y1, c1, _, t1⟩ := hfs 1 f1 rfl
      obtain ⟨v2, y2, c2, _, t2⟩ := hfs 2 f2 rfl
      obtain ⟨v3, y3, c3, _, t3⟩ := hfs 3 f3 rfl
      obtain ⟨x0, hx0, _, _⟩ := DataW.trod_int h0 t0
      obtain ⟨x1, hx1, _, _⟩ := DataW.trod_int h1 t1
      obtain ⟨x2, hx2, _, _⟩ := DataW.trod_int h2 t2
      obtain ⟨x3, hx3, _, _⟩ := DataW.trod_int h3 t3
      simp at hx0 hx1 hx2 hx3
      subst hx0 hx1 hx2 hx3
      exact ⟨⟨x0, x1, x2, x3⟩, c0, c1, c2, c3⟩
    have hpick : ∃ f : Nat → Cl, ∀ i, i < len → w.cell? (a.add (i * 4 + 0)) = some (.int .i64 (f i).k) ∧ w.cell? (a.add (i * 4 + 1)) = some (.int .i64 (f i).a) ∧ w.cell? (a.add (i * 4 + 2)) = some (.int .i64 (f i).b) ∧ w.cell? (a.add (i * 4 + 3)) = some (.int .i64 (f i).n) := by
      refine ⟨fun i => if h : i < len then Classical.choose (hsp i h) else ⟨0, 0, 0, 0⟩, fun i hil => ?_⟩
      simp only [dif_pos hil]
      exact Classical.choose_spec (hsp i hil)
    obtain ⟨f, hf'⟩ := hpick
    refine ⟨(List.range len).map f, ⟨some a, cap, by simp, by simpa using hl, hm, fun hp => ?_⟩⟩
    obtain ⟨b, off, spot⟩ := a
    have hp : 0 < len := by simpa using hp
    have hspot : spot = none := by simpa [Addr.add] using World.cell?_spot (hf' 0 hp).1
    subst hspot
    refine ⟨b, off, rfl, ?_, fun i s j u hi hj => ?_⟩
    · have := (hf' 0 hp).1
      rw [Go.WideShapes.add_plain] at this
      exact World.block_lt_of_cell? w ⟨b, _, none⟩ this
    · rw [List.getElem?_map] at hi
      obtain ⟨i', hi', rfl⟩ := Option.map_eq_some_iff.1 hi
      obtain ⟨hil, rfl⟩ := List.getElem?_eq_some_iff.1 hi'
      rw [List.length_range] at hil
      rw [List.getElem_range] at hj
      obtain ⟨c0, c1, c2, c3⟩ := hf' i hil
      rw [Go.WideShapes.add_plain] at c0 c1 c2 c3
      have hj3 : j < 4 := (List.getElem?_eq_some_iff.1 hj).1
      rcases (by omega : j = 0 ∨ j = 1 ∨ j = 2 ∨ j = 3) with rfl | rfl | rfl | rfl
      · simp [enc4] at hj; subst hj; exact c0
      · simp [enc4] at hj; subst hj; exact c1
      · simp [enc4] at hj; subst hj; exact c2
      · simp [enc4] at hj; subst hj; exact c3
/-- The four cells of a call. -/
theorem call_cells {w : World} {l : List Cl} {b off i : Nat} {s : Cl} (hc : ∀ i s j u, l[i]? = some s → (enc4 s)[j]? = some u → w.cell? ⟨b, off + (i * 4 + j), none⟩ = some u) (hs : l[i]? = some s) :
    w.cell? ⟨b, off + i * 4, none⟩ = some (.int .i64 s.k) ∧ w.cell? ⟨b, off + i * 4 + 1, none⟩ = some (.int .i64 s.a) ∧ w.cell? ⟨b, off + i * 4 + 2, none⟩ = some (.int .i64 s.b) ∧ w.cell? ⟨b, off + i * 4 + 3, none⟩ = some (.int .i64 s.n) :=
  ⟨hc i s 0 _ hs rfl, hc i s 1 _ hs rfl, hc i s 2 _ hs rfl, hc i s 3 _ hs rfl⟩

/-- A new profile, and the document's. -/
theorem XS_new {B : Nat} {w : World} {p g q : Nat} {n : Int} (hn : 0 ≤ n ∧ n ≤ 64) (h : PW w p g [(0, n)] 0) (hp : B ≤ p) (hg : B ≤ g) (hq : B ≤ q) (hh : w.heap[q]? = some (.cells #[.int .i64 n, .int .i64 0, .slice none 0 0, .int .i64 0] 61 (0, 0))) : XS B w p g q 0 [(0, n)] 0 n [] 0 := by
  have hr : raw n [] = fun _ => n := funext fun t => raw_nil n t
  refine ⟨h, ⟨hq, _, hh, World.ownsRow_nil _ _ _ _⟩, by rw [hr]; exact Can_new n, fun s hs => (by cases hs), fun t _ => by rw [raw_nil]; exact hn, hn, by omega, by simp, by simp, by omega, hp, hg⟩

/-- What a script makes of both. -/
def MadePost (w : World) (F : Int) (e : Ending) (w' : World) : Prop :=
  ∃ (p g q k : Nat) (L : List (Int × Int)) (now : Int) (E : List Sp) (ver : Int), e = .returned (.tuple #[.pointer (some ⟨p, 0, none⟩), .pointer (some ⟨q, 0, none⟩)]) ∧ k ≤ 30 ∧ XS w.heap.size w' p g q k L now F E ver ∧ Below w.heap.size w w'

/-! The chapter's example. -/
def exF : Int → Int := fun t => 4 + had 5 10 (-3) t
theorem exE : EarlP exF 0 6 2 10 0 := by
  refine .inl ⟨rfl, by omega, by omega, fun x h1 h2 => ?_, fun u h1 h2 hg => ?_⟩
  · unfold exF had; rw [if_neg (by omega)]; omega
  · have h3 := hg (max u 5) (by omega) (by omega)
    unfold exF had at h3
    rw [if_pos (by omega)] at h3
    omega
theorem exR {r dv : Int} {f' : Int → Int} (h : AddR (fun _ => 4) 0 5 10 (-3) r f' dv) : r = 0 ∧ f' = exF := by
  rcases h with ⟨a1, _⟩ | ⟨_, a2, _⟩ | ⟨_, _, ⟨t, _, _, a3⟩, _⟩ | ⟨_, _, _, a4, a5, _⟩
  · omega
  · omega
  · simp at a3
  · exact ⟨a4, a5⟩

end Go.Proofs.Ytbnpeicmbbgboaa
