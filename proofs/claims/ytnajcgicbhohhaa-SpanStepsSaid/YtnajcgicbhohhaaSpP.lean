/-
  The statement on steps: its walk.
-/
import Derived.Test.YtnajcgicbhohhaaSpE
import Derived.Test.YtnajcgicbhohhaaSpM
import Derived.Deep.QuietTactic
import Derived.BigQuiet
namespace Go.Proofs.Ytnajcgicbhohhaa
open Go.RowKit Go.Sort Go.Lib

theorem equalIn_span (x y : Sp) (w : World) : (Op.equalIn 10000 26 (.agg #[.int .i64 x.a, .int .i64 x.b, .int .i64 x.n]) (.agg #[.int .i64 y.a, .int .i64 y.b, .int .i64 y.n])).run Try.prog w = .ok (decide (x.a = y.a ∧ x.b = y.b ∧ x.n = y.n)) w := by
  have u2 := Try.underlying2
  have a2 := Try.isAgg2
  have z2 := Try.sizeOf2
  have u3 := Try.underlying3
  have a3 := Try.isAgg3
  have z3 := Try.sizeOf3
  have hS : Try.prog.underlying 26 = some (.struct (Try.prog.fieldsOf 26)) := by kernel_rfl
  have hp : Try.prog.stoodInHeld 26 = false := by kernel_rfl
  rw [show (10000 : Nat) = 9999 + 1 from rfl, run_equalIn_agg w 9999 26 _ _ hS hp]
  simp only [Program.fieldsOf, Try.underlying26]
  go_simp
  obtain ⟨x1, x2, x3⟩ := x
  obtain ⟨y1, y2, y3⟩ := y
  by_cases h1 : x1 = y1 <;> by_cases h2 : x2 = y2 <;> by_cases h3 : x3 = y3 <;> simp [h1, h2, h3]
theorem span_neq_same (x : Sp) (w : World) : (binOp .neq 26 (.agg #[.int .i64 x.a, .int .i64 x.b, .int .i64 x.n]) (.agg #[.int .i64 x.a, .int .i64 x.b, .int .i64 x.n])).run Try.prog w = .ok (.bool false) w := by
  rw [run_neq_struct, equalIn_span]; simp
theorem span_guard : Try.prog.eqGuardType Try.prog.depth 26 = false := by kernel_rfl

/-- The three cells of an element of an owned row of spans. -/
theorem span_of {w : World} {base g n cap : Nat} {e : TypeId} {l : List Sp} {x : Sp} (h : w.ownsRow base e 3 (.slice (some ⟨g, 0, none⟩) n cap) n (spV l)) {k : Nat} (hx : l[k]? = some x) :
    w.cell? ⟨g, k * 3, none⟩ = some (.int .i64 x.a) ∧ w.cell? ⟨g, k * 3 + 1, none⟩ = some (.int .i64 x.b) ∧ w.cell? ⟨g, k * 3 + 2, none⟩ = some (.int .i64 x.n) := by
  have key : ∀ (l : List Sp) (i : Nat), l[i]? = some x → (spV l)[i * 3]? = some (.int .i64 x.a) ∧ (spV l)[i * 3 + 1]? = some (.int .i64 x.b) ∧ (spV l)[i * 3 + 2]? = some (.int .i64 x.n) := by
    intro l
    induction l with
    | nil => intro i hi; simp at hi
    | cons a l ih =>
      intro i hi
      have e : spV (a :: l) = enc3 a ++ spV l := by simp [spV]
      rw [e]
      rcases i with _ | i
      · simp at hi; subst hi; exact ⟨rfl, rfl, rfl⟩
      · have := ih i (by simpa using hi)
        have hl : (enc3 a).length = 3 := rfl
        rw [List.getElem?_append_right (by omega), List.getElem?_append_right (by omega), List.getElem?_append_right (by omega), hl]
        have e1 : (i + 1) * 3 - 3 = i * 3 := by omega
        have e2 : (i + 1) * 3 + 1 - 3 = i * 3 + 1 := by omega
        have e3 : (i + 1) * 3 + 2 - 3 = i * 3 + 2 := by omega
        rw [e1, e2, e3]
        exact this
  obtain ⟨h0, h1, h2⟩ := key l k hx
  have c0 := h.cells (g := g) rfl _ _ h0
  have c1 := h.cells (g := g) rfl _ _ h1
  have c2 := h.cells (g := g) rfl _ _ h2
  rw [Go.WideShapes.add_plain] at c0 c1 c2
  simp only [Nat.zero_add] at c0 c1 c2
  exact ⟨c0, c1, c2⟩

/-- How many times of some lie behind a time. -/
def cntT (f : Int) (r : List Int) : Nat := (r.filter fun t => decide (f < t)).length
theorem cntT_yes {f x : Int} (r : List Int) (h : f < x) : cntT f (r ++ [x]) = cntT f r + 1 := by simp [cntT, h]
theorem cntT_no {f x : Int} (r : List Int) (h : ¬ f < x) : cntT f (r ++ [x]) = cntT f r := by simp [cntT, h]
theorem stepsR_at {all f : Int} {l : List Sp} {r : List Int} {k : Nat} {x : Int} (hx : r[k]? = some x) (h : f < x) : (stepsR all f l r)[cntT f (r.take k) + 1]? = some (x, all - usedF l x) := by
  obtain ⟨hk, rfl⟩ := List.getElem?_eq_some_iff.1 hx
  have hd : r = r.take k ++ r[k] :: r.drop (k + 1) := by rw [← List.drop_eq_getElem_cons hk, List.take_append_drop]
  unfold stepsR cntT
  rw [List.map_cons, List.getElem?_cons_succ, List.getElem?_map]
  have : (r.filter fun t => decide (f < t))[(List.filter (fun t => decide (f < t)) (r.take k)).length]? = some r[k] := by
    have key : ∀ (a b : List Int) (y : Int), f < y → ((a ++ y :: b).filter fun t => decide (f < t))[(List.filter (fun t => decide (f < t)) a).length]? = some y := by
      intro a b y hy
      rw [List.filter_append, List.filter_cons, if_pos (by simpa using hy), List.getElem?_append_right (Nat.le_refl _), Nat.sub_self]
      rfl
    have := key (r.take k) (r.drop (k + 1)) r[k] h
    rwa [← hd] at this
  rw [this]
  rfl
theorem stepsR_len {all f : Int} {l : List Sp} {r : List Int} : (stepsR all f l r).length = cntT f r + 1 := by simp [stepsR, cntT]

/-- Where the law stands behind k times: the last step that it has met. -/
def atK (all f : Int) (l : List Sp) (r : List Int) (k : Nat) : Nat := (keptK (stepsR all f l r) (cntT f (r.take k) + 1)).length - 1

theorem cnt_le (f : Int) (r : List Int) (k : Nat) : cntT f (r.take k) ≤ cntT f r := by
  unfold cntT
  exact ((List.take_sublist k r).filter _).length_le
theorem atK_zero (all f : Int) (l : List Sp) (r : List Int) : atK all f l r 0 = 0 := by
  unfold atK
  have : cntT f (r.take 0) = 0 := by simp [cntT]
  rw [this, keptK_one (stepsR all f l r) (f, all - usedF l f) rfl]
  rfl
theorem atK_end (all f : Int) (l : List Sp) (r : List Int) : atK all f l r r.length = (outF all f l r).length - 1 := by
  unfold atK outF
  rw [List.take_of_length_le (Nat.le_refl _), compF_keptK, stepsR_len]
/-- The step that it has met last, by its place; and how many nodes are free there. -/
theorem atK_get (all f : Int) (l : List Sp) (r : List Int) (k : Nat) : atK all f l r k < (outF all f l r).length ∧ ∃ y, (outF all f l r)[atK all f l r k]? = some y ∧ ∃ z, (stepsR all f l r)[cntT f (r.take k)]? = some z ∧ y.2 = z.2 := by
  have hz : (stepsR all f l r)[cntT f (r.take k)]? = some ((stepsR all f l r)[cntT f (r.take k)]'(by rw [stepsR_len]; have := cnt_le f r k; omega)) := List.getElem?_eq_getElem _
  obtain ⟨h1, h2, y, h3, h4⟩ := keptK_at (stepsR all f l r) (cntT f (r.take k)) _ hz
  refine ⟨?_, y, h3, _, hz, h4⟩
  unfold atK outF
  omega
/-- A time that is not behind the first changes nothing. -/
theorem atK_skip {all f : Int} {l : List Sp} {r : List Int} {k : Nat} {x : Int} (hx : r[k]? = some x) (h : ¬ f < x) : atK all f l r (k + 1) = atK all f l r k := by
  unfold atK
  rw [take_snoc hx, cntT_no _ h]
/-- A time behind it, at which as many are free as ahead. -/
theorem atK_same {all f : Int} {l : List Sp} {r : List Int} {k : Nat} {x : Int} {y : Int × Int} (hx : r[k]? = some x) (h : f < x) (hy : (outF all f l r)[atK all f l r k]? = some y) (he : all - usedF l x = y.2) : atK all f l r (k + 1) = atK all f l r k := by
  obtain ⟨_, y', hy', z, hz, hyz⟩ := atK_get all f l r k
  rw [hy] at hy'
  injection hy' with hy'
  subst hy'
  unfold atK
  rw [take_snoc hx, cntT_yes _ h, keptK_succ _ _ _ (stepsR_at hx h), kp_iff (stepsR_at hx h) hz]
  rw [if_neg (by simp; omega), List.append_nil]
/-- .. or another number. -/
theorem atK_next {all f : Int} {l : List Sp} {r : List Int} {k : Nat} {x : Int} {y : Int × Int} (hx : r[k]? = some x) (h : f < x) (hy : (outF all f l r)[atK all f l r k]? = some y) (he : ¬ all - usedF l x = y.2) :
    atK all f l r (k + 1) = atK all f l r k + 1 ∧ (outF all f l r)[atK all f l r k + 1]? = some (x, all - usedF l x) := by
  obtain ⟨_, y', hy', z, hz, hyz⟩ := atK_get all f l r k
  rw [hy] at hy'
  injection hy' with hy'
  subst hy'
  have hpos := (keptK_at (stepsR all f l r) (cntT f (r.take k)) _ hz).1
  have hnx : keptK (stepsR all f l r) (cntT f (r.take k) + 1 + 1) = keptK (stepsR all f l r) (cntT f (r.take k) + 1) ++ [(x, all - usedF l x)] := by
    rw [keptK_succ _ _ _ (stepsR_at hx h), kp_iff (stepsR_at hx h) hz, if_pos (by simp; omega)]
  have hlt : cntT f (r.take k) + 1 + 1 ≤ (stepsR all f l r).length := by
    have := (List.getElem?_eq_some_iff.1 (stepsR_at (all := all) (l := l) hx h)).1
    omega
  obtain ⟨s, hs⟩ := keptK_prefix (stepsR all f l r) _ _ hlt (Nat.le_refl _)
  have e1 : atK all f l r (k + 1) = atK all f l r k + 1 := by
    unfold atK
    rw [take_snoc hx, cntT_yes _ h, hnx, List.length_append, List.length_singleton]
    omega
  refine ⟨e1, ?_⟩
  have e2 : atK all f l r k + 1 = (keptK (stepsR all f l r) (cntT f (r.take k) + 1)).length := by unfold atK; omega
  rw [e2, outF, compF_keptK, hs, hnx, List.append_assoc, List.getElem?_append_right (Nat.le_refl _), Nat.sub_self]
  rfl

end Go.Proofs.Ytnajcgicbhohhaa
