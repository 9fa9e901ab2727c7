/-
  Own walks: the program's locks: lane, Every, Needs, Is, Reads, and the statement's own table of them.
-/
import Derived.WalkKit
import Derived.WalkSpells
import Derived.WalkLawsBesides
import Derived.Lib.Hide
import Derived.Lib.MinMax
import Derived.Test.YthofobldpnoclaaChecked
import Derived.Laws.Rows
import Derived.Test.YthofobldpnoclaaRow
namespace Go.Proofs.Ythofobldpnoclaa
open Go.RowKit Go.Lib

def enO (x : Int) : List Value := [.int .i64 x]

/-- A new block of numbers is a list of them. -/
theorem nums_new (w : World) (b : Nat) (l : List Int) (hb : b = w.heap.size) (hl : l.length ≤ 1000) : RowAt enO 1 (w.alloc (.cells (l.flatMap enO).toArray 3)) (.slice (some ⟨b, 0, none⟩) l.length l.length) l := by
  subst hb
  have hlen : (l.flatMap enO).length = l.length := by
    clear hl
    induction l with
    | nil => rfl
    | cons a l ih => rw [List.flatMap_cons, List.length_append, ih, List.length_cons]; simp [enO]; omega
  have hnew := heap_alloc_new w (.cells (l.flatMap enO).toArray 3)
  refine ⟨_, _, rfl, Nat.le_refl _, by unfold maxLen; omega, fun hp => ⟨w.heap.size, 0, rfl, by simp, fun i s j u hi hj => ?_⟩⟩
  have hj0 : j = 0 := by
    have := (List.getElem?_eq_some_iff.1 hj).1
    simp [enO] at this
    exact this
  subst hj0
  have key : ∀ (l : List Int) (i : Nat), l[i]? = some s → (l.flatMap enO)[i]? = some u := by
    intro l
    induction l with
    | nil => intro i hi; simp at hi
    | cons a l ih =>
      intro i hi
      rcases i with _ | i
      · simp at hi
        subst hi
        simpa [enO] using hj
      · have := ih i (by simpa using hi)
        simpa [List.flatMap_cons, enO] using this
  have h2 := key l i hi
  simp only [World.cell?, hnew, Nat.zero_add, Nat.mul_one, Nat.add_zero]
  simpa using h2

/-- A cell of a block, stored into. -/
theorem heap_put {w : World} {g i : Nat} {cs : Array Value} {t : TypeId} {fr : Nat × Nat} (h : w.heap[g]? = some (.cells cs t fr)) (v : Value) : (w.setCell ⟨g, i, none⟩ v).heap[g]? = some (.cells (cs.setIfInBounds i v) t fr) := by
  simp [World.setCell, Array.getElem?_modify, h]
theorem heap_past {w : World} {g : Nat} {o o' : Obj} (h : w.heap[g]? = some o) : (w.alloc o').heap[g]? = some o := by
  have hlt : g < w.heap.size := by
    rcases Nat.lt_or_ge g w.heap.size with h1 | h1
    · exact h1
    · rw [Array.getElem?_eq_none h1] at h; cases h
  exact (Go.heap_alloc_old w o' hlt).trans h

def rowT (d : TypeDesc) : Bool := match d with | .struct _ | .array _ _ => true | _ => false
/-- A result that is a row of cells in a block of its own. -/
theorem ret_row {fn : Func} {K : Ending → World → Prop} {a : Act} {w : World} {p : Tmp} {ty : TypeId} {g : Nat} {t : TypeId} {cs : Array Value} {fr : Nat × Nat} {d : TypeDesc} (h : fn.results = #[.cell p ty]) (hd0 : a.defers = [])
    (hp : a.tmps.getD p undef = .pointer (some ⟨g, 0, none⟩)) (hg : w.heap[g]? = some (.cells cs t fr))
    (hu : Try.prog.underlying ty = some d) (hd : rowT d = true) (hi : (Try.prog.info? ty).map (·.size) = some cs.size)
    (hK : K (.returned (.agg cs)) w) : bodyPost Try.prog fn K .ret a w := bodyPost_ret (results_cell_row h a.tmps w g t cs fr d hp hg hu (by cases d <;> first | rfl | cases hd) hi) hd0 hK

/-- Which locks a lane has. -/
def laneV (a b c : Bool) : Value := .agg #[.bool a, .bool b, .bool c]
def inL (l : List Int) (j : Int) : Bool := decide (j ∈ l)

set_option maxRecDepth 100000 in
set_option maxHeartbeats 1000000 in
theorem lane_fn {w : World} {v : Value} {ps : List Int} (hr : RowAt enO 1 w v ps) (hin : ∀ x ∈ ps, x = 0 ∨ x = 1 ∨ x = 2) (hl : ps.length ≤ 10) : Calls Try.prog 17 #[v] w fun e w' => e = .returned (laneV (inL ps 0) (inL ps 1) (inL ps 2)) ∧ Below w.heap.size w w' := by
  obtain ⟨ao, cap, rfl, q1, q2, q3⟩ := hr
  obtain ⟨n, hn⟩ : ∃ n, ps.length = n := ⟨_, rfl⟩
  have HQ : Hid (∀ i, i < n → ∃ b off, ao = some ⟨b, off, none⟩ ∧ b < w.heap.size ∧ w.cell? ⟨b, off + i, none⟩ = some (.int .i64 ps[i]!)) := fun i hi => by
    obtain ⟨b, off, e, hb, hc⟩ := q3 (by omega)
    refine ⟨b, off, e, hb, ?_⟩
    have := hc i _ 0 _ (by rw [List.getElem?_eq_getElem (by omega), getElem!_pos ps i (by omega)]) (show (enO ps[i]!)[0]? = some _ from rfl)
    simpa using this
  have hcM : cap ≤ 9223372036854775807 := by unfold maxLen at q2; omega
  clear q3
  rw [hn] at q1 hl ⊢
  replace hn := Lib.hid hn
  have hin' := Lib.hid hin
  clear hin
  obtain ⟨w1, hw1⟩ : ∃ w1, w1 = w.alloc (.cells #[.bool false, .bool false, .bool false] 24) := ⟨_, rfl⟩
  have hb1 : Below w.heap.size w w1 := by rw [hw1]; exact (Below.refl _ _).alloc (Nat.le_refl _) _
  have hs1 : w1.heap.size = w.heap.size + 1 := by rw [hw1]; simp
  have hA1 : w1.heap[w.heap.size]? = some (.cells #[.bool false, .bool false, .bool false] 24 (0, 0)) := by rw [hw1]; exact heap_alloc_new w _
  have k0 : w1.cell? ⟨w.heap.size, 0, none⟩ = some (.bool false) := by simp [World.cell?, hA1]
  have k1 : w1.cell? ⟨w.heap.size, 1, none⟩ = some (.bool false) := by simp [World.cell?, hA1]
  have k2 : w1.cell? ⟨w.heap.size, 2, none⟩ = some (.bool false) := by simp [World.cell?, hA1]
  have f0 : w1.frozen? ⟨w.heap.size, 0, none⟩ = false := by simp [World.frozen?, hA1]
  have f1 : w1.frozen? ⟨w.heap.size, 1, none⟩ = false := by simp [World.frozen?, hA1]
  have f2 : w1.frozen? ⟨w.heap.size, 2, none⟩ = false := by simp [World.frozen?, hA1]
  go_enter Try.func17, Try.ntmps17
  go_wp2_with fail
  rw [← hw1]
  clear hw1
  go_loopw [8] (fun ii wr => ∃ (i : Nat), i ≤ n ∧ ii = .int .i64 i ∧ wr = w1.alloc (.cells #[.bool (inL (ps.take i) 0), .bool (inL (ps.take i) 1), .bool (inL (ps.take i) 2)] 24)) (fun ii _ => n - (intOf ii).toNat)
  case atStart => exact ⟨0, Nat.zero_le _, rfl, by simp [inL]⟩
  case round =>
    obtain ⟨i, hin2, rfl, rfl⟩ := hrel
    by_cases hlt : i < n
    · have b2 : (i : Int) < (n : Int) := by omega
      have wi : IntKind.i64.wrap ((i : Int) + 1) = (i : Int) + 1 := by rw [IntKind.wrap_i64]; omega
      obtain ⟨b, off, rfl, hb, c⟩ := HQ.out i hlt
      have c2 : w1.cell? ⟨b, off + i, none⟩ = some (.int .i64 ps[i]!) := (hb1.cell (p := ⟨b, _, none⟩) hb).trans c
      have c3 : (w1.alloc (.cells #[.bool (inL (ps.take i) 0), .bool (inL (ps.take i) 1), .bool (inL (ps.take i) 2)] 24)).cell? ⟨b, off + i, none⟩ = some (.int .i64 ps[i]!) := by
        exact (((Below.refl w1.heap.size w1).alloc (Nat.le_refl _) _).cell (p := ⟨b, _, none⟩) (show b < w1.heap.size by omega)).trans c2
      have hiL : i < ps.length := by have := hn.out; omega
      have hm : ∀ j, inL (ps.take (i + 1)) j = (inL (ps.take i) j || decide (j = ps[i]!)) := fun j => by
        unfold inL
        have e1 : ps.take (i + 1) = ps.take i ++ [ps[i]!] := by rw [List.take_add_one, List.getElem?_eq_getElem hiL, getElem!_pos ps i hiL, Option.toList_some]
        rw [e1, Bool.eq_iff_iff]
        generalize ps.take i = l0
        generalize ps[i]! = y
        simp [List.mem_append]
      have hy := hin'.out ps[i]! (by rw [getElem!_pos ps i hiL]; exact List.getElem_mem _)
      clear c c2
      have hm0 := hm 0
      have hm1 := hm 1
      have hm2 := hm 2
      clear hm
      generalize ps[i]! = y at *
      generalize inL (ps.take i) 0 = g0 at *
      generalize inL (ps.take i) 1 = g1 at *
      generalize inL (ps.take i) 2 = g2 at *
      have ss : w1.heap.size = w.heap.size + 1 := hs1
      rcases hy with rfl | rfl | rfl
      all_goals
        simp only [decide_true, Bool.or_true, show decide ((0 : Int) = 1) = false from rfl, show decide ((0 : Int) = 2) = false from rfl, show decide ((1 : Int) = 0) = false from rfl, show decide ((1 : Int) = 2) = false from rfl, show decide ((2 : Int) = 0) = false from rfl, show decide ((2 : Int) = 1) = false from rfl, Bool.or_false] at hm0 hm1 hm2
        replace hm0 := Lib.hid hm0
        replace hm1 := Lib.hid hm1
        replace hm2 := Lib.hid hm2
        go_wp2_with fail
        go_roundw
        case rel => exact ⟨i + 1, by omega, by go_num, by rw [hm0.out, hm1.out, hm2.out]⟩
        case measure => simp [intOf]; omega
    · obtain rfl : i = n := by omega
      have b2 : ¬ (i : Int) < (i : Int) := by omega
      have e1 : ps.take i = ps := List.take_of_length_le (by rw [hn.out]; exact Nat.le_refl _)
      rw [e1]
      obtain ⟨g0, hg0⟩ : ∃ g, g = inL ps 0 := ⟨_, rfl⟩
      obtain ⟨g1, hg1⟩ : ∃ g, g = inL ps 1 := ⟨_, rfl⟩
      obtain ⟨g2, hg2⟩ : ∃ g, g = inL ps 2 := ⟨_, rfl⟩
      rw [← hg0, ← hg1, ← hg2]
      replace hg0 := Lib.hid hg0
      replace hg1 := Lib.hid hg1
      replace hg2 := Lib.hid hg2
      clear e1 HQ
      go_wp2_with fail
      refine ret_row rfl rfl rfl (heap_past (heap_put (heap_put (heap_put hA1 _) _) _)) Try.underlying24 rfl (by kernel_rfl) ⟨by rw [← hg0.out, ← hg1.out, ← hg2.out]; rfl, ?_⟩
      exact (((hb1.setCell (Nat.le_refl _) _).setCell (Nat.le_refl _) _).setCell (Nat.le_refl _) _).alloc (by simp [hs1]) _

/-- Three cells of a block that can be stored into. -/
structure Three (w : World) (g : Nat) : Prop where
  h : w.heap[g]? = some (.cells #[.bool false, .bool false, .bool false] 24 (0, 0))
theorem Three.below {w w' : World} {g B : Nat} (h : Three w g) (hb : Below B w w') (hg : g < B) : Three w' g := ⟨(hb.block g hg).trans h.h⟩
theorem Three.cell {w : World} {g : Nat} (h : Three w g) : (w.cell? ⟨g, 0, none⟩ = some (.bool false) ∧ w.cell? ⟨g, 1, none⟩ = some (.bool false) ∧ w.cell? ⟨g, 2, none⟩ = some (.bool false)) ∧ w.frozen? ⟨g, 0, none⟩ = false ∧ w.frozen? ⟨g, 1, none⟩ = false ∧ w.frozen? ⟨g, 2, none⟩ = false := by
  have := h.h
  refine ⟨⟨?_, ?_, ?_⟩, ?_, ?_, ?_⟩ <;> simp [World.cell?, World.frozen?, this]
theorem Three.put {w : World} {g : Nat} (h : Three w g) (a b c : Bool) : (((w.setCell ⟨g, 0, none⟩ (.bool a)).setCell ⟨g, 1, none⟩ (.bool b)).setCell ⟨g, 2, none⟩ (.bool c)).heap[g]? = some (.cells #[.bool a, .bool b, .bool c] 24 (0, 0)) :=
  heap_put (heap_put (heap_put h.h _) _) _
theorem three_new (w : World) : Three (w.alloc (.cells #[.bool false, .bool false, .bool false] 24)) w.heap.size := ⟨heap_alloc_new w _⟩

set_option maxRecDepth 100000 in
set_option maxHeartbeats 1000000 in
theorem Every_fn (w : World) : Calls Try.prog 9 #[] w fun e w' => e = .returned (laneV true true true) ∧ Below w.heap.size w w' := by
  obtain ⟨w1, hw1⟩ : ∃ w1, w1 = w.alloc (.cells #[.bool false, .bool false, .bool false] 24) := ⟨_, rfl⟩
  have hT1 : Three w1 w.heap.size := by rw [hw1]; exact three_new w
  have hb1 : Below w.heap.size w w1 := by rw [hw1]; exact (Below.refl _ _).alloc (Nat.le_refl _) _
  have hs1 : w1.heap.size = w.heap.size + 1 := by rw [hw1]; simp
  have hr : RowAt enO 1 (w1.alloc (.cells #[.int .i64 0, .int .i64 1, .int .i64 2] 3)) (.slice (some ⟨w.heap.size + 1, 0, none⟩) 3 3) [0, 1, 2] := nums_new w1 _ [0, 1, 2] hs1.symm (by decide)
  have hb2 : Below (w.heap.size + 1) w1 (w1.alloc (.cells #[.int .i64 0, .int .i64 1, .int .i64 2] 3)) := (Below.refl _ _).alloc (by omega) _
  have hs2 : (w1.alloc (.cells #[.int .i64 0, .int .i64 1, .int .i64 2] 3)).heap.size = w.heap.size + 2 := by simp [hs1]
  have hc := lane_fn hr (by decide) (by decide)
  unfold laneV at hc
  rw [show inL [0, 1, 2] 0 = true from rfl, show inL [0, 1, 2] 1 = true from rfl, show inL [0, 1, 2] 2 = true from rfl] at hc
  clear hr
  rw [hw1] at hc
  go_enter Try.func9, Try.ntmps9
  go_wp2_with fail
  go_at_call 17
  refine hc.mono ?_
  clear hc
  rintro e w3 ⟨rfl, hb3⟩
  rw [← hw1] at hb3
  rw [hs2] at hb3
  have hT3 := (hT1.below hb2 (by omega)).below hb3 (by omega)
  have hbb : Below w.heap.size w w3 := (hb1.trans (hb2.mono (by omega))).trans (hb3.mono (by omega))
  clear hb2 hs2
  obtain ⟨⟨k0, k1, k2⟩, f0, f1, f2⟩ := hT3.cell
  clear hT1 hb1 hb3
  replace hT3 := Lib.hid hT3
  replace hw1 := Lib.hid hw1
  go_wp2_with fail
  refine ret_row rfl rfl rfl (hT3.out.put _ _ _) Try.underlying24 rfl (by kernel_rfl) ⟨rfl, ?_⟩
  exact ((hbb.setCell (Nat.le_refl _) _).setCell (Nat.le_refl _) _).setCell (Nat.le_refl _) _

set_option maxRecDepth 100000 in
set_option maxHeartbeats 1000000 in
theorem Needs_1 (w : World) : Calls Try.prog 7 #[.int .i64 1] w fun e w' => e = .returned (laneV true false true) ∧ Below w.heap.size w w' := by
  obtain ⟨w1, hw1⟩ : ∃ w1, w1 = w.alloc (.cells #[.bool false, .bool false, .bool false] 24) := ⟨_, rfl⟩
  have hT1 : Three w1 w.heap.size := by rw [hw1]; exact three_new w
  have hb1 : Below w.heap.size w w1 := by rw [hw1]; exact (Below.refl _ _).alloc (Nat.le_refl _) _
  have hs1 : w1.heap.size = w.heap.size + 1 := by rw [hw1]; simp
  have hr : RowAt enO 1 (w1.alloc (.cells #[.int .i64 0, .int .i64 2] 3)) (.slice (some ⟨w.heap.size + 1, 0, none⟩) 2 2) [0, 2] := nums_new w1 _ [0, 2] hs1.symm (by decide)
  have hb2 : Below (w.heap.size + 1) w1 (w1.alloc (.cells #[.int .i64 0, .int .i64 2] 3)) := (Below.refl _ _).alloc (by omega) _
  have hs2 : (w1.alloc (.cells #[.int .i64 0, .int .i64 2] 3)).heap.size = w.heap.size + 2 := by simp [hs1]
  have hc := lane_fn hr (by decide) (by decide)
  unfold laneV at hc
  rw [show inL [0, 2] 0 = true from rfl, show inL [0, 2] 1 = false from rfl, show inL [0, 2] 2 = true from rfl] at hc
  clear hr
  rw [hw1] at hc
  go_enter Try.func7, Try.ntmps7
  go_wp2_with fail
  go_at_call 17
  refine hc.mono ?_
  clear hc
  rintro e w3 ⟨rfl, hb3⟩
  rw [← hw1] at hb3
  rw [hs2] at hb3
  have hT3 := (hT1.below hb2 (by omega)).below hb3 (by omega)
  have hbb : Below w.heap.size w w3 := (hb1.trans (hb2.mono (by omega))).trans (hb3.mono (by omega))
  clear hb2 hs2
  obtain ⟨⟨k0, k1, k2⟩, f0, f1, f2⟩ := hT3.cell
  clear hT1 hb1 hb3
  replace hT3 := Lib.hid hT3
  replace hw1 := Lib.hid hw1
  go_wp2_with fail
  refine ret_row rfl rfl rfl (hT3.out.put _ _ _) Try.underlying24 rfl (by kernel_rfl) ⟨rfl, ?_⟩
  exact ((hbb.setCell (Nat.le_refl _) _).setCell (Nat.le_refl _) _).setCell (Nat.le_refl _) _

set_option maxRecDepth 100000 in
set_option maxHeartbeats 1000000 in
theorem Needs_3 (w : World) : Calls Try.prog 7 #[.int .i64 3] w fun e w' => e = .returned (laneV true false true) ∧ Below w.heap.size w w' := by
  obtain ⟨w1, hw1⟩ : ∃ w1, w1 = w.alloc (.cells #[.bool false, .bool false, .bool false] 24) := ⟨_, rfl⟩
  have hT1 : Three w1 w.heap.size := by rw [hw1]; exact three_new w
  have hb1 : Below w.heap.size w w1 := by rw [hw1]; exact (Below.refl _ _).alloc (Nat.le_refl _) _
  have hs1 : w1.heap.size = w.heap.size + 1 := by rw [hw1]; simp
  have hr : RowAt enO 1 (w1.alloc (.cells #[.int .i64 0, .int .i64 2] 3)) (.slice (some ⟨w.heap.size + 1, 0, none⟩) 2 2) [0, 2] := nums_new w1 _ [0, 2] hs1.symm (by decide)
  have hb2 : Below (w.heap.size + 1) w1 (w1.alloc (.cells #[.int .i64 0, .int .i64 2] 3)) := (Below.refl _ _).alloc (by omega) _
  have hs2 : (w1.alloc (.cells #[.int .i64 0, .int .i64 2] 3)).heap.size = w.heap.size + 2 := by simp [hs1]
  have hc := lane_fn hr (by decide) (by decide)
  unfold laneV at hc
  rw [show inL [0, 2] 0 = true from rfl, show inL [0, 2] 1 = false from rfl, show inL [0, 2] 2 = true from rfl] at hc
  clear hr
  rw [hw1] at hc
  go_enter Try.func7, Try.ntmps7
  go_wp2_with fail
  go_at_call 17
  refine hc.mono ?_
  clear hc
  rintro e w3 ⟨rfl, hb3⟩
  rw [← hw1] at hb3
  rw [hs2] at hb3
  have hT3 := (hT1.below hb2 (by omega)).below hb3 (by omega)
  have hbb : Below w.heap.size w w3 := (hb1.trans (hb2.mono (by omega))).trans (hb3.mono (by omega))
  clear hb2 hs2
  obtain ⟨⟨k0, k1, k2⟩, f0, f1, f2⟩ := hT3.cell
  clear hT1 hb1 hb3
  replace hT3 := Lib.hid hT3
  replace hw1 := Lib.hid hw1
  go_wp2_with fail
  refine ret_row rfl rfl rfl (hT3.out.put _ _ _) Try.underlying24 rfl (by kernel_rfl) ⟨rfl, ?_⟩
  exact ((hbb.setCell (Nat.le_refl _) _).setCell (Nat.le_refl _) _).setCell (Nat.le_refl _) _

set_option maxRecDepth 100000 in
set_option maxHeartbeats 1000000 in
theorem Needs_4 (w : World) : Calls Try.prog 7 #[.int .i64 4] w fun e w' => e = .returned (laneV true false true) ∧ Below w.heap.size w w' := by
  obtain ⟨w1, hw1⟩ : ∃ w1, w1 = w.alloc (.cells #[.bool false, .bool false, .bool false] 24) := ⟨_, rfl⟩
  have hT1 : Three w1 w.heap.size := by rw [hw1]; exact three_new w
  have hb1 : Below w.heap.size w w1 := by rw [hw1]; exact (Below.refl _ _).alloc (Nat.le_refl _) _
  have hs1 : w1.heap.size = w.heap.size + 1 := by rw [hw1]; simp
  have hr : RowAt enO 1 (w1.alloc (.cells #[.int .i64 0, .int .i64 2] 3)) (.slice (some ⟨w.heap.size + 1, 0, none⟩) 2 2) [0, 2] := nums_new w1 _ [0, 2] hs1.symm (by decide)
  have hb2 : Below (w.heap.size + 1) w1 (w1.alloc (.cells #[.int .i64 0, .int .i64 2] 3)) := (Below.refl _ _).alloc (by omega) _
  have hs2 : (w1.alloc (.cells #[.int .i64 0, .int .i64 2] 3)).heap.size = w.heap.size + 2 := by simp [hs1]
  have hc := lane_fn hr (by decide) (by decide)
  unfold laneV at hc
  rw [show inL [0, 2] 0 = true from rfl, show inL [0, 2] 1 = false from rfl, show inL [0, 2] 2 = true from rfl] at hc
  clear hr
  rw [hw1] at hc
  go_enter Try.func7, Try.ntmps7
  go_wp2_with fail
  go_at_call 17
  refine hc.mono ?_
  clear hc
  rintro e w3 ⟨rfl, hb3⟩
  rw [← hw1] at hb3
  rw [hs2] at hb3
  have hT3 := (hT1.below hb2 (by omega)).below hb3 (by omega)
  have hbb : Below w.heap.size w w3 := (hb1.trans (hb2.mono (by omega))).trans (hb3.mono (by omega))
  clear hb2 hs2
  obtain ⟨⟨k0, k1, k2⟩, f0, f1, f2⟩ := hT3.cell
  clear hT1 hb1 hb3
  replace hT3 := Lib.hid hT3
  replace hw1 := Lib.hid hw1
  go_wp2_with fail
  refine ret_row rfl rfl rfl (hT3.out.put _ _ _) Try.underlying24 rfl (by kernel_rfl) ⟨rfl, ?_⟩
  exact ((hbb.setCell (Nat.le_refl _) _).setCell (Nat.le_refl _) _).setCell (Nat.le_refl _) _

set_option maxRecDepth 100000 in
set_option maxHeartbeats 1000000 in
theorem Needs_6 (w : World) : Calls Try.prog 7 #[.int .i64 6] w fun e w' => e = .returned (laneV true false false) ∧ Below w.heap.size w w' := by
  obtain ⟨w1, hw1⟩ : ∃ w1, w1 = w.alloc (.cells #[.bool false, .bool false, .bool false] 24) := ⟨_, rfl⟩
  have hT1 : Three w1 w.heap.size := by rw [hw1]; exact three_new w
  have hb1 : Below w.heap.size w w1 := by rw [hw1]; exact (Below.refl _ _).alloc (Nat.le_refl _) _
  have hs1 : w1.heap.size = w.heap.size + 1 := by rw [hw1]; simp
  have hr : RowAt enO 1 (w1.alloc (.cells #[.int .i64 0] 3)) (.slice (some ⟨w.heap.size + 1, 0, none⟩) 1 1) [0] := nums_new w1 _ [0] hs1.symm (by decide)
  have hb2 : Below (w.heap.size + 1) w1 (w1.alloc (.cells #[.int .i64 0] 3)) := (Below.refl _ _).alloc (by omega) _
  have hs2 : (w1.alloc (.cells #[.int .i64 0] 3)).heap.size = w.heap.size + 2 := by simp [hs1]
  have hc := lane_fn hr (by decide) (by decide)
  unfold laneV at hc
  rw [show inL [0] 0 = true from rfl, show inL [0] 1 = false from rfl, show inL [0] 2 = false from rfl] at hc
  clear hr
  rw [hw1] at hc
  go_enter Try.func7, Try.ntmps7
  go_wp2_with fail
  go_at_call 17
  refine hc.mono ?_
  clear hc
  rintro e w3 ⟨rfl, hb3⟩
  rw [← hw1] at hb3
  rw [hs2] at hb3
  have hT3 := (hT1.below hb2 (by omega)).below hb3 (by omega)
  have hbb : Below w.heap.size w w3 := (hb1.trans (hb2.mono (by omega))).trans (hb3.mono (by omega))
  clear hb2 hs2
  obtain ⟨⟨k0, k1, k2⟩, f0, f1, f2⟩ := hT3.cell
  clear hT1 hb1 hb3
  replace hT3 := Lib.hid hT3
  replace hw1 := Lib.hid hw1
  go_wp2_with fail
  refine ret_row rfl rfl rfl (hT3.out.put _ _ _) Try.underlying24 rfl (by kernel_rfl) ⟨rfl, ?_⟩
  exact ((hbb.setCell (Nat.le_refl _) _).setCell (Nat.le_refl _) _).setCell (Nat.le_refl _) _

set_option maxRecDepth 100000 in
set_option maxHeartbeats 1000000 in
theorem Needs_11 (w : World) : Calls Try.prog 7 #[.int .i64 11] w fun e w' => e = .returned (laneV true false false) ∧ Below w.heap.size w w' := by
  obtain ⟨w1, hw1⟩ : ∃ w1, w1 = w.alloc (.cells #[.bool false, .bool false, .bool false] 24) := ⟨_, rfl⟩
  have hT1 : Three w1 w.heap.size := by rw [hw1]; exact three_new w
  have hb1 : Below w.heap.size w w1 := by rw [hw1]; exact (Below.refl _ _).alloc (Nat.le_refl _) _
  have hs1 : w1.heap.size = w.heap.size + 1 := by rw [hw1]; simp
  have hr : RowAt enO 1 (w1.alloc (.cells #[.int .i64 0] 3)) (.slice (some ⟨w.heap.size + 1, 0, none⟩) 1 1) [0] := nums_new w1 _ [0] hs1.symm (by decide)
  have hb2 : Below (w.heap.size + 1) w1 (w1.alloc (.cells #[.int .i64 0] 3)) := (Below.refl _ _).alloc (by omega) _
  have hs2 : (w1.alloc (.cells #[.int .i64 0] 3)).heap.size = w.heap.size + 2 := by simp [hs1]
  have hc := lane_fn hr (by decide) (by decide)
  unfold laneV at hc
  rw [show inL [0] 0 = true from rfl, show inL [0] 1 = false from rfl, show inL [0] 2 = false from rfl] at hc
  clear hr
  rw [hw1] at hc
  go_enter Try.func7, Try.ntmps7
  go_wp2_with fail
  go_at_call 17
  refine hc.mono ?_
  clear hc
  rintro e w3 ⟨rfl, hb3⟩
  rw [← hw1] at hb3
  rw [hs2] at hb3
  have hT3 := (hT1.below hb2 (by omega)).below hb3 (by omega)
  have hbb : Below w.heap.size w w3 := (hb1.trans (hb2.mono (by omega))).trans (hb3.mono (by omega))
  clear hb2 hs2
  obtain ⟨⟨k0, k1, k2⟩, f0, f1, f2⟩ := hT3.cell
  clear hT1 hb1 hb3
  replace hT3 := Lib.hid hT3
  replace hw1 := Lib.hid hw1
  go_wp2_with fail
  refine ret_row rfl rfl rfl (hT3.out.put _ _ _) Try.underlying24 rfl (by kernel_rfl) ⟨rfl, ?_⟩
  exact ((hbb.setCell (Nat.le_refl _) _).setCell (Nat.le_refl _) _).setCell (Nat.le_refl _) _

set_option maxRecDepth 100000 in
set_option maxHeartbeats 1000000 in
theorem Needs_10 (w : World) : Calls Try.prog 7 #[.int .i64 10] w fun e w' => e = .returned (laneV false true false) ∧ Below w.heap.size w w' := by
  obtain ⟨w1, hw1⟩ : ∃ w1, w1 = w.alloc (.cells #[.bool false, .bool false, .bool false] 24) := ⟨_, rfl⟩
  have hT1 : Three w1 w.heap.size := by rw [hw1]; exact three_new w
  have hb1 : Below w.heap.size w w1 := by rw [hw1]; exact (Below.refl _ _).alloc (Nat.le_refl _) _
  have hs1 : w1.heap.size = w.heap.size + 1 := by rw [hw1]; simp
  have hr : RowAt enO 1 (w1.alloc (.cells #[.int .i64 1] 3)) (.slice (some ⟨w.heap.size + 1, 0, none⟩) 1 1) [1] := nums_new w1 _ [1] hs1.symm (by decide)
  have hb2 : Below (w.heap.size + 1) w1 (w1.alloc (.cells #[.int .i64 1] 3)) := (Below.refl _ _).alloc (by omega) _
  have hs2 : (w1.alloc (.cells #[.int .i64 1] 3)).heap.size = w.heap.size + 2 := by simp [hs1]
  have hc := lane_fn hr (by decide) (by decide)
  unfold laneV at hc
  rw [show inL [1] 0 = false from rfl, show inL [1] 1 = true from rfl, show inL [1] 2 = false from rfl] at hc
  clear hr
  rw [hw1] at hc
  go_enter Try.func7, Try.ntmps7
  go_wp2_with fail
  go_at_call 17
  refine hc.mono ?_
  clear hc
  rintro e w3 ⟨rfl, hb3⟩
  rw [← hw1] at hb3
  rw [hs2] at hb3
  have hT3 := (hT1.below hb2 (by omega)).below hb3 (by omega)
  have hbb : Below w.heap.size w w3 := (hb1.trans (hb2.mono (by omega))).trans (hb3.mono (by omega))
  clear hb2 hs2
  obtain ⟨⟨k0, k1, k2⟩, f0, f1, f2⟩ := hT3.cell
  clear hT1 hb1 hb3
  replace hT3 := Lib.hid hT3
  replace hw1 := Lib.hid hw1
  go_wp2_with fail
  refine ret_row rfl rfl rfl (hT3.out.put _ _ _) Try.underlying24 rfl (by kernel_rfl) ⟨rfl, ?_⟩
  exact ((hbb.setCell (Nat.le_refl _) _).setCell (Nat.le_refl _) _).setCell (Nat.le_refl _) _

set_option maxRecDepth 100000 in
set_option maxHeartbeats 1000000 in
theorem Needs_12 (w : World) : Calls Try.prog 7 #[.int .i64 12] w fun e w' => e = .returned (laneV false false true) ∧ Below w.heap.size w w' := by
  obtain ⟨w1, hw1⟩ : ∃ w1, w1 = w.alloc (.cells #[.bool false, .bool false, .bool false] 24) := ⟨_, rfl⟩
  have hT1 : Three w1 w.heap.size := by rw [hw1]; exact three_new w
  have hb1 : Below w.heap.size w w1 := by rw [hw1]; exact (Below.refl _ _).alloc (Nat.le_refl _) _
  have hs1 : w1.heap.size = w.heap.size + 1 := by rw [hw1]; simp
  have hr : RowAt enO 1 (w1.alloc (.cells #[.int .i64 2] 3)) (.slice (some ⟨w.heap.size + 1, 0, none⟩) 1 1) [2] := nums_new w1 _ [2] hs1.symm (by decide)
  have hb2 : Below (w.heap.size + 1) w1 (w1.alloc (.cells #[.int .i64 2] 3)) := (Below.refl _ _).alloc (by omega) _
  have hs2 : (w1.alloc (.cells #[.int .i64 2] 3)).heap.size = w.heap.size + 2 := by simp [hs1]
  have hc := lane_fn hr (by decide) (by decide)
  unfold laneV at hc
  rw [show inL [2] 0 = false from rfl, show inL [2] 1 = false from rfl, show inL [2] 2 = true from rfl] at hc
  clear hr
  rw [hw1] at hc
  go_enter Try.func7, Try.ntmps7
  go_wp2_with fail
  go_at_call 17
  refine hc.mono ?_
  clear hc
  rintro e w3 ⟨rfl, hb3⟩
  rw [← hw1] at hb3
  rw [hs2] at hb3
  have hT3 := (hT1.below hb2 (by omega)).below hb3 (by omega)
  have hbb : Below w.heap.size w w3 := (hb1.trans (hb2.mono (by omega))).trans (hb3.mono (by omega))
  clear hb2 hs2
  obtain ⟨⟨k0, k1, k2⟩, f0, f1, f2⟩ := hT3.cell
  clear hT1 hb1 hb3
  replace hT3 := Lib.hid hT3
  replace hw1 := Lib.hid hw1
  go_wp2_with fail
  refine ret_row rfl rfl rfl (hT3.out.put _ _ _) Try.underlying24 rfl (by kernel_rfl) ⟨rfl, ?_⟩
  exact ((hbb.setCell (Nat.le_refl _) _).setCell (Nat.le_refl _) _).setCell (Nat.le_refl _) _

set_option maxRecDepth 100000 in
set_option maxHeartbeats 1000000 in
theorem Needs_no (k : Int) (w : World) (h1 : k ≠ 1) (h3 : k ≠ 3) (h4 : k ≠ 4) (h2 : k ≠ 2) (h5 : k ≠ 5) (h7 : k ≠ 7) (h8 : k ≠ 8) (h9 : k ≠ 9) (h6 : k ≠ 6) (h11 : k ≠ 11) (h10 : k ≠ 10) (h12 : k ≠ 12) : Calls Try.prog 7 #[.int .i64 k] w fun e w' => e = .returned (laneV false false false) ∧ Below w.heap.size w w' := by
  have t1 : (k == 1) = false := beq_eq_false_iff_ne.2 h1
  have t3 : (k == 3) = false := beq_eq_false_iff_ne.2 h3
  have t4 : (k == 4) = false := beq_eq_false_iff_ne.2 h4
  have t2 : (k == 2) = false := beq_eq_false_iff_ne.2 h2
  have t5 : (k == 5) = false := beq_eq_false_iff_ne.2 h5
  have t7 : (k == 7) = false := beq_eq_false_iff_ne.2 h7
  have t8 : (k == 8) = false := beq_eq_false_iff_ne.2 h8
  have t9 : (k == 9) = false := beq_eq_false_iff_ne.2 h9
  have t6 : (k == 6) = false := beq_eq_false_iff_ne.2 h6
  have t11 : (k == 11) = false := beq_eq_false_iff_ne.2 h11
  have t10 : (k == 10) = false := beq_eq_false_iff_ne.2 h10
  have t12 : (k == 12) = false := beq_eq_false_iff_ne.2 h12
  clear h1 h3 h4 h2 h5 h7 h8 h9 h6 h11 h10 h12
  obtain ⟨w1, hw1⟩ : ∃ w1, w1 = w.alloc (.cells #[.bool false, .bool false, .bool false] 24) := ⟨_, rfl⟩
  have hT1 : Three w1 w.heap.size := by rw [hw1]; exact three_new w
  have hb1 : Below w.heap.size w w1 := by rw [hw1]; exact (Below.refl _ _).alloc (Nat.le_refl _) _
  have hs1 : w1.heap.size = w.heap.size + 1 := by rw [hw1]; simp
  have hr : RowAt enO 1 w1 (.slice none 0 0) ([] : List Int) := RowAt.nil w1
  have hc := lane_fn hr (by decide) (by decide)
  unfold laneV at hc
  rw [show inL ([] : List Int) 0 = false from rfl, show inL ([] : List Int) 1 = false from rfl, show inL ([] : List Int) 2 = false from rfl] at hc
  clear hr
  rw [hw1] at hc
  go_enter Try.func7, Try.ntmps7
  go_wp2_with fail
  go_at_call 17
  refine hc.mono ?_
  clear hc
  rintro e w3 ⟨rfl, hb3⟩
  rw [← hw1] at hb3
  rw [hs1] at hb3
  have hT3 := hT1.below hb3 (by omega)
  have hbb : Below w.heap.size w w3 := hb1.trans (hb3.mono (by omega))
  obtain ⟨⟨k0, k1, k2⟩, f0, f1, f2⟩ := hT3.cell
  clear hT1 hb1 hb3
  replace hT3 := Lib.hid hT3
  replace hw1 := Lib.hid hw1
  go_wp2_with fail
  refine ret_row rfl rfl rfl (hT3.out.put _ _ _) Try.underlying24 rfl (by kernel_rfl) ⟨rfl, ?_⟩
  exact ((hbb.setCell (Nat.le_refl _) _).setCell (Nat.le_refl _) _).setCell (Nat.le_refl _) _

set_option maxRecDepth 100000 in
set_option maxHeartbeats 1000000 in
theorem Needs_2 (w : World) : Calls Try.prog 7 #[.int .i64 2] w fun e w' => e = .returned (laneV true true true) ∧ Below w.heap.size w w' := by
  obtain ⟨w1, hw1⟩ : ∃ w1, w1 = w.alloc (.cells #[.bool false, .bool false, .bool false] 24) := ⟨_, rfl⟩
  have hT1 : Three w1 w.heap.size := by rw [hw1]; exact three_new w
  have hb1 : Below w.heap.size w w1 := by rw [hw1]; exact (Below.refl _ _).alloc (Nat.le_refl _) _
  have hs1 : w1.heap.size = w.heap.size + 1 := by rw [hw1]; simp
  have hc := Every_fn w1
  unfold laneV at hc
  rw [hw1] at hc
  go_enter Try.func7, Try.ntmps7
  go_wp2_with fail
  go_at_call 9
  refine hc.mono ?_
  clear hc
  rintro e w3 ⟨rfl, hb3⟩
  rw [← hw1] at hb3
  rw [hs1] at hb3
  have hT3 := hT1.below hb3 (by omega)
  have hbb : Below w.heap.size w w3 := hb1.trans (hb3.mono (by omega))
  obtain ⟨⟨k0, k1, k2⟩, f0, f1, f2⟩ := hT3.cell
  clear hT1 hb1 hb3
  replace hT3 := Lib.hid hT3
  replace hw1 := Lib.hid hw1
  go_wp2_with fail
  refine ret_row rfl rfl rfl (hT3.out.put _ _ _) Try.underlying24 rfl (by kernel_rfl) ⟨rfl, ?_⟩
  exact ((hbb.setCell (Nat.le_refl _) _).setCell (Nat.le_refl _) _).setCell (Nat.le_refl _) _

set_option maxRecDepth 100000 in
set_option maxHeartbeats 1000000 in
theorem Needs_5 (w : World) : Calls Try.prog 7 #[.int .i64 5] w fun e w' => e = .returned (laneV true true true) ∧ Below w.heap.size w w' := by
  obtain ⟨w1, hw1⟩ : ∃ w1, w1 = w.alloc (.cells #[.bool false, .bool false, .bool false] 24) := ⟨_, rfl⟩
  have hT1 : Three w1 w.heap.size := by rw [hw1]; exact three_new w
  have hb1 : Below w.heap.size w w1 := by rw [hw1]; exact (Below.refl _ _).alloc (Nat.le_refl _) _
  have hs1 : w1.heap.size = w.heap.size + 1 := by rw [hw1]; simp
  have hc := Every_fn w1
  unfold laneV at hc
  rw [hw1] at hc
  go_enter Try.func7, Try.ntmps7
  go_wp2_with fail
  go_at_call 9
  refine hc.mono ?_
  clear hc
  rintro e w3 ⟨rfl, hb3⟩
  rw [← hw1] at hb3
  rw [hs1] at hb3
  have hT3 := hT1.below hb3 (by omega)
  have hbb : Below w.heap.size w w3 := hb1.trans (hb3.mono (by omega))
  obtain ⟨⟨k0, k1, k2⟩, f0, f1, f2⟩ := hT3.cell
  clear hT1 hb1 hb3
  replace hT3 := Lib.hid hT3
  replace hw1 := Lib.hid hw1
  go_wp2_with fail
  refine ret_row rfl rfl rfl (hT3.out.put _ _ _) Try.underlying24 rfl (by kernel_rfl) ⟨rfl, ?_⟩
  exact ((hbb.setCell (Nat.le_refl _) _).setCell (Nat.le_refl _) _).setCell (Nat.le_refl _) _

set_option maxRecDepth 100000 in
set_option maxHeartbeats 1000000 in
theorem Needs_7 (w : World) : Calls Try.prog 7 #[.int .i64 7] w fun e w' => e = .returned (laneV true true true) ∧ Below w.heap.size w w' := by
  obtain ⟨w1, hw1⟩ : ∃ w1, w1 = w.alloc (.cells #[.bool false, .bool false, .bool false] 24) := ⟨_, rfl⟩
  have hT1 : Three w1 w.heap.size := by rw [hw1]; exact three_new w
  have hb1 : Below w.heap.size w w1 := by rw [hw1]; exact (Below.refl _ _).alloc (Nat.le_refl _) _
  have hs1 : w1.heap.size = w.heap.size + 1 := by rw [hw1]; simp
  have hc := Every_fn w1
  unfold laneV at hc
  rw [hw1] at hc
  go_enter Try.func7, Try.ntmps7
  go_wp2_with fail
  go_at_call 9
  refine hc.mono ?_
  clear hc
  rintro e w3 ⟨rfl, hb3⟩
  rw [← hw1] at hb3
  rw [hs1] at hb3
  have hT3 := hT1.below hb3 (by omega)
  have hbb : Below w.heap.size w w3 := hb1.trans (hb3.mono (by omega))
  obtain ⟨⟨k0, k1, k2⟩, f0, f1, f2⟩ := hT3.cell
  clear hT1 hb1 hb3
  replace hT3 := Lib.hid hT3
  replace hw1 := Lib.hid hw1
  go_wp2_with fail
  refine ret_row rfl rfl rfl (hT3.out.put _ _ _) Try.underlying24 rfl (by kernel_rfl) ⟨rfl, ?_⟩
  exact ((hbb.setCell (Nat.le_refl _) _).setCell (Nat.le_refl _) _).setCell (Nat.le_refl _) _

set_option maxRecDepth 100000 in
set_option maxHeartbeats 1000000 in
theorem Needs_8 (w : World) : Calls Try.prog 7 #[.int .i64 8] w fun e w' => e = .returned (laneV true true true) ∧ Below w.heap.size w w' := by
  obtain ⟨w1, hw1⟩ : ∃ w1, w1 = w.alloc (.cells #[.bool false, .bool false, .bool false] 24) := ⟨_, rfl⟩
  have hT1 : Three w1 w.heap.size := by rw [hw1]; exact three_new w
  have hb1 : Below w.heap.size w w1 := by rw [hw1]; exact (Below.refl _ _).alloc (Nat.le_refl _) _
  have hs1 : w1.heap.size = w.heap.size + 1 := by rw [hw1]; simp
  have hc := Every_fn w1
  unfold laneV at hc
  rw [hw1] at hc
  go_enter Try.func7, Try.ntmps7
  go_wp2_with fail
  go_at_call 9
  refine hc.mono ?_
  clear hc
  rintro e w3 ⟨rfl, hb3⟩
  rw [← hw1] at hb3
  rw [hs1] at hb3
  have hT3 := hT1.below hb3 (by omega)
  have hbb : Below w.heap.size w w3 := hb1.trans (hb3.mono (by omega))
  obtain ⟨⟨k0, k1, k2⟩, f0, f1, f2⟩ := hT3.cell
  clear hT1 hb1 hb3
  replace hT3 := Lib.hid hT3
  replace hw1 := Lib.hid hw1
  go_wp2_with fail
  refine ret_row rfl rfl rfl (hT3.out.put _ _ _) Try.underlying24 rfl (by kernel_rfl) ⟨rfl, ?_⟩
  exact ((hbb.setCell (Nat.le_refl _) _).setCell (Nat.le_refl _) _).setCell (Nat.le_refl _) _

set_option maxRecDepth 100000 in
set_option maxHeartbeats 1000000 in
theorem Needs_9 (w : World) : Calls Try.prog 7 #[.int .i64 9] w fun e w' => e = .returned (laneV true true true) ∧ Below w.heap.size w w' := by
  obtain ⟨w1, hw1⟩ : ∃ w1, w1 = w.alloc (.cells #[.bool false, .bool false, .bool false] 24) := ⟨_, rfl⟩
  have hT1 : Three w1 w.heap.size := by rw [hw1]; exact three_new w
  have hb1 : Below w.heap.size w w1 := by rw [hw1]; exact (Below.refl _ _).alloc (Nat.le_refl _) _
  have hs1 : w1.heap.size = w.heap.size + 1 := by rw [hw1]; simp
  have hc := Every_fn w1
  unfold laneV at hc
  rw [hw1] at hc
  go_enter Try.func7, Try.ntmps7
  go_wp2_with fail
  go_at_call 9
  refine hc.mono ?_
  clear hc
  rintro e w3 ⟨rfl, hb3⟩
  rw [← hw1] at hb3
  rw [hs1] at hb3
  have hT3 := hT1.below hb3 (by omega)
  have hbb : Below w.heap.size w w3 := hb1.trans (hb3.mono (by omega))
  obtain ⟨⟨k0, k1, k2⟩, f0, f1, f2⟩ := hT3.cell
  clear hT1 hb1 hb3
  replace hT3 := Lib.hid hT3
  replace hw1 := Lib.hid hw1
  go_wp2_with fail
  refine ret_row rfl rfl rfl (hT3.out.put _ _ _) Try.underlying24 rfl (by kernel_rfl) ⟨rfl, ?_⟩
  exact ((hbb.setCell (Nat.le_refl _) _).setCell (Nat.le_refl _) _).setCell (Nat.le_refl _) _


end Go.Proofs.Ythofobldpnoclaa
