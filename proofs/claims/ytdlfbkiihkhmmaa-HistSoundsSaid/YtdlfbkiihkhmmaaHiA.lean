/-
  Own words: events as they lie, as arguments, and when one is itself.
-/
import Derived.Test.YtdlfbkiihkhmmaaChecked
import Derived.Test.YtdlfbkiihkhmmaaFlat
import Derived.Test.YtdlfbkiihkhmmaaRow
import Derived.WalkKit
import Derived.WalkSpells
import Derived.WalkLawsBesides
import Derived.Deep.DeepMust
import Derived.Lib.Hide
import Derived.LaidEql
import Derived.Laws.StructEq
import Derived.Shelf.SlicesQ.Load
namespace Go.Proofs.Ytdlfbkiihkhmmaa
set_option maxRecDepth 8000
open Go.RowKit Go.Lib
open Go.ChangeShapes Go.WideShapes Go.ChangeAt Go.Deep

/-- An event. -/
structure Ev where
  st : Int
  kd : Int
  tk : Int
  q1 : Int
  q2 : Int
  q3 : Int
  q4 : Int
  q5 : Int
  q6 : Int
  qh : Bool
  q7 : Int
  q8 : Int
  r1 : Int
  r2 : Int
  r3 : Int
  r4 : Int
  r5 : Int
  r6 : Int
  r7 : Int
  r8 : Int
  r9 : Int
  c1 : Int
  c2 : Int
  ok : Bool
deriving Inhabited
def encE (e : Ev) : List Value := [.int .i64 e.st, .int .i64 e.kd, .int .i64 e.tk, .int .i64 e.q1, .int .i64 e.q2, .int .i64 e.q3, .int .i64 e.q4, .int .i64 e.q5, .int .i64 e.q6, .bool e.qh, .int .i64 e.q7, .int .i64 e.q8, .int .i64 e.r1, .int .i64 e.r2, .int .i64 e.r3, .int .i64 e.r4, .int .i64 e.r5, .int .i64 e.r6, .int .i64 e.r7, .int .i64 e.r8, .int .i64 e.r9, .int .i64 e.c1, .int .i64 e.c2, .bool e.ok]
theorem aE_ev : ∀ w, Sem.run Try.prog (isAgg 36) w = .ok true w := Try.isAgg36
theorem zE_ev : ∀ w, Sem.run Try.prog (Go.sizeOf 36) w = .ok 24 w := Try.sizeOf36
theorem encE_len (x : Ev) : (encE x).length = 24 := rfl
theorem encE_one (x : Ev) : ∀ v ∈ encE x, v.oneCell' = true := by
  intro v hv
  simp only [encE, List.mem_cons, List.not_mem_nil, or_false] at hv
  rcases hv with rfl | rfl | rfl | rfl | rfl | rfl | rfl | rfl | rfl | rfl | rfl | rfl | rfl | rfl | rfl | rfl | rfl | rfl | rfl | rfl | rfl | rfl | rfl | rfl <;> rfl
theorem encE_def : encE default = [.int .i64 0, .int .i64 0, .int .i64 0, .int .i64 0, .int .i64 0, .int .i64 0, .int .i64 0, .int .i64 0, .int .i64 0, .bool false, .int .i64 0, .int .i64 0, .int .i64 0, .int .i64 0, .int .i64 0, .int .i64 0, .int .i64 0, .int .i64 0, .int .i64 0, .int .i64 0, .int .i64 0, .int .i64 0, .int .i64 0, .bool false] := rfl
theorem ev_cells {W : World} {p : Nat} {x : Ev} (h : W.heap[p]? = some (.cells (encE x).toArray 36 (0, 0))) : ∀ j u, (encE x)[j]? = some u → W.cell? ⟨p, j, none⟩ = some u := by
  intro j u hj
  simp only [World.cell?, h]
  simpa using hj
/-- A load of an event that lies in a block of its own, its size a variable. -/
theorem ev_load {W : World} {p k : Nat} {x : Ev} (h : W.heap[p]? = some (.cells (encE x).toArray 36 (0, 0))) (hk : k = 24) : Sem.run Try.prog (loadCellsFrom ⟨p, 0, none⟩ 0 k #[]) W = .ok (encE x).toArray W := by
  subst hk
  refine run_loadCellsFrom_list Try.prog W _ _ 24 (encE_len x) fun j u hj => ?_
  rw [Go.WideShapes.add_plain, Nat.zero_add]
  exact ev_cells h j u hj
/-- A load of an event of a row, its size a variable. -/
theorem ev_row {W : World} {b off k n c i : Nat} {l : List Ev} (h : RowAt encE 24 W (.slice (some ⟨b, off, none⟩) n c) l) (hk : k = 24) (hi : i < l.length) : Sem.run Try.prog (loadCellsFrom ⟨b, off + i * k, none⟩ 0 k #[]) W = .ok (encE l[i]!).toArray W := by
  subst hk
  obtain ⟨ao, cap, h1, _, _, h4⟩ := h
  obtain ⟨b', off', e, _, hc⟩ := h4 (by omega)
  cases h1
  cases e
  refine run_loadCellsFrom_list Try.prog W _ _ 24 (encE_len _) fun j u hj => ?_
  rw [Go.WideShapes.add_plain, Nat.add_assoc]
  exact hc i _ j u (by rw [List.getElem?_eq_getElem hi, getElem!_pos l i hi]) hj
theorem ev_cell {W : World} {b off n c i : Nat} {l : List Ev} (h : RowAt encE 24 W (.slice (some ⟨b, off, none⟩) n c) l) (hi : i < l.length) : ∀ j u, (encE l[i]!)[j]? = some u → W.cell? ⟨b, off + (i * 24 + j), none⟩ = some u := by
  obtain ⟨ao, cap, h1, _, _, h4⟩ := h
  obtain ⟨b', off', e, _, hc⟩ := h4 (by omega)
  cases h1
  cases e
  intro j u hj
  exact hc i _ j u (by rw [List.getElem?_eq_getElem hi, getElem!_pos l i hi]) hj

def evTs : List TypeId := [3, 3, 3, 3, 3, 3, 3, 2, 3, 4, 3, 2, 30, 3, 3, 2, 2, 2, 3, 3, 3, 3, 2, 4]
section
variable {H : Type} {enc : TypeId × Value → H} {w : World} {base : Nat} {v : Value} {d : DataW H} {ps : List MemPlace}
theorem evl_int {ts : List TypeId} {cs : List Value} (h : LeafAt enc Try.prog w 0 (fun _ => true) true ts cs) (j : Nat) {T : TypeId} {u : Value} (hT : ts[j]? = some T) (hu : Try.prog.underlying T = some (.int .i64)) (hc : cs[j]? = some u) : ∃ x : Int, u = .int .i64 x ∧ (-9223372036854775808 ≤ x ∧ x ≤ 9223372036854775807) := by
  obtain ⟨_, _, t0⟩ := h j T u hT hc
  obtain ⟨x, hx, _, hw⟩ := DataW.trod_int hu t0
  exact ⟨x, by simpa using hx, bounds_i64 hw⟩
theorem evl_bool {ts : List TypeId} {cs : List Value} (h : LeafAt enc Try.prog w 0 (fun _ => true) true ts cs) (j : Nat) {T : TypeId} {u : Value} (hT : ts[j]? = some T) (hu : Try.prog.underlying T = some .bool) (hc : cs[j]? = some u) : ∃ x : Bool, u = .bool x := by
  obtain ⟨_, _, t0⟩ := h j T u hT hc
  obtain ⟨x, hx, _⟩ := DataW.trod_bool hu t0
  exact ⟨x, by simpa using hx⟩
/-- The number of an event's task is one of its type. -/
def FitsE (x : Ev) : Prop := -9223372036854775808 ≤ x.tk ∧ x.tk ≤ 9223372036854775807
theorem evs_named {α : Type} {encx : α → List Value} {p : α → Prop} : ∀ {l : List (List Value)}, (∀ s ∈ l, ∃ x : α, s = encx x ∧ p x) → ∃ L : List α, l = L.map encx ∧ ∀ x ∈ L, p x
  | [], _ => ⟨[], rfl, fun _ h => nomatch h⟩
  | s :: l, h => by
    obtain ⟨x, rfl, hx⟩ := h s List.mem_cons_self
    obtain ⟨L, rfl, hL⟩ := evs_named (l := l) fun s hs => h s (List.mem_cons_of_mem _ hs)
    exact ⟨x :: L, rfl, fun y hy => by
      rcases List.mem_cons.1 hy with rfl | hy
      · exact hx
      · exact hL y hy⟩
theorem row_evs {α : Type} {encx : α → List Value} {n : Nat} {L : List α} (h : RowAt id n w v (L.map encx)) : RowAt encx n w v L := by
  obtain ⟨ao, cap, h1, h2, h3, h4⟩ := h
  rw [List.length_map] at h1 h2 h4
  refine ⟨ao, cap, h1, h2, h3, fun hn => ?_⟩
  obtain ⟨b, off, e, hlt, hc⟩ := h4 hn
  exact ⟨b, off, e, hlt, fun i s j u hi hj => hc i (encx s) j u (by rw [List.getElem?_map, hi]; rfl) hj⟩
/-- A list of events, as an argument. -/
theorem evs_of (hval : Value.okWide Try.prog w .any base 22 v) (hd : DataW.Trod enc Try.prog w 0 (fun _ => true) true 22 v d ps) : ∃ l : List Ev, RowAt encE 24 w v l ∧ ∀ x ∈ l, FitsE x := by
  obtain ⟨l, hr, hf⟩ := flats_of (n := 3) (ts := evTs) Try.underlying22 (by kernel_rfl) (by kernel_rfl) (by kernel_rfl) (by decide) hval hd
  obtain ⟨L, rfl, hL⟩ := evs_named (encx := encE) (p := FitsE) fun s hs => by
    obtain ⟨hl, hf⟩ := hf s hs
    match s, hl with
    | [a0, a1, a2, a3, a4, a5, a6, a7, a8, a9, a10, a11, a12, a13, a14, a15, a16, a17, a18, a19, a20, a21, a22, a23], _ =>
      obtain ⟨x0, rfl, b0⟩ := evl_int hf 0 rfl Try.underlying3 rfl
      obtain ⟨x1, rfl, b1⟩ := evl_int hf 1 rfl Try.underlying3 rfl
      obtain ⟨x2, rfl, b2⟩ := evl_int hf 2 rfl Try.underlying3 rfl
      obtain ⟨x3, rfl, b3⟩ := evl_int hf 3 rfl Try.underlying3 rfl
      obtain ⟨x4, rfl, b4⟩ := evl_int hf 4 rfl Try.underlying3 rfl
      obtain ⟨x5, rfl, b5⟩ := evl_int hf 5 rfl Try.underlying3 rfl
      obtain ⟨x6, rfl, b6⟩ := evl_int hf 6 rfl Try.underlying3 rfl
      obtain ⟨x7, rfl, b7⟩ := evl_int hf 7 rfl Try.underlying2 rfl
      obtain ⟨x8, rfl, b8⟩ := evl_int hf 8 rfl Try.underlying3 rfl
      obtain ⟨x9, rfl⟩ := evl_bool hf 9 rfl Try.underlying4 rfl
      obtain ⟨x10, rfl, b10⟩ := evl_int hf 10 rfl Try.underlying3 rfl
      obtain ⟨x11, rfl, b11⟩ := evl_int hf 11 rfl Try.underlying2 rfl
      obtain ⟨x12, rfl, b12⟩ := evl_int hf 12 rfl Try.underlying30 rfl
      obtain ⟨x13, rfl, b13⟩ := evl_int hf 13 rfl Try.underlying3 rfl
      obtain ⟨x14, rfl, b14⟩ := evl_int hf 14 rfl Try.underlying3 rfl
      obtain ⟨x15, rfl, b15⟩ := evl_int hf 15 rfl Try.underlying2 rfl
      obtain ⟨x16, rfl, b16⟩ := evl_int hf 16 rfl Try.underlying2 rfl
      obtain ⟨x17, rfl, b17⟩ := evl_int hf 17 rfl Try.underlying2 rfl
      obtain ⟨x18, rfl, b18⟩ := evl_int hf 18 rfl Try.underlying3 rfl
      obtain ⟨x19, rfl, b19⟩ := evl_int hf 19 rfl Try.underlying3 rfl
      obtain ⟨x20, rfl, b20⟩ := evl_int hf 20 rfl Try.underlying3 rfl
      obtain ⟨x21, rfl, b21⟩ := evl_int hf 21 rfl Try.underlying3 rfl
      obtain ⟨x22, rfl, b22⟩ := evl_int hf 22 rfl Try.underlying2 rfl
      obtain ⟨x23, rfl⟩ := evl_bool hf 23 rfl Try.underlying4 rfl
      exact ⟨⟨x0, x1, x2, x3, x4, x5, x6, x7, x8, x9, x10, x11, x12, x13, x14, x15, x16, x17, x18, x19, x20, x21, x22, x23⟩, rfl, b2⟩
  exact ⟨L, row_evs hr, hL⟩
end

set_option maxRecDepth 100000 in
set_option maxHeartbeats 4000000 in
/-- An event is itself. -/
theorem equalIn_ev (x : Ev) (w : World) : (Op.equalIn 10000 36 (.agg (encE x).toArray) (.agg (encE x).toArray)).run Try.prog w = .ok true w := by
  have u0 := Try.underlying3
  have a0 := Try.isAgg3
  have z0 := Try.sizeOf3
  have u1 := Try.underlying4
  have a1 := Try.isAgg4
  have z1 := Try.sizeOf4
  have u2 := Try.underlying2
  have a2 := Try.isAgg2
  have z2 := Try.sizeOf2
  have u3 := Try.underlying30
  have a3 := Try.isAgg30
  have z3 := Try.sizeOf30
  have u4 := Try.underlying29
  have a4 := Try.isAgg29
  have z4 := Try.sizeOf29
  have hS4 : Try.prog.underlying 29 = some (.struct (Try.prog.fieldsOf 29)) := by kernel_rfl
  have hp4 : Try.prog.stoodInHeld 29 = false := by kernel_rfl
  have u5 := Try.underlying32
  have a5 := Try.isAgg32
  have z5 := Try.sizeOf32
  have hS5 : Try.prog.underlying 32 = some (.struct (Try.prog.fieldsOf 32)) := by kernel_rfl
  have hp5 : Try.prog.stoodInHeld 32 = false := by kernel_rfl
  have u6 := Try.underlying34
  have a6 := Try.isAgg34
  have z6 := Try.sizeOf34
  have hS6 : Try.prog.underlying 34 = some (.struct (Try.prog.fieldsOf 34)) := by kernel_rfl
  have hp6 : Try.prog.stoodInHeld 34 = false := by kernel_rfl
  have hS : Try.prog.underlying 36 = some (.struct (Try.prog.fieldsOf 36)) := by kernel_rfl
  have hp : Try.prog.stoodInHeld 36 = false := by kernel_rfl
  rw [show (10000 : Nat) = 9999 + 1 from rfl, run_equalIn_agg w 9999 36 _ _ hS hp]
  simp only [Program.fieldsOf, Try.underlying36, Try.underlying29, Try.underlying32, Try.underlying34] at *
  obtain ⟨x0, x1, x2, x3, x4, x5, x6, x7, x8, x9, x10, x11, x12, x13, x14, x15, x16, x17, x18, x19, x20, x21, x22, x23⟩ := x
  simp only [encE]
  go_simp
theorem ev_eql (x : Ev) (w : World) : (binOp .eql 36 (.agg (encE x).toArray) (.agg (encE x).toArray)).run Try.prog w = .ok (.bool true) w := by
  rw [run_eql_struct, equalIn_ev]; rfl
theorem ev_neq (x : Ev) (w : World) : (binOp .neq 36 (.agg (encE x).toArray) (.agg (encE x).toArray)).run Try.prog w = .ok (.bool false) w := by
  rw [run_neq_struct, equalIn_ev]; rfl
theorem ev_guard : Try.prog.eqGuardType Try.prog.depth 36 = false := by kernel_rfl

set_option maxRecDepth 100000 in
set_option maxHeartbeats 4000000 in
theorem is_fn (x : Ev) (k t : Int) (w : World) : Calls Try.prog 18 #[.agg (encE x).toArray, .int .i64 k, .int .i64 t] w fun e w' => e = .returned (.bool (decide (x.kd = k) && decide (x.tk = t))) ∧ w' = w.alloc (.cells (encE x).toArray 36) := by
  obtain ⟨x0, x1, x2, x3, x4, x5, x6, x7, x8, x9, x10, x11, x12, x13, x14, x15, x16, x17, x18, x19, x20, x21, x22, x23⟩ := x
  simp only [encE]
  by_cases h1 : x1 = k
  · subst h1
    by_cases h2 : x2 = t
    · subst h2
      go_enter Try.func18, Try.ntmps18
      go_wp2_with fail
      go_ret
      exact ⟨by simp, rfl⟩
    · have d2 : (x2 == t) = false := by simp [h2]
      go_enter Try.func18, Try.ntmps18
      go_wp2_with fail
      go_ret
      exact ⟨by simp [h2], rfl⟩
  · have d1 : (x1 == k) = false := by simp [h1]
    go_enter Try.func18, Try.ntmps18
    go_wp2_with fail
    go_ret
    exact ⟨by simp [h1], rfl⟩

end Go.Proofs.Ytdlfbkiihkhmmaa
