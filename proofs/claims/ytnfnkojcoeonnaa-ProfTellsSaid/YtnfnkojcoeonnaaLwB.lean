/-
  Own walks: any call of both; steps that are the same; a script of calls; the chapter's example.
-/
import Derived.Test.YtnfnkojcoeonnaaLwA
import Derived.Laws.StructEq
namespace Go.Proofs.Ytnfnkojcoeonnaa
open Go.RowKit Go.Sort Go.Lib

theorem equalIn_step (x y : Int × Int) (w : World) : (Op.equalIn 10000 59 (.agg #[.int .i64 x.1, .int .i64 x.2]) (.agg #[.int .i64 y.1, .int .i64 y.2])).run Try.prog w = .ok (decide (x = y)) w := by
  have u2 := Try.underlying2
  have a2 := Try.isAgg2
  have z2 := Try.sizeOf2
  have u3 := Try.underlying3
  have a3 := Try.isAgg3
  have z3 := Try.sizeOf3
  have hS : Try.prog.underlying 59 = some (.struct (Try.prog.fieldsOf 59)) := by kernel_rfl
  have hp : Try.prog.stoodInHeld 59 = false := by kernel_rfl
  rw [show (10000 : Nat) = 9999 + 1 from rfl, run_equalIn_agg w 9999 59 _ _ hS hp]
  simp only [Program.fieldsOf, Try.underlying59]
  go_simp
  obtain ⟨x1, x2⟩ := x
  obtain ⟨y1, y2⟩ := y
  by_cases h1 : x1 = y1 <;> by_cases h2 : x2 = y2 <;> simp [h1, h2]
theorem step_neq_same (x y : Int) (w : World) : (binOp .neq 59 (.agg #[.int .i64 x, .int .i64 y]) (.agg #[.int .i64 x, .int .i64 y])).run Try.prog w = .ok (.bool false) w := by
  have h := equalIn_step (x, y) (x, y) w
  rw [run_neq_struct, h]
  simp
theorem step_guard : Try.prog.eqGuardType Try.prog.depth 59 = false := by kernel_rfl

section
variable {B : Nat} {w w' w0 : World} {p g q k : Nat} {L : List (Int × Int)} {now F : Int} {E : List Sp} {ver : Int}

set_option maxHeartbeats 1000000 in
theorem step_bad0 (a b n : Int) (hn : n < 0 ∨ 64 < n) (h : XS B w p g q k L now F E ver) :
    Calls Try.prog 9 #[.pointer (some ⟨p, 0, none⟩), .pointer (some ⟨q, 0, none⟩), .agg #[.int .i64 0, .int .i64 a, .int .i64 b, .int .i64 n]] w (StepPost B w p q k F 0 a b n now (raw F E) ver) := by
  have hfin : Hid (StepPost B w p q k F 0 a b n now (raw F E) ver (.returned (.bool true)) (w.alloc (.cells #[.int .i64 0, .int .i64 a, .int .i64 b, .int .i64 n] 34))) := StepPost.same h ((Below.refl _ _).alloc (Nat.le_refl _) _) (by omega) hn
  have e0 : ((0 : Int) == 0) = true := rfl
  clear h
  by_cases n1 : n < 0
  · go_enter Try.func9, Try.ntmps9
    go_wp2_with fail
    go_ret
    exact hfin.out
  · have n2 : 64 < n := by omega
    clear hn
    go_enter Try.func9, Try.ntmps9
    go_wp2_with fail
    go_ret
    exact hfin.out

set_option maxHeartbeats 1000000 in
theorem step_bad1 (a b n : Int) (hn : n < 0 ∨ 64 < n) (h : XS B w p g q k L now F E ver) :
    Calls Try.prog 9 #[.pointer (some ⟨p, 0, none⟩), .pointer (some ⟨q, 0, none⟩), .agg #[.int .i64 1, .int .i64 a, .int .i64 b, .int .i64 n]] w (StepPost B w p q k F 1 a b n now (raw F E) ver) := by
  have hfin : Hid (StepPost B w p q k F 1 a b n now (raw F E) ver (.returned (.bool true)) (w.alloc (.cells #[.int .i64 1, .int .i64 a, .int .i64 b, .int .i64 n] 34))) := StepPost.same h ((Below.refl _ _).alloc (Nat.le_refl _) _) (by omega) hn
  have e0 : ((1 : Int) == 0) = false := rfl
  have e1 : ((1 : Int) == 1) = true := rfl
  clear h
  by_cases n1 : n < 0
  · go_enter Try.func9, Try.ntmps9
    go_wp2_with fail
    go_ret
    exact hfin.out
  · have n2 : 64 < n := by omega
    clear hn
    go_enter Try.func9, Try.ntmps9
    go_wp2_with fail
    go_ret
    exact hfin.out

set_option maxHeartbeats 1000000 in
theorem step_bad2 (a b n : Int) (hn : n < 0 ∨ 64 < n) (h : XS B w p g q k L now F E ver) :
    Calls Try.prog 9 #[.pointer (some ⟨p, 0, none⟩), .pointer (some ⟨q, 0, none⟩), .agg #[.int .i64 2, .int .i64 a, .int .i64 b, .int .i64 n]] w (StepPost B w p q k F 2 a b n now (raw F E) ver) := by
  have hfin : Hid (StepPost B w p q k F 2 a b n now (raw F E) ver (.returned (.bool true)) (w.alloc (.cells #[.int .i64 2, .int .i64 a, .int .i64 b, .int .i64 n] 34))) := StepPost.same h ((Below.refl _ _).alloc (Nat.le_refl _) _) (by omega) hn
  have e0 : ((2 : Int) == 0) = false := rfl
  have e1 : ((2 : Int) == 1) = false := rfl
  have e2 : ((2 : Int) == 2) = true := rfl
  clear h
  by_cases n1 : n < 0
  · go_enter Try.func9, Try.ntmps9
    go_wp2_with fail
    go_ret
    exact hfin.out
  · have n2 : 64 < n := by omega
    clear hn
    go_enter Try.func9, Try.ntmps9
    go_wp2_with fail
    go_ret
    exact hfin.out

theorem step_any (kd a b n : Int) (hk : k < 30) (h : XS B w p g q k L now F E ver) :
    Calls Try.prog 9 #[.pointer (some ⟨p, 0, none⟩), .pointer (some ⟨q, 0, none⟩), .agg #[.int .i64 kd, .int .i64 a, .int .i64 b, .int .i64 n]] w (StepPost B w p q k F kd a b n now (raw F E) ver) := by
  by_cases h0 : kd = 0
  · subst h0
    by_cases hn : 0 ≤ n ∧ n ≤ 64
    · exact step_res0 a b n hn hk h
    · exact step_bad0 a b n (by omega) h
  · by_cases h1 : kd = 1
    · subst h1
      by_cases hn : 0 ≤ n ∧ n ≤ 64
      · exact step_res1 a b n hn hk h
      · exact step_bad1 a b n (by omega) h
    · by_cases h2 : kd = 2
      · subst h2
        by_cases hn : 0 ≤ n ∧ n ≤ 64
        · exact step_rel a b n hn hk h
        · exact step_bad2 a b n (by omega) h
      · by_cases h3 : kd = 3
        · subst h3
          exact step_add a b n hk h
        · exact step_adv kd a b n ⟨h0, h1, h2, h3⟩ hk h

set_option maxRecDepth 100000 in
set_option maxHeartbeats 1000000 in
theorem same_any {g1 g2 c1 c2 : Nat} (h1 : w.ownsRow 0 59 2 (.slice (some ⟨g1, 0, none⟩) L.length c1) L.length (prV L)) (h2 : w.ownsRow 0 59 2 (.slice (some ⟨g2, 0, none⟩) L.length c2) L.length (prV L)) (hl : L.length ≤ 1000) :
    Calls Try.prog 12 #[.slice (some ⟨g1, 0, none⟩) L.length c1, .slice (some ⟨g2, 0, none⟩) L.length c2] w fun e w' => e = .returned (.bool true) ∧ Below w.heap.size w w' := by
  have hmix := mixed
  have hg := step_guard
  go_enter Try.func12, Try.ntmps12
  go_wp2_with fail
  go_loopw [5] (fun ii wr => ∃ (i : Nat), i ≤ L.length ∧ ii = .int .i64 i ∧ Below w.heap.size w wr) (fun ii _ => L.length - (intOf ii).toNat)
  case atStart => exact ⟨0, Nat.zero_le _, rfl, Below.refl _ _⟩
  case round =>
    obtain ⟨i, hi, rfl, hb⟩ := hrel
    by_cases hlt : i < L.length
    · obtain ⟨s0, s1⟩ := step_cells (own_kept h1 hb) hlt
      obtain ⟨t0, t1⟩ := step_cells (own_kept h2 hb) hlt
      obtain ⟨x, hx⟩ : ∃ x, x = tA L i := ⟨_, rfl⟩
      obtain ⟨y, hy⟩ : ∃ y, y = tV L i := ⟨_, rfl⟩
      rw [← hx] at s0 t0
      rw [← hy] at s1 t1
      replace hx := Lib.hid hx
      replace hy := Lib.hid hy
      have hne := fun W => step_neq_same x y W
      have hw2 : IntKind.i64.wrap ((i : Int) + 1) = (i : Int) + 1 := IntWalk.i64_in _ (by omega)
      have b1 : (0 : Int) ≤ i := by omega
      have b2 : (i : Int) < (L.length : Int) := by omega
      go_wp2_with fail
      go_quiet (fail)
      have hb2 := below_drewN hb nq
      obtain ⟨w5, hw5⟩ : ∃ w5, w5 = wr.drewN nq := ⟨_, rfl⟩
      rw [← hw5] at hb2 ⊢
      clear hw5 hb s0 s1 t0 t1 hne
      go_wp2_with fail
      go_roundw
      case rel => exact ⟨i + 1, by omega, by go_num, hb2⟩
      case measure => simp [intOf]; omega
    · obtain rfl : i = L.length := by omega
      go_wp2_with fail
      go_ret
      exact ⟨rfl, hb⟩
end

/-- A call of a script. -/
structure Cl where
  k : Int
  a : Int
  b : Int
  n : Int
def enc4 (s : Cl) : List Value := [.int .i64 s.k, .int .i64 s.a, .int .i64 s.b, .int .i64 s.n]

open Go.ChangeShapes Go.WideShapes Go.ChangeAt Go.Deep in
/-- What can be read of an argument that is a script. -/
theorem ops_of {H : Type} {enc : TypeId × Value → H} {P : Program} {w : World} {base : Nat} {t e : TypeId} {f0 f1 f2 f3 : Field} {v : Value} {d : DataW H} {ps : List MemPlace} (ht : P.underlying t = some (.slice e)) (he : P.underlying e = some (.struct #[f0, f1, f2, f3]))
    (hone : Go.Deep.oneCellFields P #[f0, f1, f2, f3] = true) (hc : P.cellsOf e = 4) (h0 : P.underlying f0.type = some (.int .i64)) (h1 : P.underlying f1.type = some (.int .i64)) (h2 : P.underlying f2.type = some (.int .i64)) (h3 : P.underlying f3.type = some (.int .i64))
    (hval : Value.okWide P w .any base t v) (hd : DataW.Trod enc P w 0 (fun _ => true) true t v d ps) : ∃ l, RowAt enc4 4 w v l := by
  obtain ⟨a0, len, cap, rfl⟩ := okWide_slice ht hval
  obtain ⟨fuel, hf⟩ := hd
  rcases open_slice_fields ht he hone (by rw [hc]; rfl) hf with ⟨hcs, _⟩ | ⟨a, len', cap', m, D, Pl, hcs, _, hl, hm, hmm, _, hi⟩
  · simp [Value.cells] at hcs
    obtain ⟨rfl, rfl, rfl⟩ := hcs
    exact ⟨[], RowAt.nil w⟩
  · simp [Value.cells] at hcs
    obtain ⟨rfl, rfl, rfl⟩ := hcs
    simp only [if_true] at hmm
    have hsp : ∀ i, i < len → ∃ s : Cl, w.cell? (a.add (i * 4 + 0)) = some (.int .i64 s.k) ∧ w.cell? (a.add (i * 4 + 1)) = some (.int .i64 s.a) ∧ w.cell? (a.add (i * 4 + 2)) = some (.int .i64 s.b) ∧ w.cell? (a.add (i * 4 + 3)) = some (.int .i64 s.n) := by
      intro i hil
      obtain ⟨ys, n, _, _, _, hfs⟩ := hi i (by omega)
      obtain ⟨v0, y0, c0, _, t0⟩ := hfs 0 f0 rfl
      obtain ⟨v1, y1, c1, _, t1⟩ := hfs 1 f1 rfl
      obtain ⟨v2, y2, c2, _, t2⟩ := hfs 2 f2 rfl
      obtain ⟨v3, y3, c3, _, t3⟩ := hfs 3 f3 rfl
      obtain ⟨x0, hx0, _, _⟩ := DataW.trod_int h0 t0
      obtain ⟨x1, hx1, _, _⟩ := DataW.trod_int h1 t1
      obtain ⟨x2, hx2, _, _⟩ := DataW.trod_int h2 t2
      obtain ⟨x3, hx3, _, _⟩ := DataW.trod_int h3 t3
      simp at hx0 hx1 hx2 hx3
      subst hx0 hx1 hx2 hx3
      exact ⟨⟨x0, x1, x2, x3⟩, c0, c1, c2, c3⟩
    have hpick : ∃ f : Nat → Cl, ∀ i, i < len → w.cell? (a.add (i * 4 + 0)) = some (.int .i64 (f i).k) ∧ w.cell? (a.add (i * 4 + 1)) = some (.int .i64 (f i).a) ∧ w.cell? (a.add (i * 4 + 2)) = some (.int .i64 (f i).b) ∧ w.cell? (a.add (i * 4 + 3)) = some (.int .i64 (f i).n) := by
      refine ⟨fun i => if h : i < len then Classical.choose (hsp i h) else ⟨0, 0, 0, 0⟩, fun i hil => ?_⟩
      simp only [dif_pos hil]
      exact Classical.choose_spec (hsp i hil)
    obtain ⟨f, hf'⟩ := hpick
    refine ⟨(List.range len).map f, ⟨some a, cap, by simp, by simpa using hl, hm, fun hp => ?_⟩⟩
    obtain ⟨b, off, spot⟩ := a
    have hp : 0 < len := by simpa using hp
    have hspot : spot = none := by simpa [Addr.add] using World.cell?_spot (hf' 0 hp).1
    subst hspot
    refine ⟨b, off, rfl, ?_, fun i s j u hi hj => ?_⟩
    · have := (hf' 0 hp).1
      rw [Go.WideShapes.add_plain] at this
      exact World.block_lt_of_cell? w ⟨b, _, none⟩ this
    · rw [List.getElem?_map] at hi
      obtain ⟨i', hi', rfl⟩ := Option.map_eq_some_iff.1 hi
      obtain ⟨hil, rfl⟩ := List.getElem?_eq_some_iff.1 hi'
      rw [List.length_range] at hil
      rw [List.getElem_range] at hj
      obtain ⟨c0, c1, c2, c3⟩ := hf' i hil
      rw [Go.WideShapes.add_plain] at c0 c1 c2 c3
      have hj3 : j < 4 := (List.getElem?_eq_some_iff.1 hj).1
      rcases (by omega : j = 0 ∨ j = 1 ∨ j = 2 ∨ j = 3) with rfl | rfl | rfl | rfl
      · simp [enc4] at hj; subst hj; exact c0
      · simp [enc4] at hj; subst hj; exact c1
      · simp [enc4] at hj; subst hj; exact c2
      · simp [enc4] at hj; subst hj; exact c3
/-- The four cells of a call. -/
theorem call_cells {w : World} {l : List Cl} {b off i : Nat} {s : Cl} (hc : ∀ i s j u, l[i]? = some s → (enc4 s)[j]? = some u → w.cell? ⟨b, off + (i * 4 + j), none⟩ = some u) (hs : l[i]? = some s) :
    w.cell? ⟨b, off + i * 4, none⟩ = some (.int .i64 s.k) ∧ w.cell? ⟨b, off + i * 4 + 1, none⟩ = some (.int .i64 s.a) ∧ w.cell? ⟨b, off + i * 4 + 2, none⟩ = some (.int .i64 s.b) ∧ w.cell? ⟨b, off + i * 4 + 3, none⟩ = some (.int .i64 s.n) :=
  ⟨hc i s 0 _ hs rfl, hc i s 1 _ hs rfl, hc i s 2 _ hs rfl, hc i s 3 _ hs rfl⟩

/-- A new profile, and the document's. -/
theorem XS_new {B : Nat} {w : World} {p g q : Nat} {n : Int} (hn : 0 ≤ n ∧ n ≤ 64) (h : PW w p g [(0, n)] 0) (hp : B ≤ p) (hg : B ≤ g) (hq : B ≤ q) (hh : w.heap[q]? = some (.cells #[.int .i64 n, .int .i64 0, .slice none 0 0, .int .i64 0] 31 (0, 0))) : XS B w p g q 0 [(0, n)] 0 n [] 0 := by
  have hr : raw n [] = fun _ => n := funext fun t => raw_nil n t
  refine ⟨h, ⟨hq, _, hh, World.ownsRow_nil _ _ _ _⟩, by rw [hr]; exact Can_new n, fun s hs => (by cases hs), fun t _ => by rw [raw_nil]; exact hn, hn, by omega, by simp, by simp, by omega, hp, hg⟩

/-- What a script makes of both. -/
def MadePost (w : World) (F : Int) (e : Ending) (w' : World) : Prop :=
  ∃ (p g q k : Nat) (L : List (Int × Int)) (now : Int) (E : List Sp) (ver : Int), e = .returned (.tuple #[.pointer (some ⟨p, 0, none⟩), .pointer (some ⟨q, 0, none⟩)]) ∧ k ≤ 30 ∧ XS w.heap.size w' p g q k L now F E ver ∧ Below w.heap.size w w'

theorem made_bad (n : Int) (v : Value) (w : World) (h : n < 0 ∨ 64 < n) : Calls Try.prog 15 #[.int .i64 n, v] w fun e w' => e = .returned (.tuple #[.pointer none, .pointer none]) ∧ w = w' := by
  have hnw := New_bad n w h
  clear h
  go_enter Try.func15, Try.ntmps15
  go_wp2_with (go_at_call 7; go_must (refine hnw.mono ?_); rintro e w' ⟨rfl, rfl⟩)
  go_ret2
  exact ⟨rfl, rfl⟩

set_option maxRecDepth 100000 in
set_option maxHeartbeats 2000000 in
theorem made_any (n : Int) (v : Value) (l : List Cl) (w : World) (h : 0 ≤ n ∧ n ≤ 64) (hr : RowAt enc4 4 w v l) : Calls Try.prog 15 #[.int .i64 n, v] w (MadePost w n) := by
  have hnw := New_any n w h
  obtain ⟨ao, cap, rfl, hlc, hcm, hcells⟩ := hr
  have hlm : l.length ≤ 9223372036854775807 := by unfold maxLen at hcm; omega
  clear hcm
  go_enter Try.func15, Try.ntmps15
  go_wp2_with fail
  go_at_call 7
  refine hnw.mono ?_
  clear hnw
  rintro e w1 ⟨p, g, rfl, hP, hp, hg, hb1⟩
  have hsz1 := hb1.size
  have hal : Below w1.heap.size w1 (w1.alloc (.cells #[.int .i64 n, .int .i64 0, .slice none 0 0, .int .i64 0] 31)) := (Below.refl _ _).alloc (Nat.le_refl _) _
  have hX0 : XS w.heap.size (w1.alloc (.cells #[.int .i64 n, .int .i64 0, .slice none 0 0, .int .i64 0] 31)) p g w1.heap.size 0 [(0, n)] 0 n [] 0 := XS_new h (hP.kept hal) hp hg hsz1 (heap_alloc_new w1 _)
  have hb2 : Below w.heap.size w (w1.alloc (.cells #[.int .i64 n, .int .i64 0, .slice none 0 0, .int .i64 0] 31)) := hb1.trans (hal.mono hsz1)
  obtain ⟨q, hq⟩ : ∃ q, q = w1.heap.size := ⟨_, rfl⟩
  obtain ⟨w2, hw2⟩ : ∃ w2, w2 = (w1.alloc (.cells #[.int .i64 n, .int .i64 0, .slice none 0 0, .int .i64 0] 31)) := ⟨_, rfl⟩
  clear hP hal hb1 hsz1
  go_wp2_with fail
  rw [← hw2, ← hq] at hX0
  rw [← hw2] at hb2
  rw [← hw2, ← hq]
  replace hw2 := Lib.hid hw2
  replace hq := Lib.hid hq
  clear h hp hg
  go_loopw [9] (fun ii wr => ∃ (k g : Nat) (L : List (Int × Int)) (now : Int) (E : List Sp) (ver : Int), k ≤ l.length ∧ k ≤ 30 ∧ ii = .int .i64 k ∧ XS w.heap.size wr p g q k L now n E ver ∧ Below w.heap.size w wr) (fun ii _ => 30 - (intOf ii).toNat)
  case atStart => exact ⟨0, g, _, _, _, _, Nat.zero_le _, Nat.zero_le _, rfl, hX0, hb2⟩
  case round =>
    obtain ⟨k, g3, L, now, E, ver, hkl, hk30, rfl, hX, hb⟩ := hrel
    clear hX0 hb2
    by_cases hlt : k < l.length
    · have d1 : decide ((k : Int) < (l.length : Int)) = true := decide_eq_true (by omega)
      by_cases hlt3 : k < 30
      · have d2 : decide ((k : Int) < 30) = true := decide_eq_true (by omega)
        obtain ⟨b, off, rfl, hbw, hcell⟩ := hcells (by omega)
        obtain ⟨s, hs⟩ : ∃ s, l[k]? = some s := ⟨_, List.getElem?_eq_getElem hlt⟩
        obtain ⟨c0, c1, c2, c3⟩ := call_cells hcell hs
        rw [← hb.cell (p := ⟨b, _, none⟩) hbw] at c0 c1 c2 c3
        obtain ⟨sk, sa, sb, sn⟩ := s
        dsimp only at c0 c1 c2 c3
        have hst := step_any sk sa sb sn hlt3 hX
        have hw3 : IntKind.i64.wrap ((k : Int) + 1) = (k : Int) + 1 := IntWalk.i64_in _ (by omega)
        have b1 : (0 : Int) ≤ k := by omega
        have b2 : (k : Int) < (l.length : Int) := by omega
        clear hcell hcells hs hX
        go_wp2_with fail
        go_at_call 9
        refine hst.mono ?_
        clear hst
        rintro e w5 ⟨g5, L5, now5, E5, ver5, rfl, hX5, _, hb5⟩
        have hb6 := hb.trans hb5
        clear c0 c1 c2 c3 hb hb5
        go_wp2_with fail
        go_roundw
        case rel => exact ⟨k + 1, g5, L5, now5, E5, ver5, by omega, by omega, by go_num, hX5, hb6⟩
        case measure => simp [intOf]; omega
      · have d2 : decide ((k : Int) < 30) = false := decide_eq_false (by omega)
        have hfin : Hid (MadePost w n (.returned (.tuple #[.pointer (some ⟨p, 0, none⟩), .pointer (some ⟨q, 0, none⟩)])) wr) := ⟨p, g3, q, k, L, now, E, ver, rfl, hk30, hX, hb⟩
        clear hX hb hcells
        go_wp2_with fail
        go_ret2
        exact hfin.out
    · have d1 : decide ((k : Int) < (l.length : Int)) = false := decide_eq_false (by omega)
      have hfin : Hid (MadePost w n (.returned (.tuple #[.pointer (some ⟨p, 0, none⟩), .pointer (some ⟨q, 0, none⟩)])) wr) := ⟨p, g3, q, k, L, now, E, ver, rfl, hk30, hX, hb⟩
      clear hX hb hcells
      go_wp2_with fail
      go_ret2
      exact hfin.out

/-! The chapter's example. -/
def exF : Int → Int := fun t => 4 + had 5 10 (-3) t
theorem exE : EarlP exF 0 6 2 10 0 := by
  refine .inl ⟨rfl, by omega, by omega, fun x h1 h2 => ?_, fun u h1 h2 hg => ?_⟩
  · unfold exF had; rw [if_neg (by omega)]; omega
  · have h3 := hg (max u 5) (by omega) (by omega)
    unfold exF had at h3
    rw [if_pos (by omega)] at h3
    omega
theorem exR {r dv : Int} {f' : Int → Int} (h : AddR (fun _ => 4) 0 5 10 (-3) r f' dv) : r = 0 ∧ f' = exF := by
  rcases h with ⟨a1, _⟩ | ⟨_, a2, _⟩ | ⟨_, _, ⟨t, _, _, a3⟩, _⟩ | ⟨_, _, _, a4, a5, _⟩
  · omega
  · omega
  · simp at a3
  · exact ⟨a4, a5⟩

set_option maxRecDepth 100000 in
set_option maxHeartbeats 2000000 in
theorem awake_any (w : World) : Calls Try.prog 8 #[] w fun e w' => e = .returned (.bool true) ∧ Below w.heap.size w w' := by
  have hnw := New_any 4 w (by omega)
  go_enter Try.func8, Try.ntmps8
  go_wp2_with fail
  go_at_call 7
  refine hnw.mono ?_
  clear hnw
  rintro e w1 ⟨p, g, rfl, hP, hp, hg, hb1⟩
  have hsz1 := hb1.size
  have hrs := Reserve_any 5 10 3 (by omega) (Can_new 4) (Int.le_refl _) (fun t _ => by omega) (by omega) (by simp) hP
  go_wp2_with fail
  go_at_call 25
  refine hrs.mono ?_
  clear hrs hP
  rintro e w2 ⟨r, dv, f', g2, L2, rfl, hR, hP2, hC2, hg2, hO2, hl2⟩
  obtain ⟨rfl, rfl⟩ := exR hR
  have hb2 : Below w.heap.size w w2 := hb1.trans (hO2.below hp hg hsz1)
  have hl2' : L2.length ≤ 1000 := by have : [((0 : Int), (4 : Int))].length = 1 := rfl; omega
  have her := Earliest_any 0 6 2 (by omega) hC2.sm (Int.le_refl _) hl2' hP2 (by omega)
  clear hR hO2 hg2 hl2
  go_wp2_with fail
  go_at_call 23
  refine her.mono ?_
  clear her
  rintro e w3 ⟨t, e3, rfl, hE3, hb3⟩
  obtain ⟨rfl, rfl⟩ := EarlP.uniq hE3 exE (fun _ _ => rfl)
  obtain ⟨i, hi⟩ := hC2.sm.ix 7
  have hfr := Free_any 7 hi hC2.sm hl2' (hP2.kept hb3)
  have hv : tV L2 i = 1 := by rw [← hi.val hC2.sm (by omega)]; rfl
  rw [hv] at hfr
  have hb4 : Below w.heap.size w w3 := hb2.trans (hb3.mono hb2.size)
  clear hE3 hP2 hC2 hv hi
  go_wp2_with (go_at_call 17; go_must (refine hfr.mono ?_); rintro e w5 ⟨rfl, hb5⟩)
  go_ret
  exact ⟨rfl, hb4.trans (hb5.mono hb4.size)⟩

end Go.Proofs.Ytnfnkojcoeonnaa
