/-
  Own walks: an event is looked for from the end: slices.Backward, latest, Early.
-/
import Derived.RangeFuncNested
import Derived.RangeFuncBound
import Derived.RangeFuncCalls
import Derived.RangeFuncLeaves
import Derived.Shelf.Abstract
import Derived.Shelf.RegionOpen
import Derived.OwnWalkIn
import Derived.TacticsInMore
import Derived.LoopNIn
import Derived.LoopIn
import Derived.Test.YtdlfbkiihkhmmaaHiE
namespace Go.Proofs.Ytdlfbkiihkhmmaa
set_option maxRecDepth 8000
open Go.RowKit Go.Shelf Go.Lib
attribute [local go_sem] Oper.semAt_some

def upto {α : Type} (f : Nat → α) (k : Nat) : List α := (List.range k).map f
theorem upto_succ {α : Type} (f : Nat → α) (k : Nat) : upto f (k + 1) = upto f k ++ [f k] := by simp [upto, List.range_succ]
theorem upto_length {α : Type} (f : Nat → α) (k : Nat) : (upto f k).length = k := by simp [upto]
/-- What comes in the round j. -/
def backE (zs : List Ev) (j : Nat) : Nat × Ev := (zs.length - 1 - j, zs[zs.length - 1 - j]!)

set_option maxRecDepth 100000 in
set_option maxHeartbeats 4000000 in
theorem back1_in (F : Fence) (m : Nat) (h22 : F.fn 22) (hro : F.round = none) (hm : 1 ≤ m) (l Bs n cap : Nat) (ao : Option Addr) (zs : List Ev) (hl : zs.length = n) (w0 : World) (hr : RowAt encE 24 w0 (.slice ao n cap) zs) (hc0 : w0.cell? ⟨Bs, 0, none⟩ = some (.slice ao n cap)) (hB0 : Bs < w0.heap.size) (J Jx : List (Nat × Ev) → World → Prop)
    (hY : ∀ pre x W, J pre W → pre.length < n → YieldAt F (m - 1) Try.prog l #[.int .i64 (x.1 : Int), .agg (encE x.2).toArray] W fun e W' =>
      (e = .returned (.bool true) ∧ J (pre ++ [x]) W' ∧ Below w0.heap.size W W') ∨ (e = .returned (.bool false) ∧ Jx (pre ++ [x]) W'))
    (W : World) (hW : Below w0.heap.size w0 W) (h0 : J [] W) :
    CallsIn F m Try.prog 22 #[.func (.yield l) #[] #[], .pointer (some ⟨Bs, 0, none⟩)] W fun e W' => (∃ v, e = .returned v) ∧
      ((∃ ys, ys = upto (backE zs) n ∧ J ys W') ∨ (∃ pre, (∃ k, k ≤ n ∧ pre = upto (backE zs) k) ∧ Jx pre W')) := by
  have zE := zE_ev
  obtain ⟨k24, hk⟩ : ∃ k, k = 24 := ⟨_, rfl⟩
  rw [← hk] at zE
  replace hk := Lib.hid hk
  have hrH := Lib.hid hr
  obtain ⟨_, _, e1, q1, q2, q3⟩ := hr
  injection e1 with e1 e3 e2
  clear e3
  subst e1
  subst e2
  have hnM : n ≤ 9223372036854775807 := by unfold maxLen at q2; omega
  have hcM : cap ≤ 9223372036854775807 := by unfold maxLen at q2; omega
  have HA : Hid (0 < n → ∃ b off, ao = some ⟨b, off, none⟩) := fun hp => by
    obtain ⟨b, off, e, _⟩ := q3 (by omega)
    exact ⟨b, off, e⟩
  rw [hl] at q1
  clear q2 q3
  have hBs := (hW.cell (p := ⟨Bs, 0, none⟩) hB0).trans hc0
  refine callsIn_of_wp Try.func22 rfl h22 ?_ hro
  simp only [Try.ntmps22, List.size_toArray, List.length_cons, List.length_nil, Nat.reduceAdd, Nat.reduceSub, Array.replicate_succ, Array.replicate_zero, List.push_toArray, List.append_toArray, List.nil_append, List.cons_append]
  have hw0 : IntKind.i64.wrap ((n : Int) - 1) = (n : Int) - 1 := IntWalk.i64_in _ (by omega)
  gi_wp2
  gi_loopw [3] (fun i wr => ∃ k : Nat, k ≤ n ∧ i = .int .i64 ((n : Int) - 1 - (k : Int)) ∧ J (upto (backE zs) k) wr ∧ Hid (Below w0.heap.size W wr))
    (fun i _ => (intOf i + 1).toNat)
  case atStart => exact ⟨0, Nat.zero_le _, by go_num, h0, Below.refl _ _⟩
  case round =>
    obtain ⟨k, hkn, rfl, hJs, hnx⟩ := hrel
    have hbr := (hnx.out.cell (p := ⟨Bs, 0, none⟩) hB0).trans hBs
    by_cases hlt : k < n
    · obtain ⟨b, off, rfl⟩ := HA.out (by omega)
      obtain ⟨q, hq⟩ : ∃ q : Nat, q = n - 1 - k := ⟨_, rfl⟩
      have eq1 : (n : Int) - 1 - (k : Int) = (q : Int) := by omega
      have hqn : q < n := by omega
      have LI := ev_row (hrH.out.below (hW.trans hnx.out)) hk.out (show q < zs.length by omega)
      obtain ⟨fn, tmps, assign, body, hy, hR⟩ := hY _ (backE zs k) wr hJs (by rw [upto_length]; exact hlt)
      unfold backE at hy
      dsimp only at hy
      rw [hl, ← hq] at hy
      replace hq := Lib.hid hq
      obtain ⟨y, hy0⟩ : ∃ y, y = zs[q]! := ⟨_, rfl⟩
      rw [← hy0] at hy LI
      replace hy0 := Lib.hid hy0
      have hq0 : (0 : Int) ≤ (q : Int) := by omega
      have hqi : (q : Int) < (n : Int) := by omega
      have hws : IntKind.i64.wrap ((q : Int) - 1) = (q : Int) - 1 := IntWalk.i64_in _ (by omega)
      rw [eq1]
      have hstep : Hid (J (upto (backE zs) k ++ [backE zs k]) = J (upto (backE zs) (k + 1))) := by rw [upto_succ]; rfl
      gi_wp2
      refine hR.mono ?_
      rintro e W3 (⟨rfl, hJ3, hk3⟩ | ⟨rfl, hJx3⟩)
      · have hb3 := (hk3.cell (p := ⟨Bs, 0, none⟩) hB0).trans hbr
        gi_wp2
        go_roundw
        case rel => exact ⟨k + 1, by omega, by rw [← eq1]; go_num, by rw [upto_succ]; exact hJ3, hnx.out.trans hk3⟩
        case measure => simp [intOf] <;> omega
      · gi_wp2
        refine bodyPost_ret (results_none rfl _ _ _) rfl ?_
        exact ⟨⟨_, rfl⟩, .inr ⟨_, ⟨k + 1, by omega, (upto_succ _ _).symm⟩, hJx3⟩⟩
    · obtain rfl : k = n := by omega
      have hneg : ¬ (0 : Int) ≤ (k : Int) - 1 - (k : Int) := by omega
      gi_wp2
      go_end0
      exact ⟨⟨_, rfl⟩, .inl (by first | exact hJs | exact ⟨_, rfl, hJs⟩)⟩

set_option maxHeartbeats 1000000 in
/-- slices.Backward(s): the slice value is boxed; the function value captures the box. -/
theorem back_in (F : Fence) (m : Nat) (h21 : F.fn 21) (hro : F.round = none) (a : Option Addr) (len cap : Nat) (w : World) :
    CallsIn F m Try.prog 21 #[.slice a len cap] w fun e w' => e = .returned (.func (.func 22) #[] #[.pointer (some ⟨w.heap.size, 0, none⟩)]) ∧ w' = w.alloc (.cells #[.slice a len cap] 22) := by
  refine callsIn_of_wp Try.func21 rfl h21 ?_ hro
  simp only [Try.ntmps21, List.size_toArray, List.length_cons, List.length_nil, Nat.reduceAdd, Nat.reduceSub, Array.replicate_succ, Array.replicate_zero, List.push_toArray, List.append_toArray, List.nil_append, List.cons_append]
  gi_wp2
  go_ret
  exact ⟨rfl, rfl⟩

theorem back_stops (F : Fence) (m : Nat) (h22 : F.fn 22) (hro : F.round = none) (hm : 1 ≤ m) (Bs n cap : Nat) (ao : Option Addr) (zs : List Ev) (hl : zs.length = n) (w : World) (hr : RowAt encE 24 w (.slice ao n cap) zs) (hc0 : w.cell? ⟨Bs, 0, none⟩ = some (.slice ao n cap)) (hB0 : Bs < w.heap.size) :
    SeqStopsK F m Try.prog 22 #[.pointer (some ⟨Bs, 0, none⟩)] (fun x : Nat × Ev => #[Value.int .i64 (x.1 : Int), .agg (encE x.2).toArray]) (Below w.heap.size) (fun ys => ys = upto (backE zs) n)
      (fun pre => ∃ k, k ≤ n ∧ pre = upto (backE zs) k) n w := fun l J Jx W hW _ _ hY h0 =>
  back1_in F m h22 hro hm l Bs n cap ao zs hl w hr hc0 hB0 J Jx hY W hW h0

/-- The place of the last event of this kind and task; -1 if there is none. -/
def latN (zs : List Ev) (k t : Int) : Nat → Int
  | 0 => -1
  | m + 1 => if isE k t zs[m]! then (m : Int) else latN zs k t m
theorem latN_skip {zs : List Ev} {k t : Int} {m : Nat} : ∀ n, m ≤ n → (∀ j, m ≤ j → j < n → isE k t zs[j]! = false) → latN zs k t n = latN zs k t m
  | 0, h, _ => by obtain rfl : m = 0 := by omega
                  rfl
  | n + 1, h, hj => by
    by_cases e : m = n + 1
    · rw [e]
    · show (if isE k t zs[n]! then (n : Int) else latN zs k t n) = _
      rw [hj n (by omega) (by omega), if_neg (by decide)]
      exact latN_skip n (by omega) fun j h1 h2 => hj j h1 (by omega)
def latE (zs : List Ev) (k t : Int) : Int := latN zs k t zs.length
theorem lat_none {zs : List Ev} {k t : Int} (h : ∀ p ∈ upto (backE zs) zs.length, isE k t p.2 = false) : latE zs k t = -1 := by
  refine (latN_skip (m := 0) zs.length (Nat.zero_le _) fun j _ hj => ?_).trans rfl
  have := h (backE zs (zs.length - 1 - j)) (by simp only [upto, List.mem_map, List.mem_range]; exact ⟨_, by omega, rfl⟩)
  unfold backE at this
  rwa [show zs.length - 1 - (zs.length - 1 - j) = j by omega] at this
theorem lat_at {zs : List Ev} {k t : Int} {m : Nat} (hm : m < zs.length) (h : ∀ p ∈ upto (backE zs) m, isE k t p.2 = false) (h1 : isE k t (backE zs m).2 = true) : latE zs k t = ((backE zs m).1 : Int) := by
  obtain ⟨q, hq⟩ : ∃ q, q = zs.length - 1 - m := ⟨_, rfl⟩
  have e := latN_skip (zs := zs) (k := k) (t := t) (m := q + 1) zs.length (by omega) fun j h2 hj => by
    have := h (backE zs (zs.length - 1 - j)) (by simp only [upto, List.mem_map, List.mem_range]; exact ⟨_, by omega, rfl⟩)
    unfold backE at this
    rwa [show zs.length - 1 - (zs.length - 1 - j) = j by omega] at this
  unfold backE at h1 ⊢
  dsimp only at h1 ⊢
  rw [← hq] at h1 ⊢
  unfold latE
  rw [e]
  show (if isE k t zs[q]! then (q : Int) else _) = _
  rw [if_pos h1]

theorem boxed_keep {X Y : World} {B : Nat} {t : TypeId} {v : Value} {row : Option Nat} (h : Boxed X B t v) (hg : X.grownBy Y row) (hrow : ∀ r, row = some r → ∃ o : Obj, X.heap[r]? = some o ∧ o.isCells = false) : Boxed Y B t v :=
  boxed_own B t (fun _ : Unit => v) () X Y row h hg hrow
theorem row_keep {X Y : World} {b : Nat} {cs : Array Value} {t : TypeId} {row : Option Nat} (h : X.heap[b]? = some (.cells cs t (0, 0))) (hg : X.grownBy Y row) (hrow : ∀ r, row = some r → ∃ o : Obj, X.heap[r]? = some o ∧ o.isCells = false) : Y.heap[b]? = some (.cells cs t (0, 0)) :=
  (hg.block b (lt_of_at h) (fun e => by obtain ⟨o, ho, hc⟩ := hrow b e.symm; rw [h] at ho; cases ho; cases hc)).trans h

set_option maxRecDepth 100000 in
set_option maxHeartbeats 4000000 in
theorem latest_in (n : Nat) (hn : 3 ≤ n) (ao : Option Addr) (len cap : Nat) (zs : List Ev) (k t : Int) (hl : zs.length = len) (w : World) (hr : RowAt encE 24 w (.slice ao len cap) zs) :
    CallsIn Fence.wide n Try.prog 19 #[.slice ao len cap, .int .i64 k, .int .i64 t] w fun e W' => e = .returned (.int .i64 (latE zs k t)) ∧ Below w.heap.size w W' := by
  have h1 : 1 ≤ n := by omega
  have zE := zE_ev
  obtain ⟨k24, hk⟩ : ∃ k, k = 24 := ⟨_, rfl⟩
  rw [← hk] at zE
  replace hk := Lib.hid hk
  refine callsIn_of_wp_marks Try.func19 rfl trivial ?_ rfl
  simp only [Try.ntmps19, List.size_toArray, List.length_cons, List.length_nil, Nat.reduceAdd, Nat.reduceSub, Array.replicate_succ, Array.replicate_zero, List.push_toArray, List.append_toArray, List.nil_append, List.cons_append]
  gi_wp2_with (refine ⟨trivial, ?_⟩; gi_at_call 21; refine (back_in Fence.wide (n - 1) trivial rfl _ _ _ _).mono ?_; rintro e w' ⟨rfl, rfl⟩)
  have bK := (((Boxed.new w 3 (.int .i64 k)).alloc (.cells #[.int .i64 t] 3)).alloc (.cells #[.int .i64 0] 3)).alloc (.cells #[.slice ao len cap] 22)
  have bT := ((Boxed.new (w.alloc (.cells #[.int .i64 k] 3)) 3 (.int .i64 t)).alloc (.cells #[.int .i64 0] 3)).alloc (.cells #[.slice ao len cap] 22)
  have bR := (Boxed.new ((w.alloc (.cells #[.int .i64 k] 3)).alloc (.cells #[.int .i64 t] 3)) 3 (.int .i64 0)).alloc (.cells #[.slice ao len cap] 22)
  have bS := Boxed.new (((w.alloc (.cells #[.int .i64 k] 3)).alloc (.cells #[.int .i64 t] 3)).alloc (.cells #[.int .i64 0] 3)) 22 (.slice ao len cap)
  have hB0 : Below w.heap.size w ((((w.alloc (.cells #[.int .i64 k] 3)).alloc (.cells #[.int .i64 t] 3)).alloc (.cells #[.int .i64 0] 3)).alloc (.cells #[.slice ao len cap] 22)) :=
    ((((Below.refl _ w).alloc (Nat.le_refl _) _).alloc (by simp) _).alloc (by simp; omega) _).alloc (by simp; omega) _
  simp only [World.size_alloc] at bT bR bS
  obtain ⟨W0, hW0⟩ : ∃ W0, ((((w.alloc (.cells #[.int .i64 k] 3)).alloc (.cells #[.int .i64 t] 3)).alloc (.cells #[.int .i64 0] 3)).alloc (.cells #[.slice ao len cap] 22)) = W0 := ⟨_, rfl⟩
  have hsz : W0.heap.size = w.heap.size + 4 := by rw [← hW0]; simp
  rw [hW0] at bK bT bR bS hB0 ⊢
  clear hW0
  have hr0 := hr.below hB0
  refine wpIn_rangeFunc_ownH rfl h1 (gf := 22) (lb := #[.pointer (some ⟨w.heap.size + 1 + 1 + 1, 0, none⟩)]) rfl trivial (enters_of Try.func22 (by kernel_rfl) rfl)
    (back_stops Fence.wide (n - 1) trivial rfl (by omega) (w.heap.size + 1 + 1 + 1) len cap ao zs hl W0 hr0 bS.cell (by omega)) belowK_t (belowK_b (by omega)) (Below.refl _ _) (fun _ => rfl)
    (fun pre W => (∀ p ∈ pre, isE k t p.2 = false) ∧ Below W0.heap.size W0 W)
    (fun c pre W => (c = .ret ∧ ∃ ini last, pre = ini ++ [last] ∧ (∀ p ∈ ini, isE k t p.2 = false) ∧ isE k t last.2 = true ∧ W.cell? ⟨w.heap.size + 1 + 1, 0, none⟩ = some (.int .i64 (last.1 : Int))) ∧ Below w.heap.size w W)
    (OwnFrom.and (ownFrom_pure _ _) (ownFrom_below (Nat.le_refl _) (Nat.le_refl _)))
    (fun c => OwnFrom.and (Own.from (fun s A B row hs hg hr => by obtain ⟨hc, ini, last, e1, e2, e3, e4⟩ := hs; exact ⟨hc, ini, last, e1, e2, e3, cell_kept e4 hg hr⟩) _) (ownFrom_below (Nat.le_refl _) (by omega)))
    ⟨by simp, Below.refl _ _⟩
    (fun x a' W => ∃ Bx, W.heap[Bx]? = some (.cells (encE x.2).toArray 36 (0, 0)) ∧ a' = { tmps := #[.slice ao len cap, .int .i64 k, .int .i64 t, undef, .pointer (some ⟨w.heap.size, 0, none⟩), .pointer (some ⟨w.heap.size + 1, 0, none⟩), .pointer (some ⟨w.heap.size + 1 + 1, 0, none⟩), .int .i64 (x.1 : Int), .pointer (some ⟨Bx, 0, none⟩), .slice ao len cap, .func (.func 22) #[] #[.pointer (some ⟨w.heap.size + 1 + 1 + 1, 0, none⟩)], .int .i64 (x.1 : Int), .agg (encE x.2).toArray, undef, undef, undef, undef, undef], defers := [] })
    (fun x a' _ X Y row hs hg hr => by obtain ⟨Bx, h2, h3⟩ := hs; exact ⟨Bx, row_keep h2 hg (fun r e => (hr r e).2), h3⟩)
    ?assign ?body ?done ?stop
  case assign =>
    rintro l pre ⟨xi, y⟩ W K ⟨hp, hB⟩ hK
    have lI := encE_len y
    have st1 : Sem.run Try.prog (storeCells ⟨W.heap.size, 0, none⟩ (encE y) 0) (W.alloc (.cells #[.int .i64 0, .int .i64 0, .int .i64 0, .int .i64 0, .int .i64 0, .int .i64 0, .int .i64 0, .int .i64 0, .int .i64 0, .bool false, .int .i64 0, .int .i64 0, .int .i64 0, .int .i64 0, .int .i64 0, .int .i64 0, .int .i64 0, .int .i64 0, .int .i64 0, .int .i64 0, .int .i64 0, .int .i64 0, .int .i64 0, .bool false] 36)) = .ok () (W.alloc (.cells (encE y).toArray 36)) := store_new W W.heap.size (encE y) (encE default) 36 rfl (by rw [encE_len, encE_len]) (encE_one _)
    rw [← hk.out] at lI
    have hn := heap_alloc_new W (.cells (encE y).toArray 36)
    dsimp only
    gi_wp2
    exact hK _ _ ((KeepsOthers.alloc _ _).from _) ((Below.refl _ W).alloc hB.size _) ⟨hp, hB.alloc hB.size _⟩ ⟨W.heap.size, hn, rfl⟩
  case body =>
    rintro l pre ⟨xi, y⟩ a' W hl2 ⟨r, hr2⟩ ⟨hp, hB⟩ ⟨Bx, hX, rfl⟩ hlt
    have b1 : Boxed W w.heap.size 3 (.int .i64 k) := (hB.block _ (by omega)).trans bK
    have b2 : Boxed W (w.heap.size + 1) 3 (.int .i64 t) := (hB.block _ (by omega)).trans bT
    have b3 : Boxed W (w.heap.size + 1 + 1) 3 (.int .i64 0) := (hB.block _ (by omega)).trans bR
    have cK := b1.cell
    have cT := b2.cell
    have LB := ev_load hX hk.out
    have hsW := hB.size
    have h1' : 1 ≤ n - 1 - 1 := by omega
    have hBw : Below w.heap.size w W := hB0.trans (hB.mono hB0.size)
    by_cases hy : isE k t y = true
    · have dm : (decide (y.kd = k) && decide (y.tk = t)) = true := hy
      gi_wp2_with (refine ⟨trivial, ?_⟩; gi_at_call 18; refine (CallsIn.inRound l (callsIn_wide.2 (is_fn y k t W))).mono ?_; rintro e w2 ⟨rfl, hw2⟩
                   have b4 : Boxed w2 (w.heap.size + 1 + 1) 3 (.int .i64 0) := by rw [hw2]; exact b3.alloc _
                   have c4 := b4.cell
                   have f4 := b4.frozen
                   have hk2 : KeepsOthers W w2 := by rw [hw2]; exact KeepsOthers.alloc _ _
                   have hb2 : Below w.heap.size w w2 := by rw [hw2]; exact hBw.alloc hBw.size _
                   replace hw2 := Lib.hid hw2)
      exact ⟨(hk2.trans (KeepsOthers.setCell _ _ _)).from _, ⟨rfl, pre, (xi, y), rfl, hp, hy, World.cell?_setCell_same' _ _ _ (by rw [c4]; rfl)⟩, hb2.setCell (p := ⟨w.heap.size + 1 + 1, 0, none⟩) (by simp only; omega) _⟩
    · have dm : (decide (y.kd = k) && decide (y.tk = t)) = false := by simpa [isE] using hy
      gi_wp2_with (refine ⟨trivial, ?_⟩; gi_at_call 18; refine (CallsIn.inRound l (callsIn_wide.2 (is_fn y k t W))).mono ?_; rintro e w2 ⟨rfl, hw2⟩
                   have hk2 : KeepsOthers W w2 := by rw [hw2]; exact KeepsOthers.alloc _ _
                   have hb2 : Below W0.heap.size W w2 := by rw [hw2]; exact (Below.refl _ _).alloc hsW _
                   replace hw2 := Lib.hid hw2)
      exact ⟨hk2.from _, hb2, ⟨fun p hp' => (List.mem_append.1 hp').elim (hp p) (fun e => by simp at e; subst e; simpa using hy), hB.trans hb2⟩⟩
  case done =>
    rintro D ys W hD rfl ⟨hp, hB⟩ hK
    have b3 : Boxed W (w.heap.size + 1 + 1) 3 (.int .i64 0) := (hB.block _ (by omega)).trans bR
    have c3 := b3.cell
    have f3 := b3.frozen
    have hBw : Below w.heap.size w W := hB0.trans (hB.mono hB0.size)
    gi_wp2
    have hK' := (KeepsOthers.setCell W ⟨w.heap.size + 1 + 1, 0, none⟩ (.int .i64 (-1))).same D _ hK rfl
    refine ⟨by simp, .inl ⟨_, _, rfl, run_takeDeferred hK', ?_⟩⟩
    have hc5 := cell_kept (World.cell?_setCell_same' W ⟨w.heap.size + 1 + 1, 0, none⟩ (.int .i64 (-1)) (by rw [c3]; rfl)) (grownBy_putObj' _ D (.deferred none)) (fun r e => by cases e; exact ⟨_, hK', rfl⟩)
    refine ⟨.int .i64 (-1), ?_, by rw [lat_none (by rw [hl]; exact hp)], (hBw.setCell (p := ⟨w.heap.size + 1 + 1, 0, none⟩) (by simp only; omega) _).trans (belowK_b (w := w) (Nat.le_refl _) _ D _ _ (by omega) hK' rfl rfl)⟩
    simp [results, Try.f19, go_sem, hc5]
  case stop =>
    rintro D c pre W hD ⟨m, hm, rfl⟩ ⟨⟨rfl, ini, last, e1, e2, e3, hcr⟩, hB⟩ hK
    gi_wp2
    refine ⟨by simp, .inl ⟨_, _, rfl, run_takeDeferred hK, ?_⟩⟩
    have hc5 := cell_kept hcr (grownBy_putObj' _ D (.deferred none)) (fun r e => by cases e; exact ⟨_, hK, rfl⟩)
    obtain ⟨m', rfl⟩ : ∃ m', m = m' + 1 := by
      cases m with
      | zero => simp [upto] at e1
      | succ m' => exact ⟨m', rfl⟩
    rw [upto_succ] at e1
    obtain ⟨rfl, e5⟩ := List.append_inj' e1 rfl
    obtain rfl : backE zs m' = last := by simpa using e5
    refine ⟨.int .i64 ((backE zs m').1 : Int), ?_, by rw [lat_at (by omega) e2 e3], hB.trans (belowK_b (w := w) (Nat.le_refl _) W D _ _ (by omega) hK rfl rfl)⟩
    simp [results, Try.f19, go_sem, hc5]

theorem latest_fn (v : Value) (zs : List Ev) (k t : Int) (w : World) (hr : RowAt encE 24 w v zs) : Calls Try.prog 19 #[v, .int .i64 k, .int .i64 t] w fun e w' => e = .returned (.int .i64 (latE zs k t)) ∧ Below w.heap.size w w' := by
  have hr2 := hr
  obtain ⟨ao, cap, rfl, _⟩ := hr
  exact callsIn_wide.1 (latest_in 5 (by omega) ao zs.length cap zs k t rfl w hr2)
theorem latN_ge (zs : List Ev) (k t : Int) : ∀ n : Nat, -1 ≤ latN zs k t n ∧ latN zs k t n < n
  | 0 => ⟨Int.le_refl _, by show (-1 : Int) < 0; omega⟩
  | n + 1 => by
    have := latN_ge zs k t n
    show -1 ≤ (if isE k t zs[n]! then (n : Int) else latN zs k t n) ∧ (if isE k t zs[n]! then (n : Int) else latN zs k t n) < _
    split <;> omega

def earlyF (zs : List Ev) (a b : Int) : Bool := decide (0 ≤ latE zs 3 a) && decide (latE zs 3 a < latE zs 1 b)
theorem Early_fn (v : Value) (zs : List Ev) (a b : Int) (w : World) (hr : RowAt encE 24 w v zs) : Calls Try.prog 16 #[v, .int .i64 a, .int .i64 b] w fun e w' => e = .returned (.bool (earlyF zs a b)) ∧ Below w.heap.size w w' := by
  have g1 := latest_fn v zs 3 a w hr
  have g2 := fun (w1 : World) (h : Below w.heap.size w w1) => latest_fn v zs 1 b w1 (hr.below h)
  have ef : earlyF zs a b = (decide (0 ≤ latE zs 3 a) && decide (latE zs 3 a < latE zs 1 b)) := rfl
  rw [ef]
  clear ef
  generalize latE zs 3 a = p at *
  generalize latE zs 1 b = q at *
  by_cases h1 : 0 ≤ p
  · by_cases h2 : p < q
    · have d2 : decide (p < q) = true := decide_eq_true h2
      have d1 : decide (0 ≤ p) = true := decide_eq_true h1
      go_enter Try.func16, Try.ntmps16
      go_wp2_with (first | (go_at_call 19; refine g1.mono ?_; clear g1; rintro e w1 ⟨rfl, hb1⟩; have g3 := g2 w1 hb1; clear g2) | (go_at_call 19; refine g3.mono ?_; clear g3; rintro e w2 ⟨rfl, hb2⟩))
      go_ret
      exact ⟨by simp [d1, d2], Below.add hb1 hb2⟩
    · have d2 : decide (p < q) = false := decide_eq_false h2
      have d1 : decide (0 ≤ p) = true := decide_eq_true h1
      go_enter Try.func16, Try.ntmps16
      go_wp2_with (first | (go_at_call 19; refine g1.mono ?_; clear g1; rintro e w1 ⟨rfl, hb1⟩; have g3 := g2 w1 hb1; clear g2) | (go_at_call 19; refine g3.mono ?_; clear g3; rintro e w2 ⟨rfl, hb2⟩))
      go_ret
      exact ⟨by simp [d1, d2], Below.add hb1 hb2⟩
  · have d1 : decide (0 ≤ p) = false := decide_eq_false h1
    go_enter Try.func16, Try.ntmps16
    go_wp2_with (first | (go_at_call 19; refine g1.mono ?_; clear g1; rintro e w1 ⟨rfl, hb1⟩; have g3 := g2 w1 hb1; clear g2) | (go_at_call 19; refine g3.mono ?_; clear g3; rintro e w2 ⟨rfl, hb2⟩))
    go_ret
    exact ⟨by simp [d1], Below.add hb1 hb2⟩

end Go.Proofs.Ytdlfbkiihkhmmaa
