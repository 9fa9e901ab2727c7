/-
  Own walk: the statement that there is always one who goes on.
-/
import Derived.Test.YtlenhkmddmlknaaLkD
import Derived.Test.YtlenhkmddmlknaaLkE
import Derived.Test.YtlenhkmddmlknaaRuW
import Derived.Test.YtlenhkmddmlknaaInts
import Derived.Deep.CutRange
namespace Go.Proofs.Ytlenhkmddmlknaa
set_option maxRecDepth 8000
open Go.RowKit Go.Lib

/-- Whoever holds a lock wants a later one next, or none. -/
def GoInv (L : Lk) (xs : List Int) : Prop := ∀ k : Int, (k = 0 ∨ k = 1 ∨ k = 2) → L.own k = 0 ∨ ∃ j : Nat, L.own k = (j : Int) + 1 ∧ j < xs.length ∧ k < xs.getD j 0
def goesX (L : Lk) (x : Int) : Bool := decide (3 ≤ x) || (L.own x == 0)
theorem own_out (L : Lk) {x : Int} (h : ¬ L.own x = 0) : x = 0 ∨ x = 1 ∨ x = 2 := by
  rcases Classical.em (x = 0 ∨ x = 1 ∨ x = 2) with h1 | h1
  · exact h1
  · exact absurd (by unfold Lk.own; rw [if_neg (by omega), if_neg (by omega), if_neg (by omega)]) h
theorem goes_any {L : Lk} {xs : List Int} (h : GoInv L xs) (hn : 0 < xs.length) : xs.any (goesX L) = true := by
  rcases Bool.eq_false_or_eq_true (xs.any (goesX L)) with e | e
  · exact e
  exfalso
  have H : ∀ j, j < xs.length → xs.getD j 0 < 3 ∧ ¬ L.own (xs.getD j 0) = 0 := by
    intro j hj
    have hm : xs.getD j 0 ∈ xs := by rw [getD_of hj]; exact List.getElem_mem _
    have h1 : ¬ goesX L (xs.getD j 0) = true := fun h2 => by
      rw [List.any_eq_true.2 ⟨_, hm, h2⟩] at e; cases e
    generalize xs.getD j 0 = x at h1
    refine ⟨?_, fun h4 => h1 (by unfold goesX; rw [h4]; simp)⟩
    rcases Int.lt_or_le x 3 with h3 | h3
    · exact h3
    · exact absurd (by unfold goesX; rw [decide_eq_true h3]; rfl) h1
  have z2 : L.own 2 = 0 := by
    rcases h 2 (by omega) with h1 | ⟨j, _, hj, hk⟩
    · exact h1
    · have := (H j hj).1; omega
  have z1 : L.own 1 = 0 := by
    rcases h 1 (by omega) with h1 | ⟨j, _, hj, hk⟩
    · exact h1
    · have h3 := H j hj
      rw [show xs.getD j 0 = 2 by omega] at h3
      exact absurd z2 h3.2
  have z0 : L.own 0 = 0 := by
    rcases h 0 (by omega) with h1 | ⟨j, _, hj, hk⟩
    · exact h1
    · have h3 := H j hj
      rcases own_out L h3.2 with e0 | e0 | e0
      · omega
      · rw [e0] at h3; exact absurd z1 h3.2
      · rw [e0] at h3; exact absurd z2 h3.2
  have h3 := H 0 hn
  rcases own_out L h3.2 with e0 | e0 | e0
  · rw [e0] at h3; exact h3.2 z0
  · rw [e0] at h3; exact h3.2 z1
  · rw [e0] at h3; exact h3.2 z2
theorem put_own (L : Lk) (x v k : Int) (hx : x = 0 ∨ x = 1 ∨ x = 2) (m : Int) : ({ L.put x v with n := m } : Lk).own k = if k = x then v else L.own k := by
  unfold Lk.own Lk.put
  dsimp only
  rcases hx with rfl | rfl | rfl
  · by_cases h0 : k = 0
    · simp [h0]
    · simp [h0]
  · by_cases h0 : k = 0
    · subst h0; simp
    · by_cases h1 : k = 1
      · subst h1; simp
      · simp [h0, h1]
  · by_cases h0 : k = 0
    · subst h0; simp
    · by_cases h1 : k = 1
      · subst h1; simp
      · by_cases h2 : k = 2
        · subst h2; simp
        · simp [h0, h1, h2]
theorem getD_set1 (l : List Int) (i j : Nat) (v : Int) (hi : i < l.length) : (l.set i v).getD j 0 = if j = i then v else l.getD j 0 := by
  simp only [List.getD_eq_getElem?_getD, List.getElem?_set]
  by_cases e : i = j
  · subst e; simp [hi]
  · rw [if_neg e, if_neg (by omega)]
theorem try_inv {L : Lk} {xs : List Int} (h : GoInv L xs) {k : Nat} (hk : k < xs.length) {x y : Int} (hx : xs.getD k 0 = x) (he : L.tryE x ((k : Int) + 1) = 0) (hy : x < y) : GoInv (L.tryL x ((k : Int) + 1)) (xs.set k y) := by
  have hl : lackF x ((k : Int) + 1) = false := by
    cases e : lackF x ((k : Int) + 1)
    · rfl
    · unfold Lk.tryE at he; rw [if_pos e] at he; exact absurd he (by decide)
  have hx3 := (lack_not hl).1
  unfold Lk.tryL
  rw [if_pos he]
  intro q hq
  rw [put_own L x _ q hx3]
  by_cases e : q = x
  · rw [if_pos e]
    refine .inr ⟨k, rfl, by rw [List.length_set]; exact hk, ?_⟩
    rw [getD_set1 _ _ _ _ hk, if_pos rfl]; omega
  · rw [if_neg e]
    rcases h q hq with h1 | ⟨j, h1, h2, h3⟩
    · exact .inl h1
    · refine .inr ⟨j, h1, by rw [List.length_set]; exact h2, ?_⟩
      rw [getD_set1 _ _ _ _ hk]
      by_cases ej : j = k
      · subst ej; rw [if_pos rfl]; omega
      · rw [if_neg ej]; exact h3
theorem try_n (L : Lk) (x who : Int) : L.n ≤ (L.tryL x who).n ∧ (L.tryL x who).n ≤ L.n + 1 := by
  unfold Lk.tryL; split <;> (try dsimp only) <;> omega
theorem nextF_ge (a b c : Bool) {f : Int} (h0 : 0 ≤ f) (h3 : f ≤ 3) : f ≤ nextF a b c f ∧ nextF a b c f ≤ 3 := by
  unfold nextF
  repeat' split
  all_goals omega
theorem inv_none (xs : List Int) : GoInv ⟨0, 0, 0, 0⟩ xs := by
  intro k _; left; unfold Lk.own; repeat' split
  all_goals rfl

def nL (l : List Int) : List Value := l.map (Value.int .i64)
theorem nL_set (l : List Int) (i : Nat) (v : Int) : nL (l.set i v) = (nL l).set i (.int .i64 v) := by simp [nL, List.map_set]
theorem nL_get {l : List Int} {i : Nat} (hi : i < l.length) : (nL l)[i]? = some (.int .i64 (l.getD i 0)) := by simp [nL, hi]
theorem nL_made (n : Nat) : (madeCells #[Value.int .i64 0] n).toList = nL (List.replicate n 0) := by
  rw [toList_madeCells_one]; simp [nL]

/-- The locks and the row of what each wants next, in memory. -/
structure GS (B : Nat) (w : World) (s g n : Nat) (L : Lk) (xs : List Int) : Prop where
  x : LkAt 26 w s L
  r : w.ownsRow B 3 1 (.slice (some ⟨g, 0, none⟩) n n) n (nL xs)
  len : xs.length = n
  bs : B ≤ s
section
variable {B : Nat} {w w' : World} {s g n : Nat} {L L' : Lk} {xs : List Int}
theorem GS.at_ (h : GS B w s g n L xs) : ∃ cur, w.heap[g]? = some (.cells cur 3 (0, 0)) := by
  obtain ⟨cur, hg, _⟩ := Put.own_heap h.r
  exact ⟨cur, hg⟩
theorem GS.apart (h : GS B w s g n L xs) : s ≠ g := by
  obtain ⟨cur, hg⟩ := h.at_
  exact Put.apart_types h.x hg (by decide)
theorem GS.bg (h : GS B w s g n L xs) : B ≤ g := (h.r.lt g rfl).1
theorem GS.cell (h : GS B w s g n L xs) {i : Nat} (hi : i < n) : w.cell? ⟨g, i, none⟩ = some (.int .i64 (xs.getD i 0)) := by
  have c0 := h.r.cells (g := g) rfl i _ (nL_get (by rw [h.len]; exact hi))
  rw [Go.WideShapes.add_plain] at c0
  simpa using c0
theorem GS.fz (h : GS B w s g n L xs) (i : Nat) : w.frozen? ⟨g, i, none⟩ = false := by
  obtain ⟨cur, hg⟩ := h.at_
  simp [World.frozen?, hg]
theorem GS.below (h : GS B w s g n L xs) (hb : Below w.heap.size w w') : GS B w' s g n L xs := ⟨h.x.below hb h.x.lt, Put.own_kept h.r hb, h.len, h.bs⟩
theorem GS.off (h : GS B w s g n L xs) (ho : Put.Off s s w w') (hx : LkAt 26 w' s L') : GS B w' s g n L' xs := by
  refine ⟨hx, ho.own h.r fun k hk => ?_, h.len, h.bs⟩
  cases hk
  exact ⟨h.apart.symm, h.apart.symm⟩
theorem GS.set (h : GS B w s g n L xs) (i : Nat) (v : Int) : GS B (w.setCell ⟨g, i, none⟩ (.int .i64 v)) s g n L (xs.set i v) := by
  refine ⟨?_, ?_, by rw [List.length_set]; exact h.len, h.bs⟩
  · show _ = _
    rw [Below.heap_setCell w ⟨g, i, none⟩ _ s h.apart]; exact h.x
  · rw [nL_set]; exact (h.r.stored i (.int .i64 v)).1
theorem GS.size (h : GS B w s g n L xs) : B ≤ w.heap.size := Nat.le_of_lt (Nat.lt_of_le_of_lt h.bs h.x.lt)
end
theorem infoN : (Try.prog.info? 3).map (fun i => (i.zero, i.size, i.bytes)) = some (some (.int .i64 0), 1, 8) := by kernel_rfl

set_option maxRecDepth 100000 in
set_option maxHeartbeats 8000000 in
theorem lockGoes_walk (v1 : Value) (lx : List B3) (zs : List Int) (v2 : Value) (w : World) (hr : RowAt encB3 3 w v1 lx) (hz : IntsAt w v2 zs) :
    Calls Try.prog 4 #[v1, v2] w fun e w' => e = .returned (.bool true) ∧ Below w.heap.size w w' := by
  have hrH := Lib.hid hr
  obtain ⟨ao, cap, rfl, hlc, hcm, _⟩ := hr
  have hzH := Lib.hid hz
  obtain ⟨ao2, cap2, rfl, hlc2, hcm2, _⟩ := hz.shape
  have hlm : lx.length ≤ 9223372036854775807 := by unfold maxLen at hcm; omega
  have hlm2 : zs.length ≤ 9223372036854775807 := by unfold maxLen at hcm2; omega
  clear hcm hcm2 hz
  go_enter Try.func4, Try.ntmps4
  go_upto_if 14 with fail
  go_cut [0] from 12 (fun u wd => ∃ a5 c5 n5, ∃ r : List B3, u = .slice a5 n5 c5 ∧ r.length = n5 ∧ n5 ≤ 8 ∧ Hid (RowAt encB3 3 w (.slice a5 n5 c5) r) ∧ w = wd)
  case first =>
    by_cases hlt : 8 < lx.length
    · have hc := hrH.out.cut (n := 8) (by omega)
      have hl2 : Hid ((lx.take 8).length = 8) := by show _ = _; rw [List.length_take]; omega
      replace hc := Lib.hid hc
      have b1 : 8 ≤ cap := by omega
      have b2 : (8 : Int) < (lx.length : Int) := by omega
      clear hlt
      go_wp2_with fail
      go_meet
      case rel => exact ⟨ao, cap, 8, _, rfl, hl2.out, by omega, hc.out, rfl⟩
    · have hl2 : Hid (lx.length ≤ 8) := by show _ ≤ _; omega
      go_wp2_with fail
      go_meet
      case rel => exact ⟨ao, cap, _, _, rfl, rfl, hl2.out, hrH.out, rfl⟩
  case rest =>
    obtain ⟨a5, c5, n, r, rfl, hrn, hn8, hR, rfl⟩ := hcut
    clear hrH hlc hlm
    obtain ⟨i0, hi, hz0, hz1, hz2⟩ := info_parts infoN
    obtain ⟨B, hB⟩ : ∃ B, B = w.heap.size := ⟨_, rfl⟩
    obtain ⟨_, _, e1, x1, x2, x3⟩ := hR.out
    injection e1 with e1 e3 e2
    clear e3
    subst e1
    subst e2
    rw [hrn] at x1 x3
    replace x3 := Lib.hid x3
    have hc5 : c5 ≤ 9223372036854775807 := by unfold maxLen at x2; exact x2
    clear x2
    obtain ⟨w1, hw1⟩ : ∃ w1, w1 = w.alloc (.cells #[.int .i64 0, .int .i64 0, .int .i64 0, .int .i64 0] 26) := ⟨_, rfl⟩
    have hb1 : Below w.heap.size w w1 := by rw [hw1]; exact (Below.refl _ _).alloc (Nat.le_refl _) _
    have hs1 : w1.heap.size = w.heap.size + 1 := by rw [hw1]; simp
    have hL1 : LkAt 26 w1 w.heap.size ⟨0, 0, 0, 0⟩ := by rw [hw1]; exact heap_alloc_new w _
    rw [← hB] at hb1 hL1 hs1
    replace hL1 := Lib.hid hL1
    replace hb1 := Lib.hid hb1
    replace hrn := Lib.hid hrn
    go_upto_region 4 with fail
    rw [← hw1, ← hB]
    replace hw1 := Lib.hid hw1
    have hfin : Hid (∀ W, Below B w W → Below w.heap.size w W) := fun W h => by rw [hB] at h; exact h
    replace hB := Lib.hid hB
    go_wp2_with (at_make; refine wpList_make_full w1 rfl _ _ 41 rfl (B + 1) 3 i0 (.int .i64 0) 1 Try.underlying41 hi hz0 hz1 .i64 .i64 n n n rfl rfl rfl rfl (by rw [hz2]; omega) (by unfold maxLen; omega) (by omega) ?_)
    intro w2 hown hg2
    have hb2 : Hid (Below B w w2) := hb1.out.trans ((Below.refl _ _).grown hg2 (by omega) fun k hk => by cases hk)
    rw [nL_made] at hown
    have hG2 : Hid (GS B w2 B (B + 1) n ⟨0, 0, 0, 0⟩ (List.replicate n 0)) := by
      have hb : Below w1.heap.size w1 w2 := (Below.refl _ _).grown hg2 (Nat.le_refl _) fun k hk => by cases hk
      exact ⟨hL1.out.below hb (by omega), ownsRow_mono hown (by omega), by simp, Nat.le_refl _⟩
    clear hown hg2 hL1 hb1
    clear hs1
    obtain ⟨g, hg⟩ : ∃ g, g = B + 1 := ⟨_, rfl⟩
    obtain ⟨s, hs⟩ : ∃ s, s = B := ⟨_, rfl⟩
    have hG3 : Hid (GS B w2 s g n ⟨0, 0, 0, 0⟩ (List.replicate n 0)) := by rw [hg, hs]; exact hG2
    rw [← hg]
    go_wp2_with fail
    rw [← hs]
    replace hg := Lib.hid hg
    replace hs := Lib.hid hs
    clear hG2
    go_loopw [7] (fun ii wr => ∃ (i : Nat) (xs : List Int), i ≤ n ∧ ii = .int .i64 i ∧ Hid (GS B wr s g n ⟨0, 0, 0, 0⟩ xs) ∧ Hid (Below B w wr)) (fun ii _ => 8 - (intOf ii).toNat)
    case atStart => exact ⟨0, _, Nat.zero_le _, rfl, hG3.out, hb2.out⟩
    case round =>
      obtain ⟨i, xs, hi, rfl, hG, hb⟩ := hrel
      clear hG3 hb2
      rename World => wq
      have hwi : IntKind.i64.wrap ((i : Int) + 1) = (i : Int) + 1 := IntWalk.i64_in _ (by omega)
      by_cases hlt : i < n
      · obtain ⟨b, off, rfl, hbw, hcell⟩ := x3.out (by omega)
        obtain ⟨x, hx⟩ : ∃ x, r[i]? = some x := ⟨_, List.getElem?_eq_getElem (by rw [hrn.out]; exact hlt)⟩
        obtain ⟨xa, xb, xc⟩ := x
        have c0 : w.cell? ⟨b, off + i * 3, none⟩ = some (.bool xa) := hcell i _ 0 _ hx rfl
        have c1 : w.cell? ⟨b, off + i * 3 + 1, none⟩ = some (.bool xb) := hcell i _ 1 _ hx rfl
        have c2 : w.cell? ⟨b, off + i * 3 + 2, none⟩ = some (.bool xc) := hcell i _ 2 _ hx rfl
        rw [← hb.out.cell (p := ⟨b, off + i * 3, none⟩) (by rw [hB.out]; exact hbw)] at c0
        rw [← hb.out.cell (p := ⟨b, off + i * 3 + 1, none⟩) (by rw [hB.out]; exact hbw)] at c1
        rw [← hb.out.cell (p := ⟨b, off + i * 3 + 2, none⟩) (by rw [hB.out]; exact hbw)] at c2
        have hN := Next_fn xa xb xc 0 (by omega) wq
        unfold laneV at hN
        obtain ⟨y, hy⟩ : ∃ y, y = nextF xa xb xc 0 := ⟨_, rfl⟩
        rw [← hy] at hN
        have kc := hG.out.cell hlt
        have kf := hG.out.fz i
        obtain ⟨ox, hox⟩ : ∃ ox, ox = xs.getD i 0 := ⟨_, rfl⟩
        rw [← hox] at kc
        have b0 : (0 : Int) ≤ i := by omega
        have b3 : (i : Int) < (n : Int) := by omega
        clear hcell hx hbw hy hox
        go_wp2_with fail
        go_at_call 12
        refine hN.mono ?_
        clear hN
        rintro e w3 ⟨rfl, hb3⟩
        have kc3 := (hG.out.below hb3).cell hlt
        have kf3 := (hG.out.below hb3).fz i
        obtain ⟨ox3, hox3⟩ : ∃ ox, ox = xs.getD i 0 := ⟨_, rfl⟩
        rw [← hox3] at kc3
        have hG4 : Hid (GS B (w3.setCell ⟨g, i, none⟩ (.int .i64 y)) s g n ⟨0, 0, 0, 0⟩ (xs.set i y)) := (hG.out.below hb3).set i y
        have hb4 : Hid (Below B w (w3.setCell ⟨g, i, none⟩ (.int .i64 y))) := (hb.out.trans (hb3.mono hG.out.size)).setCell hG.out.bg _
        clear hb3 c0 c1 c2 kc kf hox3
        go_wp2_with fail
        go_roundw
        case rel => exact ⟨i + 1, _, by omega, by go_num, hG4.out, hb4.out⟩
        case measure => simp [intOf]; omega
      · have d1 : ¬ (i : Int) < (n : Int) := by omega
        have hI0 : Hid (GoInv ⟨0, 0, 0, 0⟩ xs) := inv_none xs
        clear hi hlt hwi
        go_wp2_with fail
        go_loopw [8] (fun ii wr => ∃ (m : Nat) (L : Lk) (xs : List Int), m ≤ 40 ∧ m ≤ zs.length ∧ ii = .int .i64 m ∧ Hid (GS B wr s g n L xs) ∧ Hid (GoInv L xs) ∧ Hid (0 ≤ L.n ∧ L.n ≤ m) ∧ Hid (Below B w wr)) (fun ii _ => 40 - (intOf ii).toNat)
        case atStart => exact ⟨0, _, _, Nat.zero_le _, Nat.zero_le _, rfl, hG.out, hI0.out, ⟨Int.le_refl 0, Int.le_refl 0⟩, hb.out⟩
        case round =>
          obtain ⟨m, L, ys, hm40, hmz, rfl, hG, hI, hn, hb⟩ := hrel
          clear hI0
          rename World => wa
          rename GoInv _ _ => hI
          by_cases hgo : m < zs.length ∧ m < 40 ∧ 0 < n
          · obtain ⟨hmz2, hm2, hn0⟩ := hgo
            have e1 : decide ((m : Int) < (zs.length : Int)) = true := decide_eq_true (by omega)
            have e2 : decide ((m : Int) < 40) = true := decide_eq_true (by omega)
            have e3 : decide (0 < (n : Int)) = true := decide_eq_true (by omega)
            obtain ⟨_, _, q1, _, _, q4⟩ := hzH.out.shape
            injection q1 with q1 q5 q6
            clear q5 q6
            subst q1
            obtain ⟨b2, off2, rfl, hbw2, hcell2⟩ := q4 (by intro e; subst e; simp at hmz2)
            have ct := hcell2 m hmz2
            rw [← hb.out.cell (p := ⟨b2, off2 + m, none⟩) (by rw [hB.out]; exact hbw2)] at ct
            obtain ⟨t, ht⟩ : ∃ t, t = zs.getD m 0 := ⟨_, rfl⟩
            rw [← ht] at ct
            obtain ⟨rr, hrr⟩ : ∃ rr, t.tmod (n : Int) = rr := ⟨_, rfl⟩
            have r1 : rr < n := by rw [← hrr]; exact Int.tmod_lt_of_pos t (by omega)
            have r2 : -(n : Int) < rr := by rw [← hrr]; exact Int.lt_tmod_of_pos t (by omega)
            have hn1 : ¬ (n : Int) = 0 := by omega
            have b0 : (0 : Int) ≤ m := by omega
            have b3 : (m : Int) < (zs.length : Int) := by omega
            have hwm : IntKind.i64.wrap ((m : Int) + 1) = (m : Int) + 1 := IntWalk.i64_in _ (by omega)
            clear hcell2 hbw2 ht q4
            go_upto_if 59 with fail
            go_cut [9] from 36 to 117 (fun u wd => ∃ k : Nat, u = .int .i64 k ∧ k < n ∧ wa = wd)
            case first =>
              by_cases hneg : rr < 0
              · have hwk : IntKind.i64.wrap (rr + (n : Int)) = rr + (n : Int) := IntWalk.i64_in _ (by omega)
                obtain ⟨k, hk⟩ : ∃ k : Nat, rr + (n : Int) = (k : Int) := ⟨(rr + n).toNat, by omega⟩
                have hkn : k < n := by omega
                rw [hk] at hwk
                have hwk2 : IntKind.i64.wrap (rr + (n : Int)) = (k : Int) := by rw [hk]; exact hwk
                clear r1 r2 hk hwk
                go_wp2_with fail
                go_meet
                case rel => exact ⟨k, rfl, hkn, rfl⟩
              · obtain ⟨k, rfl⟩ := Int.eq_ofNat_of_zero_le (show 0 ≤ rr by omega)
                have hkn : k < n := by omega
                clear r1 r2
                go_wp2_with fail
                go_meet
                case rel => exact ⟨k, rfl, hkn, rfl⟩
            case rest =>
              obtain ⟨k, rfl, hkn, rfl⟩ := hcut
              clear ct hrr r1 r2 hn1
              have kx := hG.out.cell hkn
              obtain ⟨x, hx⟩ : ∃ x, ys.getD k 0 = x := ⟨_, rfl⟩
              rw [hx] at kx
              have b4 : (0 : Int) ≤ k := by omega
              have b5 : (k : Int) < (n : Int) := by omega
              have hwk : IntKind.i64.wrap ((k : Int) + 1) = (k : Int) + 1 := IntWalk.i64_in _ (by omega)
              have hkl : k < ys.length := by rw [hG.out.len]; exact hkn
              replace hx := Lib.hid hx
              replace hkl := Lib.hid hkl
              go_upto_region 15 with fail
              go_cut [79] from 36 to 117 (fun u wd => ∃ (bt : Bool) (L2 : Lk), u = .bool bt ∧ Hid (GS B wd s g n L2 ys) ∧ Hid (0 ≤ L2.n ∧ L2.n ≤ m + 1) ∧ Hid (Below B w wd) ∧ Hid (bt = false → GoInv L2 ys) ∧ Hid (bt = true → (0 ≤ x ∧ x < 3) ∧ ∀ y, x < y → GoInv L2 (ys.set k y)))
              case first =>
                by_cases hx3 : x < 3
                · have hT := Try_fn x ((k : Int) + 1) hG.out.x (by have := hn.out; omega)
                  obtain ⟨te, hte⟩ : ∃ te, te = L.tryE x ((k : Int) + 1) := ⟨_, rfl⟩
                  obtain ⟨L2, hL2⟩ : ∃ L2, L2 = L.tryL x ((k : Int) + 1) := ⟨_, rfl⟩
                  rw [← hte, ← hL2] at hT
                  have hn2 : Hid (0 ≤ L2.n ∧ L2.n ≤ m + 1) := by show _ ∧ _; have := try_n L x ((k : Int) + 1); have := hn.out; rw [hL2]; omega
                  have hq : Hid (((te == 0) = false → GoInv L2 ys) ∧ ((te == 0) = true → (0 ≤ x ∧ x < 3) ∧ ∀ y, x < y → GoInv L2 (ys.set k y))) := by
                    refine ⟨fun h0 => ?_, fun h0 => ⟨⟨?_, hx3⟩, fun y hy => ?_⟩⟩
                    · have h1 : ¬ te = 0 := by simpa using h0
                      rw [hL2]; unfold Lk.tryL; rw [if_neg (by rw [← hte]; exact h1)]; exact hI.out
                    · have h1 : te = 0 := by simpa using h0
                      rw [h1] at hte
                      cases hl : lackF x ((k : Int) + 1)
                      · have := (lack_not hl).1; omega
                      · unfold Lk.tryE at hte; rw [if_pos hl] at hte; exact absurd hte (by decide)
                    · have h1 : te = 0 := by simpa using h0
                      rw [h1] at hte
                      rw [hL2]; exact try_inv hI.out hkl.out hx.out hte.symm hy
                  replace hL2 := Lib.hid hL2
                  replace hte := Lib.hid hte
                  go_wp2_with (go_at_call 13; go_must (refine hT.mono ?_); rintro e w5 ⟨rfl, hL5, o5⟩)
                  have hG5 := Lib.hid (hG.out.off o5 hL5)
                  have hb5 := Lib.hid (hb.out.trans (o5.below hG.out.bs hG.out.bs hG.out.size))
                  clear hL5 o5 hT
                  go_meet
                  case rel => exact ⟨_, L2, rfl, hG5.out, hn2.out, hb5.out, hq.out.1, hq.out.2⟩
                · have hn2 : Hid (0 ≤ L.n ∧ L.n ≤ m + 1) := by show _ ∧ _; have := hn.out; omega
                  go_wp2_with fail
                  go_meet
                  case rel => exact ⟨false, L, rfl, hG.out, hn2.out, hb.out, fun _ => hI.out, fun h => by cases h⟩
              case rest =>
               obtain ⟨bt, L1, rfl, hG, hn1, hb1, hq0, hq1⟩ := hcut
               clear hI hn hb kx
               rename World => we
               go_upto_if 79 with fail
               go_cut [] from 36 to 117 (fun wd => ∃ (L2 : Lk) (ys2 : List Int), Hid (GS B wd s g n L2 ys2) ∧ Hid (GoInv L2 ys2) ∧ Hid (0 ≤ L2.n ∧ L2.n ≤ m + 1) ∧ Hid (Below B w wd))
               case first =>
                cases bt
                · have hI := Lib.hid (hq0.out rfl)
                  clear hq0 hq1
                  go_wp2_with fail
                  go_meet
                  case rel => exact ⟨L1, ys, hG.out, hI.out, hn1.out, hb1.out⟩
                · have hI := Lib.hid (hq1.out rfl)
                  clear hq0 hq1
                  obtain ⟨⟨hx0, hx3⟩, hI⟩ := hI.out
                  replace hI := Lib.hid hI
                  obtain ⟨b, off, rfl, hbw, hcell⟩ := x3.out (by omega)
                  obtain ⟨xx, hxx⟩ : ∃ x, r[k]? = some x := ⟨_, List.getElem?_eq_getElem (by rw [hrn.out]; exact hkn)⟩
                  obtain ⟨xa, xb, xc⟩ := xx
                  have c0 : w.cell? ⟨b, off + k * 3, none⟩ = some (.bool xa) := hcell k _ 0 _ hxx rfl
                  have c1 : w.cell? ⟨b, off + k * 3 + 1, none⟩ = some (.bool xb) := hcell k _ 1 _ hxx rfl
                  have c2 : w.cell? ⟨b, off + k * 3 + 2, none⟩ = some (.bool xc) := hcell k _ 2 _ hxx rfl
                  rw [← hb1.out.cell (p := ⟨b, off + k * 3, none⟩) (by rw [hB.out]; exact hbw)] at c0
                  rw [← hb1.out.cell (p := ⟨b, off + k * 3 + 1, none⟩) (by rw [hB.out]; exact hbw)] at c1
                  rw [← hb1.out.cell (p := ⟨b, off + k * 3 + 2, none⟩) (by rw [hB.out]; exact hbw)] at c2
                  have hbe : Hid (b < we.heap.size) := Nat.lt_of_lt_of_le hbw (by rw [← hB.out]; exact hG.out.size)
                  have hN := fun W => Next_fn xa xb xc (x + 1) (by omega) W
                  unfold laneV at hN
                  have hge := nextF_ge xa xb xc (f := x + 1) (by omega) (by omega)
                  obtain ⟨y, hy⟩ : ∃ y, y = nextF xa xb xc (x + 1) := ⟨_, rfl⟩
                  rw [← hy] at hN hge
                  have hxy : Hid (x < y) := by show _ < _; omega
                  have hwx : IntKind.i64.wrap (x + 1) = x + 1 := IntWalk.i64_in _ (by omega)
                  replace c0 := Lib.hid c0
                  replace c1 := Lib.hid c1
                  replace c2 := Lib.hid c2
                  replace hN := Lib.hid hN
                  have hkn' := Lib.hid hkn
                  clear hcell hxx hbw hy hge hx0 hx3
                  go_upto_region 16 with fail
                  refine Reg.region_mk 12 119 [[], [false], [false, false], [false, false, false], [false, false, true, true], [false, false, true, true, true], [false, false, false, false, false, false], [false, false, false, false, false, false, false], [false, false, false, false, false, false, true, true], [false, false, false, false, false, false, true, true, true], [false, false, false, false, false, false, true, true, true, true], [false, false, true, true, true, true, true, true, true, true, true]] [0, 0, 0, 0, 0, 1, 0, 0, 0, 1, 0, 1]
                    [.pure, .pure, .pure, .pure, .pure, .minor Unit () (fun _ => .agg #[.bool xa, .bool xb, .bool xc]) (fun _ _ => True), .pure, .pure, .pure, .minor Unit () (fun _ => .int .i64 x) (fun _ _ => True), .pure, .minor Unit () (fun _ => .int .i64 y) (fun _ _ => True)]
                    (fun W => Below we.heap.size we W) (fun _ _ => True) (fun a b => Below a.heap.size a b) (by kernel_rfl) (by kernel_rfl) rfl rfl (fun vs a b h hs => trivial) ?_ ?_ ?_ ?_ ?_ ?_
                  · intro a b he hb; exact hb.trans (Below.mono he hb.size)
                  · intro a b he hb; exact hb.trans (Below.mono he hb.size)
                  · exact ⟨trivial, trivial, trivial, trivial, trivial, ⟨fun _ _ _ _ _ => trivial, fun _ _ _ _ _ => trivial⟩, trivial, trivial, trivial, ⟨fun _ _ _ _ _ => trivial, fun _ _ _ _ _ => trivial⟩, trivial, ⟨fun _ _ _ _ _ => trivial, fun _ _ _ _ _ => trivial⟩, trivial⟩
                  · exact (Below.refl _ _).drew
                  · trivial
                  dsimp only [Reg.mk, List.zip, List.zipWith, List.take]
                  repeat (refine' Reg.pass_is _ (by rfl) (fun wz => ?_) ?_; rotate_left; (go_simp; first | rfl | rw [if_neg (by omega)]); simp only [Act.put, List.setIfInBounds_toArray, List.set_cons_zero, List.set_cons_succ]; (try simp only [List.nil_append]); (try simp only [List.cons_append]); (try simp only [id]))
                  refine Reg.pass_minor (by rfl) (fun wz hI hF => ?_) (fun r5 => ?_)
                  · unfold Reg.One
                    have k0 := ((show Below _ _ _ from hI).cell (p := ⟨b, off + k * 3, none⟩) hbe.out).trans c0.out
                    have k1 := ((show Below _ _ _ from hI).cell (p := ⟨b, off + k * 3 + 1, none⟩) hbe.out).trans c1.out
                    have k2 := ((show Below _ _ _ from hI).cell (p := ⟨b, off + k * 3 + 2, none⟩) hbe.out).trans c2.out
                    go_wp2_with fail
                    exact ⟨_, rfl, ⟨(), rfl, trivial⟩, Reg.Ext.refl _⟩
                  simp only [Act.put, List.setIfInBounds_toArray, List.set_cons_zero, List.set_cons_succ]; (try simp only [List.nil_append]); (try simp only [List.cons_append]); (try simp only [id])
                  repeat (refine' Reg.pass_is _ (by rfl) (fun wz => ?_) ?_; rotate_left; (go_simp; first | rfl | rw [if_neg (by omega)]); simp only [Act.put, List.setIfInBounds_toArray, List.set_cons_zero, List.set_cons_succ]; (try simp only [List.nil_append]); (try simp only [List.cons_append]); (try simp only [id]))
                  refine Reg.pass_minor (by rfl) (fun wz hI hF => ?_) (fun r9 => ?_)
                  · unfold Reg.One
                    have kc := (hG.out.below hI).cell hkn'.out
                    rw [hx.out] at kc
                    go_wp2_with fail
                    exact ⟨_, rfl, ⟨(), rfl, trivial⟩, Reg.Ext.refl _⟩
                  simp only [Act.put, List.setIfInBounds_toArray, List.set_cons_zero, List.set_cons_succ]; (try simp only [List.nil_append]); (try simp only [List.cons_append]); (try simp only [id])
                  repeat (refine' Reg.pass_is _ (by rfl) (fun wz => ?_) ?_; rotate_left; (go_simp; first | rfl | rw [if_neg (by omega)]); simp only [Act.put, List.setIfInBounds_toArray, List.set_cons_zero, List.set_cons_succ]; (try simp only [List.nil_append]); (try simp only [List.cons_append]); (try simp only [id]))
                  refine Reg.pass_minor (by rfl) (fun wz hI hF => ?_) (fun r11 => ?_)
                  · unfold Reg.One
                    go_wp2_with (go_at_call 12; go_must (refine (hN.out _).mono ?_); rintro e w5 ⟨rfl, hb5⟩)
                    exact ⟨_, rfl, ⟨(), rfl, trivial⟩, hb5⟩
                  simp only [Act.put, List.setIfInBounds_toArray, List.set_cons_zero, List.set_cons_succ]; (try simp only [List.nil_append]); (try simp only [List.cons_append]); (try simp only [id])
                  refine Reg.pass_end ?_
                  intro w6 HI6 _ _
                  have hG6 := hG.out.below HI6
                  have kc6 := hG6.cell hkn'.out
                  rw [hx.out] at kc6
                  have kf6 := hG6.fz k
                  have hG7 : Hid (GS B (w6.setCell ⟨g, k, none⟩ (.int .i64 y)) s g n L1 (ys.set k y)) := hG6.set k y
                  have hb7 : Hid (Below B w (w6.setCell ⟨g, k, none⟩ (.int .i64 y))) := (hb1.out.trans (Below.mono HI6 hG.out.size)).setCell hG.out.bg _
                  clear HI6 hG6
                  dsimp only [List.drop]
                  go_wp2_with fail
                  go_meet
                  case rel => exact ⟨L1, _, hG7.out, hI.out y hxy.out, hn1.out, hb7.out⟩
               case rest =>
                obtain ⟨L2, zs2, hG2, hI2, hn2, hb2⟩ := hcut
                clear hx hkl hwk b4 b5 hG hn1 hb1 hq0 hq1
                rename World => wd
                go_wp2_with fail
                go_loopw [10, 11] (fun gg jj wr => ∃ j : Nat, j ≤ n ∧ jj = .int .i64 j ∧ gg = .bool ((zs2.take j).any (goesX L2)) ∧ wd = wr) (fun _ jj _ => 8 - (intOf jj).toNat)
                case atStart => exact ⟨0, Nat.zero_le _, rfl, rfl, rfl⟩
                case round =>
                  obtain ⟨j, hjn, rfl, rfl, rfl⟩ := hrel
                  have hwj : IntKind.i64.wrap ((j : Int) + 1) = (j : Int) + 1 := IntWalk.i64_in _ (by omega)
                  by_cases hj : j < n
                  · have b6 : (0 : Int) ≤ j := by omega
                    have b7 : (j : Int) < (n : Int) := by omega
                    have ky := hG2.out.cell hj
                    obtain ⟨y, hy⟩ : ∃ y, y = zs2.getD j 0 := ⟨_, rfl⟩
                    rw [← hy] at ky
                    have hst : Hid ((zs2.take (j + 1)).any (goesX L2) = ((zs2.take j).any (goesX L2) || goesX L2 y)) := by
                      show _ = _
                      rw [take_more (by rw [hG2.out.len]; exact hj), List.any_append, ← hy]; simp
                    obtain ⟨ga, hga⟩ : ∃ ga, ga = (zs2.take j).any (goesX L2) := ⟨_, rfl⟩
                    rw [← hga] at hst
                    rw [← hga]
                    have hO := Owner_fn y hG2.out.x
                    obtain ⟨oy, hoy⟩ : ∃ oy, oy = L2.own y := ⟨_, rfl⟩
                    rw [← hoy] at hO
                    have hgx : Hid (goesX L2 y = (decide (3 ≤ y) || (oy == 0))) := by show _ = _; rw [hoy]; rfl
                    clear hga hy hoy
                    cases ga
                    · by_cases hy3 : 3 ≤ y
                      · have t3 : decide (3 ≤ y) = true := decide_eq_true hy3
                        have hz : Hid ((zs2.take (j + 1)).any (goesX L2) = true) := by show _ = _; rw [hst.out, hgx.out, t3]; rfl
                        clear hst hgx hy3 hO
                        go_wp2_with fail
                        go_roundw
                        case rel => exact ⟨j + 1, by omega, by go_num, by rw [hz.out], trivial⟩
                        case measure => simp [intOf]; omega
                      · have t3 : decide (3 ≤ y) = false := decide_eq_false hy3
                        have hz : Hid ((zs2.take (j + 1)).any (goesX L2) = (oy == 0)) := by show _ = _; rw [hst.out, hgx.out, t3]; rfl
                        clear hst hgx hy3
                        go_wp2_with (go_at_call 9; go_must (refine hO.mono ?_); rintro e w5 ⟨rfl, rfl⟩)
                        go_roundw
                        case rel => exact ⟨j + 1, by omega, by go_num, by rw [hz.out], trivial⟩
                        case measure => simp [intOf]; omega
                    · have hz : Hid ((zs2.take (j + 1)).any (goesX L2) = true) := by show _ = _; rw [hst.out]; rfl
                      clear hst hgx hO
                      go_wp2_with fail
                      go_roundw
                      case rel => exact ⟨j + 1, by omega, by go_num, by rw [hz.out], trivial⟩
                      case measure => simp [intOf]; omega
                  · obtain rfl : n = j := by omega
                    have hg : (zs2.take n).any (goesX L2) = true := by
                      rw [List.take_of_length_le (by rw [hG2.out.len]; exact Nat.le_refl _)]
                      exact goes_any hI2.out (by rw [hG2.out.len]; exact hn0)
                    have d6 : ¬ (n : Int) < (n : Int) := by omega
                    rw [hg]
                    clear hg
                    go_wp2_with fail
                    go_roundw
                    case rel => exact ⟨m + 1, L2, zs2, by omega, by omega, by go_num, hG2.out, hI2.out, hn2.out, hb2.out⟩
                    case measure => simp [intOf]; omega
          · have hsz := Lib.hid hG.out.size
            by_cases h1 : m < zs.length
            · have e1 : decide ((m : Int) < (zs.length : Int)) = true := decide_eq_true (by omega)
              by_cases h2 : m < 40
              · have e2 : decide ((m : Int) < 40) = true := decide_eq_true (by omega)
                obtain rfl : n = 0 := by omega
                clear hgo
                go_wp2_with (go_at_call 11; go_must (refine (awake_fn _).mono ?_); rintro e w5 ⟨rfl, hb5⟩)
                go_ret
                exact ⟨rfl, hfin.out _ (hb.out.trans (hb5.mono hsz.out))⟩
              · have e2 : decide ((m : Int) < 40) = false := decide_eq_false (by omega)
                clear hgo
                go_wp2_with (go_at_call 11; go_must (refine (awake_fn _).mono ?_); rintro e w5 ⟨rfl, hb5⟩)
                go_ret
                exact ⟨rfl, hfin.out _ (hb.out.trans (hb5.mono hsz.out))⟩
            · have e1 : decide ((m : Int) < (zs.length : Int)) = false := decide_eq_false (by omega)
              clear hgo
              go_wp2_with (go_at_call 11; go_must (refine (awake_fn _).mono ?_); rintro e w5 ⟨rfl, hb5⟩)
              go_ret
              exact ⟨rfl, hfin.out _ (hb.out.trans (hb5.mono hsz.out))⟩

end Go.Proofs.Ytlenhkmddmlknaa

