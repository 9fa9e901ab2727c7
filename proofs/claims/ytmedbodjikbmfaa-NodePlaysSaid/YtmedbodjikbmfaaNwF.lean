/-
  Own walk: the statement on plays.
-/
import Derived.Test.YtmedbodjikbmfaaNwE
import Derived.Test.YtmedbodjikbmfaaStOf
namespace Go.Proofs.Ytmedbodjikbmfaa
open Go.RowKit Go.Lib Go.Sort

/-- A call of a script, as its three cells. -/
def CallOk (s : List Value) : Prop := ∃ (k n : Int) (u : Nat), s = [.int .i64 k, .int .i64 n, .int .u64 u] ∧ (-9223372036854775808 ≤ n ∧ n ≤ 9223372036854775807) ∧ u < 18446744073709551616

open Go.ChangeShapes Go.WideShapes Go.ChangeAt Go.Deep in
theorem calls_of {H : Type} {enc : TypeId × Value → H} {P : Program} {w : World} {base : Nat} {t e : TypeId} {f0 f1 f2 : Field} {v : Value} {d : DataW H} {ps : List MemPlace} (ht : P.underlying t = some (.slice e)) (he : P.underlying e = some (.struct #[f0, f1, f2]))
    (hone : oneCellFields P #[f0, f1, f2] = true) (hc : P.cellsOf e = 3) (h0 : P.underlying f0.type = some (.int .i64)) (h1 : P.underlying f1.type = some (.int .i64)) (h2 : P.underlying f2.type = some (.int .u64))
    (hval : Value.okWide P w .any base t v) (hd : DataW.Trod enc P w 0 (fun _ => true) true t v d ps) : ∃ l, RowAt id 3 w v l ∧ ∀ s ∈ l, CallOk s := by
  obtain ⟨l, hr, hl⟩ := structs_of ht he hone hc (by simp) hval hd
  refine ⟨l, hr, fun s hs => ?_⟩
  obtain ⟨hlen, hf⟩ := hl s hs
  match s, hlen with
  | [a, b, c], _ =>
    obtain ⟨_, _, t0⟩ := hf 0 f0 a rfl rfl
    obtain ⟨_, _, t1⟩ := hf 1 f1 b rfl rfl
    obtain ⟨_, _, t2⟩ := hf 2 f2 c rfl rfl
    obtain ⟨x0, hx0, _, w0⟩ := DataW.trod_int h0 t0
    obtain ⟨x1, hx1, _, w1⟩ := DataW.trod_int h1 t1
    obtain ⟨x2, hx2, _, w2⟩ := DataW.trod_int h2 t2
    simp at hx0 hx1 hx2
    subst hx0 hx1 hx2
    obtain ⟨u, rfl⟩ := Int.eq_ofNat_of_zero_le (bounds_u64 w2).1
    exact ⟨x0, x1, u, rfl, bounds_i64 w1, by have := (bounds_u64 w2).2; omega⟩

/-- The three cells of a call. -/
theorem call_cells {w : World} {l : List (List Value)} {b off i : Nat} {k n : Int} {u : Nat} (hc : ∀ i s j u, l[i]? = some s → (id s)[j]? = some u → w.cell? ⟨b, off + (i * 3 + j), none⟩ = some u) (hs : l[i]? = some [.int .i64 k, .int .i64 n, .int .u64 u]) :
    w.cell? ⟨b, off + i * 3, none⟩ = some (.int .i64 k) ∧ w.cell? ⟨b, off + i * 3 + 1, none⟩ = some (.int .i64 n) ∧ w.cell? ⟨b, off + i * 3 + 2, none⟩ = some (.int .u64 u) :=
  ⟨hc i _ 0 _ hs rfl, hc i _ 1 _ hs rfl, hc i _ 2 _ hs rfl⟩

/-- The document's table as it is filled. -/
structure PL (w0 : World) (p q : Nat) (l0 xs : List Int) (v : Value) (w : World) : Prop where
  x : TW w p l0
  o : w.heap[q]? = some (.cells #[v] 32 (0, 0))
  r : w.ownsRow w0.heap.size 3 1 v xs.length (nV xs)
  b : Below w0.heap.size w0 w
  hq : w0.heap.size ≤ q
section
variable {w0 w w' : World} {p q : Nat} {l0 xs : List Int} {v v' : Value}

theorem row_off {e t : TypeId} {cs : Array Value} {n b : Nat} {ys : List Value} (h : w.heap[q]? = some (.cells cs t (0, 0))) (ho : w.ownsRow b e 1 v n ys) (hne : e ≠ t) : ∀ k, v.ownBlock = some k → k ≠ q := by
  intro k hk
  rcases ho.2 with ⟨rfl, _⟩ | ⟨g, cap, cur, rfl, _, hg, _⟩
  · simp [Value.ownBlock] at hk
  · have : g = k := by simpa [Value.ownBlock] using hk
    subst this
    exact apart_types hg h hne
theorem PL.app {o : Obj} {x : Int} (h : PL w0 p q l0 xs v w) (ho : w'.ownsRow w0.heap.size 3 1 v' (xs.length + 1) (nV xs ++ [.int .i64 x])) (hg : (w.alloc o).grownBy w' v.ownBlock) :
    PL w0 p q l0 (xs ++ [x]) v' (w'.setCell ⟨q, 0, none⟩ v') ∧ w'.cell? ⟨q, 0, none⟩ = some v ∧ w'.frozen? ⟨q, 0, none⟩ = false := by
  have hB := h.b.size
  have hqw := lt_of_heap h.o
  have hpw := lt_of_heap h.x
  have h1 := row_off h.o h.r (by decide)
  have h2 := row_off h.x h.r (by decide)
  have ho' : w'.heap[q]? = some (.cells #[v] 32 (0, 0)) := by
    rw [hg.block q (by simp; omega) (fun e => h1 q e.symm rfl), Go.heap_alloc_old w o hqw]
    exact h.o
  have hx' : T3 w' p (ofN (allB l0)) (ofN (useB l0)) (ofN (barB l0)) := by
    unfold T3
    rw [hg.block p (by simp; omega) (fun e => h2 p e.symm rfl), Go.heap_alloc_old w o hpw]
    exact h.x
  have hlt := lt_of_heap ho'
  have h3 := ho'
  rw [Array.getElem?_eq_getElem hlt] at h3
  replace h3 := Option.some.inj h3
  refine ⟨⟨?_, ?_, ?_, ((h.b.alloc hB o).grown hg (by simp; omega) (fun k hk => (h.r.lt k hk).1)).setCell h.hq _, h.hq⟩, by simp [World.cell?, ho'], by simp [World.frozen?, ho']⟩
  · unfold TW T3
    rw [Below.heap_setCell w' ⟨q, 0, none⟩ v' p (apart_types hx' ho' (by decide))]
    exact hx'
  · simp [World.setCell, hlt, Array.getElem_modify, h3]
  · rw [List.length_append]
    have := own_far ho (row_off ho' ho (by decide)) 0 v'
    simpa [nV] using this
theorem PL.done (h : PL w0 p q l0 l0 v w) (hl : Lok l0) (hp : w0.heap.size ≤ p) : ∃ g, BS w0.heap.size w p q g l0 := by
  have hv : v ≠ .slice none 0 0 := by
    rintro rfl
    have := hl.one
    rcases h.r.2 with ⟨_, e⟩ | ⟨g, cap, cur, e, _⟩
    · omega
    · cases e
  obtain ⟨g, cap, rfl, hg, _⟩ := own_holds h.r hv
  exact ⟨g, h.x, ⟨cap, h.o, ownsRow_mono h.r (Nat.zero_le _)⟩, hl, hp, h.hq, hg⟩
end

set_option maxRecDepth 100000 in
set_option maxHeartbeats 4000000 in
theorem walkPlays (n : Int) (v : Value) (l : List (List Value)) (w : World) (_hn : -9223372036854775808 ≤ n ∧ n ≤ 9223372036854775807) (hr : RowAt id 3 w v l) (hl : ∀ s ∈ l, CallOk s) :
    Calls Try.prog 3 #[.int .i64 n, v] w fun e w' => e = .returned (.bool true) ∧ Below w.heap.size w w' := by
  by_cases hbad : n < 1 ∨ 64 < n
  · have hm := New_bad n w hbad
    clear hr hl
    by_cases h1 : n < 1
    · have d1 : decide (n < 1) = true := decide_eq_true h1
      go_enter Try.func3, Try.ntmps3
      go_wp2_with (first | (go_at_call 6; go_must (refine hm.mono ?_); rintro e w' ⟨rfl, rfl⟩) | (go_at_call 7; go_must (refine (awake_any _).mono ?_); rintro e w5 ⟨rfl, hb5⟩))
      go_ret
      exact ⟨rfl, hb5⟩
    · have h2 : 64 < n := by omega
      have d1 : decide (n < 1) = false := decide_eq_false h1
      have d2 : decide (64 < n) = true := decide_eq_true h2
      clear hbad
      go_enter Try.func3, Try.ntmps3
      go_wp2_with (first | (go_at_call 6; go_must (refine hm.mono ?_); rintro e w' ⟨rfl, rfl⟩) | (go_at_call 7; go_must (refine (awake_any _).mono ?_); rintro e w5 ⟨rfl, hb5⟩))
      go_ret
      exact ⟨rfl, hb5⟩
  · obtain ⟨m, rfl⟩ := Int.eq_ofNat_of_zero_le (show 0 ≤ n by omega)
    have m1 : 1 ≤ m := by omega
    have m2 : m ≤ 64 := by omega
    have hnw := New_any m w m1 m2
    have hrk := rep_ok m1 m2
    have d1 : decide ((m : Int) < 1) = false := decide_eq_false (by omega)
    have d2 : decide (64 < (m : Int)) = false := decide_eq_false (by omega)
    clear hbad
    obtain ⟨i0, hi0, hz0, hz1, hz2⟩ := info_parts infoInt
    obtain ⟨ao, cap, rfl, hlc, hcm, hcells⟩ := hr
    have hlm : l.length ≤ 9223372036854775807 := by unfold maxLen at hcm; omega
    clear hcm
    go_enter Try.func3, Try.ntmps3
    go_wp2_with fail
    go_at_call 6
    refine hnw.mono ?_
    clear hnw
    rintro e w1 ⟨rfl, ht1, hb1⟩
    have hsz := Size_any ht1 hrk
    rw [List.length_replicate] at hsz
    have nn : ((m : Int) != (m : Int)) = false := by simp
    go_wp2_with fail
    go_at_call 8
    refine hsz.mono ?_
    clear hsz
    rintro e w2 ⟨rfl, rfl⟩
    have hPL0 : PL w w.heap.size w1.heap.size (List.replicate m 1) [] (.slice none 0 0) (w1.alloc (.cells #[.slice none 0 0] 32)) :=
      ⟨T3.kept ht1 ((Below.refl _ _).alloc (Nat.le_refl _) _), heap_alloc_new w1 _, World.ownsRow_nil _ _ _ _, hb1.alloc hb1.size _, hb1.size⟩
    obtain ⟨q, hq⟩ : ∃ q, q = w1.heap.size := ⟨_, rfl⟩
    obtain ⟨w2, hw2⟩ : ∃ w2, w2 = (w1.alloc (.cells #[.slice none 0 0] 32)) := ⟨_, rfl⟩
    clear ht1 hb1
    go_wp2_with fail
    rw [← hw2, ← hq] at hPL0
    rw [← hw2, ← hq]
    clear hw2 hq
    go_loopw [8] (fun ii wr => ∃ (i : Nat) (v : Value), i ≤ m ∧ ii = .int .i64 i ∧ PL w w.heap.size q (List.replicate m 1) (List.replicate i 1) v wr) (fun ii _ => 64 - (intOf ii).toNat)
    case atStart => exact ⟨0, .slice none 0 0, Nat.zero_le _, rfl, hPL0⟩
    case round =>
      obtain ⟨i, v, him, rfl, hP⟩ := hrel
      clear hPL0
      have c0 : wr.cell? ⟨q, 0, none⟩ = some v := by have := hP.o; simp [World.cell?, this]
      have hw3 : IntKind.i64.wrap ((i : Int) + 1) = (i : Int) + 1 := IntWalk.i64_in _ (by omega)
      by_cases hlt : i < m
      · have b2 : (i : Int) < (m : Int) := by omega
        have hrow := hP.r
        have hsz3 := hP.b.size
        rw [List.length_replicate] at hrow
        go_wp2_with (at_builtin; go_must (refine wpList_append_own _ rfl (.tmp 53) (.tmp 54) 30 rfl w.heap.size 3 i0 (.int .i64 0) 1 8 Try.underlying30 hi0 hz0 hz1 hz2 rfl (by decide) v i (nV (List.replicate i 1)) rfl (hrow.alloc _) ⟨wr.heap.size, 0, none⟩ 1 1 [.int .i64 1] rfl rfl ?c0 ?c1 ?c2 ?c3 ?c4 ?c5))
        case c0 => exact cells_new rfl
        case c1 => simp [Value.oneCell']
        case c2 => unfold maxLen; omega
        case c3 => omega
        case c4 => simp; omega
        case c5 =>
          intro v6 w7 ho7 hg7 _
          obtain ⟨hP7, c7, f7⟩ := hP.app (x := 1) (v' := v6) (by rw [List.length_replicate]; exact ho7) hg7
          have e7 : List.replicate i (1 : Int) ++ [1] = List.replicate (i + 1) 1 := List.replicate_succ'.symm
          rw [e7] at hP7
          obtain ⟨ao2, cp2, rfl, _⟩ := own_shape ho7
          replace hP7 := Lib.hid hP7
          clear hP hrow ho7 hg7 c0
          go_wp2_with fail
          go_roundw
          case rel => exact ⟨i + 1, _, by omega, by go_num, hP7.out⟩
          case measure => simp [intOf]; omega
      · obtain rfl : i = m := by omega
        obtain ⟨g, hB⟩ := hP.done hrk (Nat.le_refl _)
        have hbr := hP.b
        clear hP c0 hrk
        rename World => wq
        go_wp2_with fail
        go_loopw [9] (fun ii wr => ∃ (k : Nat) (ls : List Int), k ≤ l.length ∧ k ≤ 50 ∧ ii = .int .i64 k ∧ BS w.heap.size wr w.heap.size q g ls ∧ Below w.heap.size w wr) (fun ii _ => 50 - (intOf ii).toNat)
        case atStart => exact ⟨0, _, Nat.zero_le _, Nat.zero_le _, rfl, hB, hbr⟩
        case round =>
          obtain ⟨k, ls, hkl, hk50, rfl, hX, hb⟩ := hrel
          clear hB hbr
          by_cases hlt2 : k < l.length
          · have e1 : decide ((k : Int) < (l.length : Int)) = true := decide_eq_true (by omega)
            by_cases hlt3 : k < 50
            · have e2 : decide ((k : Int) < 50) = true := decide_eq_true (by omega)
              obtain ⟨b, off, rfl, hbw, hcell⟩ := hcells (by omega)
              obtain ⟨s, hs⟩ : ∃ s, l[k]? = some s := ⟨_, List.getElem?_eq_getElem hlt2⟩
              obtain ⟨sk, sn, su, rfl, hsn, hsu⟩ := hl s (List.mem_of_getElem? hs)
              obtain ⟨c0, c1, c2⟩ := call_cells hcell hs
              rw [← hb.cell (p := ⟨b, _, none⟩) hbw] at c0 c1 c2
              have hst := step_any sk sn su hsn hsu hX
              have hw4 : IntKind.i64.wrap ((k : Int) + 1) = (k : Int) + 1 := IntWalk.i64_in _ (by omega)
              have b1 : (0 : Int) ≤ k := by omega
              have b3 : (k : Int) < (l.length : Int) := by omega
              clear hcell hcells hs hX hsn hsu hlt
              go_wp2_with fail
              go_at_call 9
              refine hst.mono ?_
              clear hst
              rintro e w5 ⟨rfl, l5, hX5, _, hb5⟩
              have hlk := like_any hX5.x hX5.y hX5.ok
              have hb6 := hb.trans hb5
              clear c0 c1 c2 hb hb5
              go_wp2_with fail
              go_at_call 10
              refine hlk.mono ?_
              clear hlk
              rintro e w6 ⟨rfl, hb7⟩
              have hX6 := hX5.kept hb7
              have hb8 := hb6.trans (hb7.mono hb6.size)
              clear hX5 hb6 hb7
              go_wp2_with fail
              go_roundw
              case rel => exact ⟨k + 1, l5, by omega, by omega, by go_num, hX6, hb8⟩
              case measure => simp [intOf]; omega
            · have e2 : decide ((k : Int) < 50) = false := decide_eq_false (by omega)
              clear hX hcells hlt
              go_wp2_with (go_at_call 7; go_must (refine (awake_any _).mono ?_); rintro e w5 ⟨rfl, hb5⟩)
              go_ret
              exact ⟨rfl, hb.trans (hb5.mono hb.size)⟩
          · have e1 : decide ((k : Int) < (l.length : Int)) = false := decide_eq_false (by omega)
            clear hX hcells hlt
            go_wp2_with (go_at_call 7; go_must (refine (awake_any _).mono ?_); rintro e w5 ⟨rfl, hb5⟩)
            go_ret
            exact ⟨rfl, hb.trans (hb5.mono hb.size)⟩

end Go.Proofs.Ytmedbodjikbmfaa
