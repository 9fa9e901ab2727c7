/-
  Own walk: the statement on a queue, whatever is put in and taken out.
-/
import Derived.Test.YtenpdglmmbkmkaaQuF
import Derived.Test.YtenpdglmmbkmkaaOrF
import Derived.Deep.Grids
namespace Go.Proofs.Ytenpdglmmbkmkaa
open Go.RowKit Go.Sort Go.Lib Go.Shelf Put

/-- What can be read of a list of truths. -/
def BoolsAt (w : World) (v : Value) (B : Nat → Bool) (m : Nat) : Prop :=
  ∃ ao cap, v = .slice ao m cap ∧ m ≤ cap ∧ cap ≤ maxLen ∧ (0 < m → ∃ b off, ao = some ⟨b, off, none⟩ ∧ b < w.heap.size ∧ ∀ i, i < m → w.cell? ⟨b, off + i, none⟩ = some (.bool (B i)))

open Go.ChangeShapes Go.WideShapes Go.ChangeAt Go.Deep in
theorem bools_of {H : Type} {enc : TypeId × Value → H} {P : Program} {w : World} {base : Nat} {t e : TypeId} {v : Value} {d : DataW H} {ps : List MemPlace} (ht : P.underlying t = some (.slice e)) (he : P.underlying e = some .bool) (hc : P.cellsOf e = 1)
    (hval : Value.okWide P w .any base t v) (hd : DataW.Trod enc P w 0 (fun _ => true) true t v d ps) : ∃ (B : Nat → Bool) (m : Nat), BoolsAt w v B m := by
  obtain ⟨a0, len, cap, rfl⟩ := okWide_slice ht hval
  obtain ⟨fuel, hf⟩ := hd
  rcases Go.Deep.open_bools ht he hc hf with ⟨hcs, _⟩ | ⟨a, len', cap', B, hcs, _, hl, hm, _, hcell⟩
  · simp [Value.cells] at hcs
    obtain ⟨rfl, rfl, rfl⟩ := hcs
    exact ⟨fun _ => false, 0, none, 0, rfl, Nat.le_refl _, Nat.zero_le _, fun h => by omega⟩
  · simp [Value.cells] at hcs
    obtain ⟨rfl, rfl, rfl⟩ := hcs
    refine ⟨B, len, some a, cap, rfl, hl, hm, fun hp => ?_⟩
    obtain ⟨b, off, spot⟩ := a
    have hspot : spot = none := by simpa [Addr.add] using World.cell?_spot (hcell 0 (by omega))
    subst hspot
    have h0 := hcell 0 (by omega)
    rw [Go.WideShapes.add_plain] at h0
    exact ⟨b, off, rfl, World.block_lt_of_cell? w ⟨b, _, none⟩ h0, fun i hi => by rw [← Go.WideShapes.add_plain]; exact hcell i (by omega)⟩

/-- What a round finds: the queue, and the law's own list of what is in it. -/
structure QIn (w : World) (W : World) (p : Nat) (hq inn : Value) (Lq M : List Jb) : Prop where
  q : QV W p hq Lq
  hp : HeapL Lq
  own : W.ownsRow w.heap.size 24 10 inn M.length (M.flatMap encJ)
  perm : Lq.Perm M
  blk : ∀ q, hq.ownBlock = some q → w.heap.size ≤ q
  far : ∀ q, inn.ownBlock = some q → q ≠ p ∧ hq.ownBlock ≠ some q
  bel : Below w.heap.size w W

theorem QIn.kept {w W W' : World} {p : Nat} {hq inn : Value} {Lq M : List Jb} (h : QIn w W p hq inn Lq M) (hb : Below W.heap.size W W') : QIn w W' p hq inn Lq M :=
  ⟨h.q.kept hb, h.hp, Put.own_kept h.own hb, h.perm, h.blk, h.far, h.bel.trans (hb.mono h.bel.size)⟩

theorem Peek_at {w : World} {p : Nat} {hq : Value} {L : List Jb} {cJ : List Value} (h : QV w p hq L) (hL : 0 < L.length) (hc : encJ L[0]! = cJ) : Calls Try.prog 14 #[.pointer (some ⟨p, 0, none⟩)] w fun e w' => e = .returned (.tuple #[.agg cJ.toArray, .bool true]) ∧ Gr w w' := by
  subst hc
  exact Peek_some h hL
theorem Pop_at {w : World} {p g c : Nat} {L : List Jb} {cJ : List Value} (h : QV w p (.slice (some ⟨g, 0, none⟩) L.length c) L) (hH : HeapL L) (hL : 0 < L.length) (hl : L.length ≤ 1000) (hc : encJ L[0]! = cJ) : Calls Try.prog 15 #[.pointer (some ⟨p, 0, none⟩)] w fun e w' => ∃ L' m c', e = .returned (.tuple #[.agg cJ.toArray, .bool true]) ∧ QV w' p (.slice (some ⟨g, 0, none⟩) m c') L' ∧ HeapL L' ∧ L.Perm (L[0]! :: L') ∧ Off p g w w' := by
  subst hc
  exact Pop_some h hH hL hl
theorem without_at {w : World} {v : Value} {l : List Jb} {j : Jb} {cJ : List Value} (hr : RowAt encJ 10 w v l) (hl : l.length ≤ 1000) (hc : encJ j = cJ) : Calls Try.prog 16 #[v, .agg cJ.toArray] w fun e w' => ∃ v', e = .returned (.tuple #[v', .bool (decide (j ∈ l))]) ∧ w'.ownsRow w.heap.size 24 10 v' (l.erase j).length ((l.erase j).flatMap encJ) ∧ Below w.heap.size w w' := by
  subst hc
  exact without_fn j v l w hr hl
theorem ahead_at {x j : Jb} {cX cJ : List Value} {b : Bool} (hx : encJ x = cX) (hj : encJ j = cJ) (hb : aheadJ x j = b) (W : World) : Calls Try.prog 7 #[.agg cX.toArray, .agg cJ.toArray] W fun e w' => e = .returned (.bool b) ∧ ∃ q os', w' = grow (W.drewN q) os' := by
  subst hx hj hb
  exact ahead_fn x j W
theorem neq_at {x : Jb} {cX : List Value} (hx : encJ x = cX) (W : World) : (binOp .neq 24 (.agg cX.toArray) (.agg cX.toArray)).run Try.prog W = .ok (.bool false) W := by
  subst hx
  rw [job_neq]
  simp

section
variable {w w' : World} {p g n cap : Nat} {v hv : Value} {L l : List Jb}

set_option maxRecDepth 1000000 in
set_option maxHeartbeats 1000000 in
theorem queues_walk (v : Value) (l : List Jb) (v2 : Value) (B : Nat → Bool) (m : Nat) (w : World) (hr : RowAt encJ 10 w v l) (hB : BoolsAt w v2 B m) : Calls Try.prog 5 #[v, v2] w fun e w' => e = .returned (.bool true) ∧ Below w.heap.size w w' := by
  have hmix := mixedO
  have zE := zE_job
  have haw := Lib.hid fun W => awake_any ordSpec W
  have hfew := few_fn hr
  obtain ⟨k, hk⟩ : ∃ k, k = 10 := ⟨_, rfl⟩
  rw [← hk] at zE
  replace hk := Lib.hid hk
  obtain ⟨bo, bcap, rfl, b1, b3, b4⟩ := hB
  have hbM : bcap ≤ 9223372036854775807 := by unfold maxLen at b3; omega
  have hmM : m ≤ 9223372036854775807 := by omega
  replace b4 := Lib.hid b4
  go_enter Try.func5, Try.ntmps5
  go_wp2_with fail
  go_at_call 11
  refine hfew.mono ?_
  clear hfew hr
  rintro e w9 ⟨rfl, v1, rfl, hr1⟩
  obtain ⟨L, hL⟩ : ∃ L, L = l.take 60 := ⟨_, rfl⟩
  rw [← hL] at hr1
  have hn60 : L.length ≤ 60 := by rw [hL, List.length_take]; omega
  clear hL
  have hb1 : Below w.heap.size w (w.alloc (.cells #[.slice none 0 0] 36)) := (Below.refl _ _).alloc (Nat.le_refl _) _
  have hQ1 : Hid (QIn w (w.alloc (.cells #[.slice none 0 0] 36)) w.heap.size (.slice none 0 0) (.slice none 0 0) [] []) := ⟨QV.new w, HeapL.nil, World.ownsRow_nil _ w.heap.size 24 10, List.Perm.refl _, fun q h => by simp [Value.ownBlock] at h, fun q h => by simp [Value.ownBlock] at h, hb1⟩
  obtain ⟨ao, cap, rfl, q1, q2, q3⟩ := hr1
  have hcM : cap ≤ 9223372036854775807 := by unfold maxLen at q2; omega
  obtain ⟨n, hn⟩ : ∃ n, n = L.length := ⟨_, rfl⟩
  rw [← hn] at q1 q3 hn60 ⊢
  have HQ : Hid (0 < n → ∃ b off, ao = some ⟨b, off, none⟩ ∧ JRow w b off L) := fun hp => by
    obtain ⟨b, off, e1, e2, e3⟩ := q3 hp
    exact ⟨b, off, e1, e2, e3⟩
  have hnM : n ≤ 9223372036854775807 := by omega
  replace hn := Lib.hid hn
  clear q2 q3 hb1
  replace zE := Lib.hid zE
  go_wp2_with fail
  go_loopw [6, 7] (fun inn ii wr => ∃ (i : Nat) (hq : Value) (Lq M : List Jb), i ≤ n ∧ ii = .int .i64 i ∧ QIn w wr w.heap.size hq inn Lq M ∧ M.length ≤ i) (fun _ ii _ => n - (intOf ii).toNat)
  case atStart => exact ⟨0, .slice none 0 0, [], [], Nat.zero_le _, rfl, hQ1.out, Nat.le_refl _⟩
  case round =>
    clear hQ1
    have zE := zE.out
    obtain ⟨i, hq, Lq, M, hin, rfl, hI, hMi⟩ := hrel
    by_cases hlt : i < n
    · have b2 : (i : Int) < (n : Int) := by omega
      have wi : IntKind.i64.wrap ((i : Int) + 1) = (i : Int) + 1 := by rw [IntKind.wrap_i64]; omega
      have hpl := hI.perm.length_eq
      have hM60 : M.length ≤ 60 := by omega
      obtain ⟨b, off, rfl, hJ⟩ := HQ.out (by omega)
      by_cases hpop : i < m ∧ B i = true
      · obtain ⟨him, hBi⟩ := hpop
        have g1 : (i : Int) < (m : Int) := by omega
        obtain ⟨bb, boff, rfl, hblt, hbc⟩ := b4.out (by omega)
        have hbi : wr.cell? ⟨bb, boff + i, none⟩ = some (.bool true) := by rw [hI.bel.cell (p := ⟨bb, _, none⟩) hblt, hbc i him, hBi]
        by_cases hE : Lq = []
        · subst hE
          obtain rfl : M = [] := List.eq_nil_of_length_eq_zero (by simpa using hpl.symm)
          obtain ⟨cJ, hcJ⟩ : ∃ c, encJ default = c := ⟨_, rfl⟩
          have hpk : Calls Try.prog 14 #[.pointer (some ⟨w.heap.size, 0, none⟩)] wr fun e w' => e = .returned (.tuple #[.agg cJ.toArray, .bool false]) ∧ Gr wr w' := by rw [← hcJ]; exact hI.q.empty
          replace hcJ := Lib.hid hcJ
          have lJ : cJ.length = k := by rw [← hcJ.out, encJ_len, hk.out]
          have hneq := fun W => neq_at hcJ.out W
          have hgd := job_guard
          obtain ⟨uo, uc, rfl, _⟩ := own_shape hI.own
          simp only [List.length_nil] at hI ⊢
          replace hI := Lib.hid hI
          go_wp2_with fail
          go_at_call 14
          refine hpk.mono ?_
          clear hpk
          rintro e w1 ⟨rfl, hg1⟩
          have hI1 := hI.out.kept hg1.below
          clear hg1
          have st2 : Sem.run Try.prog (storeCells ⟨w1.heap.size, 0, none⟩ cJ 0) (w1.alloc (.cells #[.int .i64 0, .int .i64 0, .int .i64 0, .int .i64 0, .int .i64 0, .int .i64 0, .int .i64 0, .int .i64 0, .int .i64 0, .int .u64 0] 24)) = .ok () (w1.alloc (.cells cJ.toArray 24)) := by
            rw [← hcJ.out]
            exact store_new w1 w1.heap.size _ (encJ default) 24 rfl ((encJ_len _).trans (encJ_len _).symm) (encJ_one _)
          obtain ⟨w2, hw2⟩ : ∃ x, x = w1.alloc (.cells cJ.toArray 24) := ⟨_, rfl⟩
          have hnw2 : w2.heap[w1.heap.size]? = some (.cells cJ.toArray 24 (0, 0)) := by rw [hw2]; exact heap_alloc_new w1 _
          have hbw2 : Below w1.heap.size w1 w2 := by rw [hw2]; exact (Below.refl _ _).alloc (Nat.le_refl _) _
          have hsw2 : w2.heap.size = w1.heap.size + 1 := by rw [hw2]; simp
          rw [← hw2] at st2
          replace hw2 := Lib.hid hw2
          have hI2 := hI1.kept hbw2
          have hpp : Calls Try.prog 15 #[.pointer (some ⟨w.heap.size, 0, none⟩)] w2 fun e w' => e = .returned (.tuple #[.agg cJ.toArray, .bool false]) ∧ Gr w2 w' := by rw [← hcJ.out]; exact hI2.q.popEmpty
          replace hI2 := Lib.hid hI2
          clear hI1 hI hbw2
          go_wp2_with fail
          go_at_call 15
          refine hpp.mono ?_
          clear hpp st2
          rintro e w3 ⟨rfl, hg3⟩
          have hI3 := hI2.out.kept hg3.below
          have hnw3 := (hg3.below.block _ (by omega)).trans hnw2
          have hs3 := hg3.below.size
          clear hg3 hI2 hnw2
          have st4 : Sem.run Try.prog (storeCells ⟨w3.heap.size, 0, none⟩ cJ 0) (w3.alloc (.cells #[.int .i64 0, .int .i64 0, .int .i64 0, .int .i64 0, .int .i64 0, .int .i64 0, .int .i64 0, .int .i64 0, .int .i64 0, .int .u64 0] 24)) = .ok () (w3.alloc (.cells cJ.toArray 24)) := by
            rw [← hcJ.out]
            exact store_new w3 w3.heap.size _ (encJ default) 24 rfl ((encJ_len _).trans (encJ_len _).symm) (encJ_one _)
          obtain ⟨w4, hw4⟩ : ∃ x, x = w3.alloc (.cells cJ.toArray 24) := ⟨_, rfl⟩
          have hnw4 : w4.heap[w3.heap.size]? = some (.cells cJ.toArray 24 (0, 0)) := by rw [hw4]; exact heap_alloc_new w3 _
          have hbw4 : Below w3.heap.size w3 w4 := by rw [hw4]; exact (Below.refl _ _).alloc (Nat.le_refl _) _
          have hsw4 : w4.heap.size = w3.heap.size + 1 := by rw [hw4]; simp
          rw [← hw4] at st4
          replace hw4 := Lib.hid hw4
          have hI4 := hI3.kept hbw4
          have hA4 := (hbw4.block w1.heap.size (by omega)).trans hnw3
          have l8 := load_box hA4 lJ
          have l10 := load_box hnw4 lJ
          have hwo := without_at (j := default) (RowAt.of_own hI4.own encJ_len rfl rfl) (by simp) hcJ.out
          (try simp only [List.length_nil] at hwo)
          replace hI4 := Lib.hid hI4
          clear hI3 hbw4 hnw3 hA4
          go_wp2_with fail
          go_at_call 16
          refine hwo.mono ?_
          clear hwo st4
          rintro e w5 ⟨v5, rfl, ho5, hb5⟩
          (try simp only [List.erase_nil, List.length_nil, List.flatMap_nil] at ho5)
          obtain ⟨so, sc, rfl, _⟩ := own_shape ho5
          have hI5 := hI4.out.kept hb5
          have hln := Len_any hI5.q
          (try simp only [List.length_nil] at hln)
          replace hI5 := Lib.hid hI5
          replace hb5 := Lib.hid hb5
          clear hI4 ho5 l8 l10 hneq
          go_wp2_with fail
          go_loopw [14] (fun kk wr2 => kk = .int .i64 0 ∧ w5 = wr2) (fun _ _ => 0)
          case atStart => exact ⟨rfl, rfl⟩
          case round =>
            obtain ⟨rfl, rfl⟩ := hrel
            go_wp2_with (go_at_call 18; go_must (refine hln.mono ?_); rintro e9 w9 ⟨rfl, rfl⟩)
            go_roundw
            case rel => exact ⟨i + 1, hq, [], [], by omega, by go_num, hI5.out, Nat.zero_le _⟩
            case measure => simp [intOf]; omega
        · have hLp : 0 < Lq.length := by
            rcases Nat.eq_zero_or_pos Lq.length with h | h
            · exact absurd (List.eq_nil_of_length_eq_zero h) hE
            · exact h
          have hLq6 : Lq.length ≤ 1000 := by omega
          obtain ⟨g, c, rfl⟩ := hI.q.shape hLp
          obtain ⟨cJ, hcJ⟩ : ∃ c, encJ Lq[0]! = c := ⟨_, rfl⟩
          have hpk := Peek_at hI.q hLp hcJ
          replace hcJ := Lib.hid hcJ
          have lJ : cJ.length = k := by rw [← hcJ.out, encJ_len, hk.out]
          have hneq := fun W => neq_at hcJ.out W
          have hgd := job_guard
          have hmem : Hid (Lq[0]! ∈ M) := hI.perm.mem_iff.1 (by rw [getElem!_pos Lq 0 hLp]; exact List.getElem_mem _)
          have hgw : Hid (w.heap.size ≤ g) := hI.blk g rfl
          have hgp : Hid (w.heap.size ≠ g) := hI.q.ne
          have hMp : 0 < M.length := by omega
          have g0 : (0 : Int) < (M.length : Int) := by omega
          obtain ⟨uo, uc, rfl, _⟩ := own_shape hI.own
          have hle := own_len hI.own
          have hT : Hid (∀ x ∈ M, aheadJ x Lq[0]! = false) := fun x hx => by
            obtain ⟨c0, hc0, e0⟩ := List.mem_iff_getElem.1 (hI.perm.mem_iff.2 hx)
            have := Hp.Heap.top swoJ hI.hp c0 hc0
            have gg : ∀ q, q < Lq.length → Lq.toArray[q]! = Lq[q]! := fun q hq => by simp [Array.getElem!_eq_getD, Array.getD_eq_getD_getElem?]
            rw [gg c0 hc0, gg 0 hLp, getElem!_pos Lq c0 hc0, e0] at this
            exact this
          replace hI := Lib.hid hI
          replace hpl := Lib.hid hpl
          replace hE := Lib.hid hE
          go_wp2_with fail
          go_at_call 14
          refine hpk.mono ?_
          clear hpk
          rintro e w1 ⟨rfl, hg1⟩
          have hI1 := hI.out.kept hg1.below
          clear hg1 hI
          have st2 : Sem.run Try.prog (storeCells ⟨w1.heap.size, 0, none⟩ cJ 0) (w1.alloc (.cells #[.int .i64 0, .int .i64 0, .int .i64 0, .int .i64 0, .int .i64 0, .int .i64 0, .int .i64 0, .int .i64 0, .int .i64 0, .int .u64 0] 24)) = .ok () (w1.alloc (.cells cJ.toArray 24)) := by
            rw [← hcJ.out]
            exact store_new w1 w1.heap.size _ (encJ default) 24 rfl ((encJ_len _).trans (encJ_len _).symm) (encJ_one _)
          obtain ⟨w2, hw2⟩ : ∃ x, x = w1.alloc (.cells cJ.toArray 24) := ⟨_, rfl⟩
          have hnw2 : w2.heap[w1.heap.size]? = some (.cells cJ.toArray 24 (0, 0)) := by rw [hw2]; exact heap_alloc_new w1 _
          have hbw2 : Below w1.heap.size w1 w2 := by rw [hw2]; exact (Below.refl _ _).alloc (Nat.le_refl _) _
          have hsw2 : w2.heap.size = w1.heap.size + 1 := by rw [hw2]; simp
          rw [← hw2] at st2
          replace hw2 := Lib.hid hw2
          have hI2 := hI1.kept hbw2
          have hpp := Pop_at hI2.q hI2.hp hLp hLq6 hcJ.out
          have hpw1 := hI1.q.lt
          have hgw1 := hI1.q.glt
          replace hI2 := Lib.hid hI2
          replace hpp := Lib.hid hpp
          clear hI1 hbw2
          go_wp2_with fail
          go_at_call 15
          refine hpp.out.mono ?_
          clear hpp st2
          rintro e w3 ⟨L3, m3, c3, rfl, hQ3, hH3, hP3, hO3⟩
          have hsz2 := hI2.out.bel.size
          have hown3 := hO3.own hI2.out.own (fun q e => ⟨(hI2.out.far q e).1, fun e2 => (hI2.out.far q e).2 (by rw [e2]; rfl)⟩)
          have hbel3 : Below w.heap.size w w3 := hI2.out.bel.trans (hO3.below (Nat.le_refl _) hgw.out hsz2)
          have hnw3 := (hO3.block w1.heap.size (by omega) (by omega) (by omega)).trans hnw2
          have hs23 := hO3.size
          have hLX : Hid (L3.Perm (M.erase Lq[0]!)) := (List.Perm.cons_inv ((hP3.symm.trans hI2.out.perm).trans (List.perm_cons_erase hmem.out)))
          clear hO3 hP3 hI2 hnw2
          have st4 : Sem.run Try.prog (storeCells ⟨w3.heap.size, 0, none⟩ cJ 0) (w3.alloc (.cells #[.int .i64 0, .int .i64 0, .int .i64 0, .int .i64 0, .int .i64 0, .int .i64 0, .int .i64 0, .int .i64 0, .int .i64 0, .int .u64 0] 24)) = .ok () (w3.alloc (.cells cJ.toArray 24)) := by
            rw [← hcJ.out]
            exact store_new w3 w3.heap.size _ (encJ default) 24 rfl ((encJ_len _).trans (encJ_len _).symm) (encJ_one _)
          obtain ⟨w4, hw4⟩ : ∃ x, x = w3.alloc (.cells cJ.toArray 24) := ⟨_, rfl⟩
          have hnw4 : w4.heap[w3.heap.size]? = some (.cells cJ.toArray 24 (0, 0)) := by rw [hw4]; exact heap_alloc_new w3 _
          have hbw4 : Below w3.heap.size w3 w4 := by rw [hw4]; exact (Below.refl _ _).alloc (Nat.le_refl _) _
          have hsw4 : w4.heap.size = w3.heap.size + 1 := by rw [hw4]; simp
          rw [← hw4] at st4
          replace hw4 := Lib.hid hw4
          have hQ4 := hQ3.kept hbw4
          have hown4 := Put.own_kept hown3 hbw4
          have hbel4 : Below w.heap.size w w4 := hbel3.trans (hbw4.mono hbel3.size)
          have hA4 := (hbw4.block w1.heap.size (by omega)).trans hnw3
          have l8 := load_box hA4 lJ
          have l10 := load_box hnw4 lJ
          have hwo := without_at (j := Lq[0]!) (RowAt.of_own hown4 encJ_len rfl rfl) (by omega) hcJ.out
          rw [decide_eq_true hmem.out] at hwo
          have hXl : (M.erase Lq[0]!).length + 1 = M.length := by have := List.length_erase_of_mem hmem.out; omega
          have hXT : Hid (∀ x ∈ M.erase Lq[0]!, aheadJ x Lq[0]! = false) := fun x hx => hT.out x (List.mem_of_mem_erase hx)
          obtain ⟨X, hX⟩ : ∃ X, X = M.erase Lq[0]! := ⟨_, rfl⟩
          rw [← hX] at hwo hXl hXT hLX
          replace hX := Lib.hid hX
          replace hH3 := Lib.hid hH3
          replace hXl := Lib.hid hXl
          replace hQ4 := Lib.hid hQ4
          replace hbel4 := Lib.hid hbel4
          replace hnw4 := Lib.hid hnw4
          clear hQ3 hown3 hbel3 hbw4 hnw3 hA4 hown4
          go_wp2_with fail
          go_at_call 16
          refine hwo.mono ?_
          clear hwo st4 l8 l10 hneq
          rintro e w5 ⟨v5, rfl, ho5, hb5⟩
          have hlo5 : Hid (∀ q, v5.ownBlock = some q → w4.heap.size ≤ q) := fun q e => (ho5.lt q e).1
          have hrow5 := RowAt.of_own ho5 encJ_len rfl rfl
          have hlX := own_len ho5
          obtain ⟨so, sc, rfl, _⟩ := own_shape ho5
          have hs45 := hb5.size
          have hI5 : Hid (QIn w w5 w.heap.size (.slice (some ⟨g, 0, none⟩) m3 c3) (.slice so X.length sc) L3 X) :=
            ⟨hQ4.out.kept hb5, hH3.out, ownsRow_mono ho5 hbel4.out.size, hLX.out, fun q e => by
              have e2 : g = q := by simpa [Value.ownBlock] using e
              have := hgw.out
              omega, fun q e => by
              have h1 := hlo5.out q e
              exact ⟨by omega, fun e2 => by
                have e3 : g = q := by simpa [Value.ownBlock] using e2
                omega⟩, hbel4.out.trans (hb5.mono hbel4.out.size)⟩
          have hB5 : Hid (w5.heap[w3.heap.size]? = some (.cells cJ.toArray 24 (0, 0))) := (hb5.block _ (by omega)).trans hnw4.out
          have HX : Hid (0 < X.length → ∃ b off, so = some ⟨b, off, none⟩ ∧ JRow w5 b off X) := fun hp => by
            obtain ⟨ao', cap', e0, _, _, q3⟩ := hrow5
            cases e0
            obtain ⟨b', off', e1, e2, e3⟩ := q3 hp
            exact ⟨b', off', e1, e2, e3⟩
          have hLX3 : L3.length = X.length := hLX.out.length_eq
          have hw35 : w3.heap.size < w5.heap.size := by omega
          replace hLX3 := Lib.hid hLX3
          clear ho5 hrow5 hb5
          go_wp2_with fail
          go_loopw [14] (fun kk wr2 => ∃ q : Nat, q ≤ X.length ∧ kk = .int .i64 q ∧ Below w5.heap.size w5 wr2) (fun kk _ => X.length - (intOf kk).toNat)
          case atStart => exact ⟨0, Nat.zero_le _, rfl, Below.refl _ _⟩
          case round =>
            obtain ⟨q, hqX, rfl, hbq⟩ := hrel
            by_cases hql : q < X.length
            · have g5 : (q : Int) < (X.length : Int) := by omega
              have wq : IntKind.i64.wrap ((q : Int) + 1) = (q : Int) + 1 := by rw [IntKind.wrap_i64]; omega
              obtain ⟨b', off', rfl, hJX⟩ := HX.out (by omega)
              have lq := (hJX.below hbq).loads hk.out hql
              have hBq := (hbq.block _ hw35).trans hB5.out
              have hBg : ∀ n' os', Sem.run Try.prog (loadCellsFrom ⟨w3.heap.size, 0, none⟩ 0 k #[]) (grow (wr.drewN n') os') = .ok cJ.toArray (grow (wr.drewN n') os') := fun n' os' => load_box (((Gr.below ⟨n', os', rfl⟩ : Below wr.heap.size wr (grow (wr.drewN n') os')).block _ (Put.lt_of_heap hBq)).trans hBq) lJ
              obtain ⟨cX, hcX⟩ : ∃ c, encJ X[q]! = c := ⟨_, rfl⟩
              have hah := fun (W : World) => ahead_at hcX hcJ.out (hXT.out X[q]! (by rw [getElem!_pos X q hql]; exact List.getElem_mem _)) W
              have lX : cX.length = k := by rw [← hcX, encJ_len, hk.out]
              rw [hcX] at lq
              clear hcX hJX hBq
              go_wp2_with fail
              go_quiet_grown ((go_at_call 7; exact Calls.grown_of (hah _)))
              have hb6 : Below w5.heap.size w5 (grow (wr.drewN nq) osq) := hbq.trans ((Gr.below ⟨nq, osq, rfl⟩ : Below wr.heap.size wr _).mono hbq.size)
              clear lq hBg hah hbq
              generalize grow (wr.drewN nq) osq = w6 at hb6 ⊢
              go_wp2_with fail
              go_roundw
              case rel => exact ⟨q + 1, by omega, by go_num, hb6⟩
              case measure => simp [intOf]; omega
            · obtain rfl : q = X.length := by omega
              have g5 : ¬ (X.length : Int) < (X.length : Int) := by omega
              have hI6 := hI5.out.kept hbq
              have hln := Len_any hI6.q
              rw [hLX3.out] at hln
              have hfin : Hid (X.length ≤ i + 1) := by have := hXl.out; show _ ≤ _; omega
              replace hI6 := Lib.hid hI6
              clear hbq
              go_wp2_with (go_at_call 18; go_must (refine hln.mono ?_); rintro e9 w9 ⟨rfl, rfl⟩)
              go_roundw
              case rel => exact ⟨i + 1, _, L3, X, by omega, by go_num, hI6.out, hfin.out⟩
              case measure => simp [intOf]; omega
      · have hwbel := Lib.hid hI.bel
        obtain rfl := hk.out
        replace zE := Lib.hid zE
        have hJr := hJ.below hI.bel
        have hiL : i < L.length := by have := hn.out; omega
        have hget : L[i]? = some L[i]! := by rw [List.getElem?_eq_getElem hiL, getElem!_pos L i hiL]
        generalize L[i]! = y at *
        obtain ⟨x1, x2, x3, x4, x5, x6, x7, x8, x9, x0⟩ := y
        have hb1 : Below wr.heap.size wr (wr.alloc (.cells (encJ (x1, x2, x3, x4, x5, x6, x7, x8, x9, x0)).toArray 24)) := (Below.refl _ _).alloc (Nat.le_refl _) _
        have hI1 := hI.kept hb1
        have hrow : RowAt encJ 10 (wr.alloc (.cells (encJ (x1, x2, x3, x4, x5, x6, x7, x8, x9, x0)).toArray 24)) (.slice (some ⟨wr.heap.size, 0, none⟩) 1 1) [(x1, x2, x3, x4, x5, x6, x7, x8, x9, x0)] := RowAt.of_own (own_new (vs := encJ (x1, x2, x3, x4, x5, x6, x7, x8, x9, x0)) (base := 0) rfl (Nat.zero_le _) rfl (by decide)) encJ_len (by simp) rfl
        have hpush := Push_any hI1.q hI1.hp hrow (fun _ b' off' m' c' e => by
          cases e
          exact ⟨by have := hI.q.lt; omega, fun e2 => by have := (hI.q.own.lt _ e2).2; omega⟩) (by simp; omega)
        have hs1 : (wr.alloc (.cells (encJ (x1, x2, x3, x4, x5, x6, x7, x8, x9, x0)).toArray 24)).heap.size = wr.heap.size + 1 := by simp
        obtain ⟨w1, hw1⟩ : ∃ w1, wr.alloc (.cells (encJ (x1, x2, x3, x4, x5, x6, x7, x8, x9, x0)).toArray 24) = w1 := ⟨_, rfl⟩
        rw [hw1] at hpush hI1 hb1 hs1
        replace hI1 := Lib.hid hI1
        replace hpush := Lib.hid hpush
        have hiq := hI.q.lt
        have hinn : Hid (∀ q, u6.ownBlock = some q → q < wr.heap.size) := fun q hq' => (hI.own.lt q hq').2
        have hle := own_len hI.own
        clear hrow hb1 hI
        obtain ⟨i0, hi0, hz0, hz1, hz2⟩ := info_parts infoJob
        replace hi0 := Lib.hid hi0
        replace hz0 := Lib.hid hz0
        replace hz1 := Lib.hid hz1
        replace hz2 := Lib.hid hz2
        by_cases him : i < m
        · have hBf : B i = false := by
            cases hb : B i with
            | false => rfl
            | true => exact absurd ⟨him, hb⟩ hpop
          have g1 : (i : Int) < (m : Int) := by omega
          obtain ⟨bb, boff, rfl, hblt, hbc⟩ := b4.out (by omega)
          have hbi : wr.cell? ⟨bb, boff + i, none⟩ = some (.bool false) := by rw [hwbel.out.cell (p := ⟨bb, _, none⟩) hblt, hbc i him, hBf]
          have k0 := hJr.cell i _ 0 _ hget rfl
          have k1 := hJr.cell i _ 1 _ hget rfl
          have k2 := hJr.cell i _ 2 _ hget rfl
          have k3 := hJr.cell i _ 3 _ hget rfl
          have k4 := hJr.cell i _ 4 _ hget rfl
          have k5 := hJr.cell i _ 5 _ hget rfl
          have k6 := hJr.cell i _ 6 _ hget rfl
          have k7 := hJr.cell i _ 7 _ hget rfl
          have k8 := hJr.cell i _ 8 _ hget rfl
          have k9 := hJr.cell i _ 9 _ hget rfl
          simp only [← Nat.add_assoc, Nat.add_zero] at k0 k1 k2 k3 k4 k5 k6 k7 k8 k9
          replace hw1 := (show wr.alloc (.cells #[.int .i64 x1, .int .i64 x2, .int .i64 x3, .int .i64 x4, .int .i64 x5, .int .i64 x6, .int .i64 x7, .int .i64 x8, .int .i64 x9, .int .u64 x0] 24) = w1 from hw1)
          go_wp2_with fail
          go_at_call 17
          refine hpush.out.mono ?_
          clear hpush k0 k1 k2 k3 k4 k5 k6 k7 k8 k9
          rintro e w2 ⟨rfl, hq2, L2, hQ2, hH2, hP2, hO2, hN2⟩
          have hbel2 : Below w.heap.size w w2 := by
            have hb := hI1.out.bel
            exact ⟨hO2.os.trans hb.os, hO2.tape.trans hb.tape, hO2.output.trans hb.output, Nat.le_trans hb.size hO2.size, fun q hq' => (hO2.block q (Nat.lt_of_lt_of_le hq' hb.size) (by omega) (fun e => by have := hI1.out.blk q e; omega)).trans (hb.block q hq')⟩
          have hown2 : w2.ownsRow w.heap.size 24 10 u6 M.length (M.flatMap encJ) := ownsRow_block hI1.out.own fun q hq' => hO2.block q (by have := hinn.out q hq'; omega) (hI1.out.far q hq').1 (hI1.out.far q hq').2
          have hfar2 : Hid (∀ q, u6.ownBlock = some q → q ≠ w.heap.size ∧ hq2.ownBlock ≠ some q) := fun q hq' => ⟨(hI1.out.far q hq').1, fun e => by
            rcases hN2 with e2 | ⟨q2, e2, hle2⟩
            · rw [e2] at e; exact (hI1.out.far q hq').2 e
            · rw [e2] at e
              injection e with e
              have := hinn.out q hq'
              omega⟩
          have hblk2 : Hid (∀ q, hq2.ownBlock = some q → w.heap.size ≤ q) := fun q e => by
            rcases hN2 with e2 | ⟨q2, e2, hle2⟩
            · rw [e2] at e; exact hI1.out.blk q e
            · rw [e2] at e
              injection e with e
              have := hI1.out.bel.size
              omega
          have hP3 : Hid (L2.Perm (M ++ [(x1, x2, x3, x4, x5, x6, x7, x8, x9, x0)])) := hP2.trans (hI1.out.perm.append_right _)
          have hJ2 := hJ.below hbel2
          have hs2 := hbel2.size
          have hqs2 : Hid (∀ q, hq2.ownBlock = some q → q < w2.heap.size) := fun q e => (hQ2.own.lt q e).2
          have hps2 := hQ2.lt
          replace hQ2 := Lib.hid hQ2
          replace hH2 := Lib.hid hH2
          clear hO2 hN2 hP2 hI1
          have k0 := hJ2.cell i _ 0 _ hget rfl
          have k1 := hJ2.cell i _ 1 _ hget rfl
          have k2 := hJ2.cell i _ 2 _ hget rfl
          have k3 := hJ2.cell i _ 3 _ hget rfl
          have k4 := hJ2.cell i _ 4 _ hget rfl
          have k5 := hJ2.cell i _ 5 _ hget rfl
          have k6 := hJ2.cell i _ 6 _ hget rfl
          have k7 := hJ2.cell i _ 7 _ hget rfl
          have k8 := hJ2.cell i _ 8 _ hget rfl
          have k9 := hJ2.cell i _ 9 _ hget rfl
          simp only [← Nat.add_assoc, Nat.add_zero] at k0 k1 k2 k3 k4 k5 k6 k7 k8 k9
          have hi0 := hi0.out
          have hz0 := hz0.out
          have hz1 := hz1.out
          have hz2 := hz2.out
          replace hbel2 := Lib.hid hbel2
          replace hw1 := Lib.hid hw1
          go_wp2_with (at_builtin; go_must (refine wpList_append_new _ rfl (.tmp 95) (.tmp 100) 28 28 rfl w.heap.size 24 i0 (.agg (encJ default).toArray) 10 80 Try.underlying28 hi0 hz0 hz1 hz2 rfl u6 M.length (M.flatMap encJ) rfl (hown2.alloc _) (.slice (some ⟨w2.heap.size, 0, none⟩) 1 1) 1 (encJ (x1, x2, x3, x4, x5, x6, x7, x8, x9, x0)) rfl (Src.ofSlice _ Try.underlying28 ⟨w2.heap.size, 0, none⟩ 1 1 (encJ (x1, x2, x3, x4, x5, x6, x7, x8, x9, x0)) rfl (cells_new (vs := encJ (x1, x2, x3, x4, x5, x6, x7, x8, x9, x0)) rfl) (encJ_one _)) ?c0 ?c1 ?c2 ?c3))
          case c0 => unfold maxLen; omega
          case c1 => omega
          case c2 => (have hh : ∀ o, (w2.alloc o).heap.size = w2.heap.size + 1 := fun o => by simp); first | omega | (rw [hh]; omega)
          case c3 =>
            intro v' w4 ho4 hg4 hnb
            have hh : ∀ o, (w2.alloc o).heap.size = w2.heap.size + 1 := fun o => by simp
            have hb23 : ∀ o, Below w2.heap.size w2 (w2.alloc o) := fun o => (Below.refl _ _).alloc (Nat.le_refl _) _
            have hQ4 : QV w4 w.heap.size hq2 L2 := by
              have h3 := hQ2.out.kept (hb23 (.cells #[.int .i64 x1, .int .i64 x2, .int .i64 x3, .int .i64 x4, .int .i64 x5, .int .i64 x6, .int .i64 x7, .int .i64 x8, .int .i64 x9, .int .u64 x0] 24))
              exact ⟨(hg4.block _ h3.lt (fun e => (hfar2.out _ e.symm).1 rfl)).trans h3.cell, ownsRow_block h3.own fun q e => hg4.block q (h3.own.lt q e).2 (fun e2 => (hfar2.out q e2.symm).2 e)⟩
            have hL2 : L2.length = M.length + 1 := by have := hP3.out.length_eq; simpa using this
            have hln := Len_any hQ4
            rw [hL2] at hln
            obtain ⟨ao', c', rfl, _⟩ := own_shape ho4
            have hI4 : Hid (QIn w w4 w.heap.size hq2 (.slice ao' (M.length + 1) c') L2 (M ++ [(x1, x2, x3, x4, x5, x6, x7, x8, x9, x0)])) := by
              refine ⟨hQ4, hH2.out, ?_, hP3.out, hblk2.out, fun q e => ?_, (hbel2.out.trans ((hb23 _).mono hbel2.out.size)).grown hg4 (by rw [hh]; omega) (fun q e => (hown2.lt q e).1)⟩
              · rw [List.length_append, List.flatMap_append]
                simp only [List.length_singleton, List.flatMap_cons, List.flatMap_nil, List.append_nil]
                exact ho4
              · rcases hnb with e2 | e2
                · exact hfar2.out q (e2.symm.trans e)
                · rw [e] at e2
                  injection e2 with e2
                  exact ⟨by omega, fun e3 => by have := hqs2.out q e3; omega⟩
            have hlM : Hid ((M ++ [(x1, x2, x3, x4, x5, x6, x7, x8, x9, x0)]).length ≤ i + 1) := by show _ ≤ _; simp; omega
            replace hL2 := Lib.hid hL2
            replace hQ4 := Lib.hid hQ4
            clear k0 k1 k2 k3 k4 k5 k6 k7 k8 k9 ho4 hg4 hnb hown2
            replace hh := Lib.hid hh
            replace hb23 := Lib.hid hb23
            go_wp2_with (go_at_call 18; go_must (refine hln.mono ?_); rintro e9 w9 ⟨rfl, rfl⟩)
            go_roundw
            case rel => exact ⟨i + 1, hq2, L2, M ++ [(x1, x2, x3, x4, x5, x6, x7, x8, x9, x0)], by omega, by go_num, hI4.out, hlM.out⟩
            case measure => simp [intOf]; omega
        · have g1 : ¬ (i : Int) < (m : Int) := by omega
          have k0 := hJr.cell i _ 0 _ hget rfl
          have k1 := hJr.cell i _ 1 _ hget rfl
          have k2 := hJr.cell i _ 2 _ hget rfl
          have k3 := hJr.cell i _ 3 _ hget rfl
          have k4 := hJr.cell i _ 4 _ hget rfl
          have k5 := hJr.cell i _ 5 _ hget rfl
          have k6 := hJr.cell i _ 6 _ hget rfl
          have k7 := hJr.cell i _ 7 _ hget rfl
          have k8 := hJr.cell i _ 8 _ hget rfl
          have k9 := hJr.cell i _ 9 _ hget rfl
          simp only [← Nat.add_assoc, Nat.add_zero] at k0 k1 k2 k3 k4 k5 k6 k7 k8 k9
          replace hw1 := (show wr.alloc (.cells #[.int .i64 x1, .int .i64 x2, .int .i64 x3, .int .i64 x4, .int .i64 x5, .int .i64 x6, .int .i64 x7, .int .i64 x8, .int .i64 x9, .int .u64 x0] 24) = w1 from hw1)
          go_wp2_with fail
          go_at_call 17
          refine hpush.out.mono ?_
          clear hpush k0 k1 k2 k3 k4 k5 k6 k7 k8 k9
          rintro e w2 ⟨rfl, hq2, L2, hQ2, hH2, hP2, hO2, hN2⟩
          have hbel2 : Below w.heap.size w w2 := by
            have hb := hI1.out.bel
            exact ⟨hO2.os.trans hb.os, hO2.tape.trans hb.tape, hO2.output.trans hb.output, Nat.le_trans hb.size hO2.size, fun q hq' => (hO2.block q (Nat.lt_of_lt_of_le hq' hb.size) (by omega) (fun e => by have := hI1.out.blk q e; omega)).trans (hb.block q hq')⟩
          have hown2 : w2.ownsRow w.heap.size 24 10 u6 M.length (M.flatMap encJ) := ownsRow_block hI1.out.own fun q hq' => hO2.block q (by have := hinn.out q hq'; omega) (hI1.out.far q hq').1 (hI1.out.far q hq').2
          have hfar2 : Hid (∀ q, u6.ownBlock = some q → q ≠ w.heap.size ∧ hq2.ownBlock ≠ some q) := fun q hq' => ⟨(hI1.out.far q hq').1, fun e => by
            rcases hN2 with e2 | ⟨q2, e2, hle2⟩
            · rw [e2] at e; exact (hI1.out.far q hq').2 e
            · rw [e2] at e
              injection e with e
              have := hinn.out q hq'
              omega⟩
          have hblk2 : Hid (∀ q, hq2.ownBlock = some q → w.heap.size ≤ q) := fun q e => by
            rcases hN2 with e2 | ⟨q2, e2, hle2⟩
            · rw [e2] at e; exact hI1.out.blk q e
            · rw [e2] at e
              injection e with e
              have := hI1.out.bel.size
              omega
          have hP3 : Hid (L2.Perm (M ++ [(x1, x2, x3, x4, x5, x6, x7, x8, x9, x0)])) := hP2.trans (hI1.out.perm.append_right _)
          have hJ2 := hJ.below hbel2
          have hs2 := hbel2.size
          have hqs2 : Hid (∀ q, hq2.ownBlock = some q → q < w2.heap.size) := fun q e => (hQ2.own.lt q e).2
          have hps2 := hQ2.lt
          replace hQ2 := Lib.hid hQ2
          replace hH2 := Lib.hid hH2
          clear hO2 hN2 hP2 hI1
          have k0 := hJ2.cell i _ 0 _ hget rfl
          have k1 := hJ2.cell i _ 1 _ hget rfl
          have k2 := hJ2.cell i _ 2 _ hget rfl
          have k3 := hJ2.cell i _ 3 _ hget rfl
          have k4 := hJ2.cell i _ 4 _ hget rfl
          have k5 := hJ2.cell i _ 5 _ hget rfl
          have k6 := hJ2.cell i _ 6 _ hget rfl
          have k7 := hJ2.cell i _ 7 _ hget rfl
          have k8 := hJ2.cell i _ 8 _ hget rfl
          have k9 := hJ2.cell i _ 9 _ hget rfl
          simp only [← Nat.add_assoc, Nat.add_zero] at k0 k1 k2 k3 k4 k5 k6 k7 k8 k9
          have hi0 := hi0.out
          have hz0 := hz0.out
          have hz1 := hz1.out
          have hz2 := hz2.out
          replace hbel2 := Lib.hid hbel2
          replace hw1 := Lib.hid hw1
          go_wp2_with (at_builtin; go_must (refine wpList_append_new _ rfl (.tmp 95) (.tmp 100) 28 28 rfl w.heap.size 24 i0 (.agg (encJ default).toArray) 10 80 Try.underlying28 hi0 hz0 hz1 hz2 rfl u6 M.length (M.flatMap encJ) rfl (hown2.alloc _) (.slice (some ⟨w2.heap.size, 0, none⟩) 1 1) 1 (encJ (x1, x2, x3, x4, x5, x6, x7, x8, x9, x0)) rfl (Src.ofSlice _ Try.underlying28 ⟨w2.heap.size, 0, none⟩ 1 1 (encJ (x1, x2, x3, x4, x5, x6, x7, x8, x9, x0)) rfl (cells_new (vs := encJ (x1, x2, x3, x4, x5, x6, x7, x8, x9, x0)) rfl) (encJ_one _)) ?d0 ?d1 ?d2 ?d3))
          case d0 => unfold maxLen; omega
          case d1 => omega
          case d2 => (have hh : ∀ o, (w2.alloc o).heap.size = w2.heap.size + 1 := fun o => by simp); first | omega | (rw [hh]; omega)
          case d3 =>
            intro v' w4 ho4 hg4 hnb
            have hh : ∀ o, (w2.alloc o).heap.size = w2.heap.size + 1 := fun o => by simp
            have hb23 : ∀ o, Below w2.heap.size w2 (w2.alloc o) := fun o => (Below.refl _ _).alloc (Nat.le_refl _) _
            have hQ4 : QV w4 w.heap.size hq2 L2 := by
              have h3 := hQ2.out.kept (hb23 (.cells #[.int .i64 x1, .int .i64 x2, .int .i64 x3, .int .i64 x4, .int .i64 x5, .int .i64 x6, .int .i64 x7, .int .i64 x8, .int .i64 x9, .int .u64 x0] 24))
              exact ⟨(hg4.block _ h3.lt (fun e => (hfar2.out _ e.symm).1 rfl)).trans h3.cell, ownsRow_block h3.own fun q e => hg4.block q (h3.own.lt q e).2 (fun e2 => (hfar2.out q e2.symm).2 e)⟩
            have hL2 : L2.length = M.length + 1 := by have := hP3.out.length_eq; simpa using this
            have hln := Len_any hQ4
            rw [hL2] at hln
            obtain ⟨ao', c', rfl, _⟩ := own_shape ho4
            have hI4 : Hid (QIn w w4 w.heap.size hq2 (.slice ao' (M.length + 1) c') L2 (M ++ [(x1, x2, x3, x4, x5, x6, x7, x8, x9, x0)])) := by
              refine ⟨hQ4, hH2.out, ?_, hP3.out, hblk2.out, fun q e => ?_, (hbel2.out.trans ((hb23 _).mono hbel2.out.size)).grown hg4 (by rw [hh]; omega) (fun q e => (hown2.lt q e).1)⟩
              · rw [List.length_append, List.flatMap_append]
                simp only [List.length_singleton, List.flatMap_cons, List.flatMap_nil, List.append_nil]
                exact ho4
              · rcases hnb with e2 | e2
                · exact hfar2.out q (e2.symm.trans e)
                · rw [e] at e2
                  injection e2 with e2
                  exact ⟨by omega, fun e3 => by have := hqs2.out q e3; omega⟩
            have hlM : Hid ((M ++ [(x1, x2, x3, x4, x5, x6, x7, x8, x9, x0)]).length ≤ i + 1) := by show _ ≤ _; simp; omega
            replace hL2 := Lib.hid hL2
            replace hQ4 := Lib.hid hQ4
            clear k0 k1 k2 k3 k4 k5 k6 k7 k8 k9 ho4 hg4 hnb hown2
            replace hh := Lib.hid hh
            replace hb23 := Lib.hid hb23
            go_wp2_with (go_at_call 18; go_must (refine hln.mono ?_); rintro e9 w9 ⟨rfl, rfl⟩)
            go_roundw
            case rel => exact ⟨i + 1, hq2, L2, M ++ [(x1, x2, x3, x4, x5, x6, x7, x8, x9, x0)], by omega, by go_num, hI4.out, hlM.out⟩
            case measure => simp [intOf]; omega
    · obtain rfl : i = n := by omega
      have b2 : ¬ (i : Int) < (i : Int) := by omega
      have hbel := hI.bel
      clear hI
      go_wp2_with fail
      go_at_call 10
      refine (haw.out _).mono ?_
      clear haw
      rintro e w8 ⟨rfl, hb8⟩
      have hfin : Below w.heap.size w w8 := hbel.trans (hb8.mono hbel.size)
      clear hb8 hbel
      go_wp2_with fail
      go_ret
      exact ⟨rfl, hfin⟩

end
end Go.Proofs.Ytenpdglmmbkmkaa
