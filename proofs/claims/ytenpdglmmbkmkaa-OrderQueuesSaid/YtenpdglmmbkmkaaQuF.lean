/-
  Own walk: the statement on a nil queue, and on jobs put in together.
-/
import Derived.Test.YtenpdglmmbkmkaaQuE
import Derived.Test.YtenpdglmmbkmkaaOrT
namespace Go.Proofs.Ytenpdglmmbkmkaa
open Go.RowKit Go.Sort Go.Lib Go.Shelf Put

section
variable {w w' : World} {p g n cap : Nat} {v hv : Value} {L l : List Jb}

/-- A queue that has just been made. -/
theorem QV.new (w : World) : QV (w.alloc (.cells #[.slice none 0 0] 36)) w.heap.size (.slice none 0 0) [] :=
  ⟨heap_alloc_new w _, World.ownsRow_nil _ 0 24 10⟩
theorem HeapL.nil : HeapL ([] : List Jb) := fun c h0 hc => by simp at hc
theorem QV.empty (h : QV w p hv []) : Calls Try.prog 14 #[.pointer (some ⟨p, 0, none⟩)] w (PeekPost w default false) :=
  Peek_zero _ w (Len_any (h.kept ((Below.refl w.heap.size w).alloc (Nat.le_refl _) _)))
theorem QV.popEmpty (h : QV w p hv []) : Calls Try.prog 15 #[.pointer (some ⟨p, 0, none⟩)] w (PeekPost w default false) :=
  Pop_zero _ w (QV.empty (h.kept ((Below.refl w.heap.size w).alloc (Nat.le_refl _) _)))
theorem QV.shape (h : QV w p hv L) (hL : 0 < L.length) : ∃ g cap, hv = .slice (some ⟨g, 0, none⟩) L.length cap := by
  obtain ⟨ao, cap, rfl, hp⟩ := own_shape h.own
  obtain ⟨g, rfl⟩ := hp hL
  exact ⟨g, cap, rfl⟩
/-- What comes out: none of those that are left comes ahead of it. -/
theorem HeapL.first (hH : HeapL L) {L' : List Jb} (hP : L.Perm (L[0]! :: L')) : ∀ x ∈ L', aheadJ x L[0]! = false := by
  intro x hx
  have hm : x ∈ L := hP.mem_iff.2 (List.mem_cons_of_mem _ hx)
  obtain ⟨c, hc, e⟩ := List.mem_iff_getElem.1 hm
  have := Hp.Heap.top swoJ hH c hc
  have g : ∀ k, k < L.length → L.toArray[k]! = L[k]! := fun k hk => by simp [Array.getElem!_eq_getD, Array.getD_eq_getD_getElem?]
  rw [g c hc, g 0 (by omega), getElem!_pos L c hc, e] at this
  exact this

set_option maxRecDepth 1000000 in
set_option maxHeartbeats 2000000 in
theorem nobody_walk (v : Value) (l : List Jb) (w : World) (hr : RowAt encJ 10 w v l) : Calls Try.prog 6 #[v] w fun e w' => e = .returned (.bool true) ∧ Below w.heap.size w w' := by
  have hmix := mixedO
  have zE := zE_job
  have haw := Lib.hid fun W => awake_any ordSpec W
  have hfew := few_fn hr
  obtain ⟨k, hk⟩ : ∃ k, k = 10 := ⟨_, rfl⟩
  rw [← hk] at zE
  replace hk := Lib.hid hk
  have hpz := Pop_zero none w (Peek_zero none _ (Len_nil _))
  go_enter Try.func6, Try.ntmps6
  go_wp2_with fail
  go_at_call 11
  refine hfew.mono ?_
  clear hfew hr
  rintro e w9 ⟨rfl, v1, rfl, hr1⟩
  obtain ⟨L, hL⟩ : ∃ L, L = l.take 60 := ⟨_, rfl⟩
  rw [← hL] at hr1
  have hn60 : L.length ≤ 60 := by rw [hL, List.length_take]; omega
  clear hL
  have hpn := Push_nil v1 w
  go_wp2_with fail
  go_at_call 17
  refine hpn.mono ?_
  clear hpn
  rintro e w9 ⟨rfl, rfl⟩
  go_wp2_with fail
  go_at_call 15
  refine hpz.mono ?_
  clear hpz
  rintro e w1 ⟨rfl, hg1⟩
  have st1 : Sem.run Try.prog (storeCells ⟨w1.heap.size, 0, none⟩ (encJ default) 0) (w1.alloc (.cells #[.int .i64 0, .int .i64 0, .int .i64 0, .int .i64 0, .int .i64 0, .int .i64 0, .int .i64 0, .int .i64 0, .int .i64 0, .int .u64 0] 24)) = .ok () (w1.alloc (.cells (encJ default).toArray 24)) := store_new w1 w1.heap.size (encJ default) (encJ default) 24 rfl rfl (encJ_one _)
  have hb2 : Below w.heap.size w (w1.alloc (.cells (encJ default).toArray 24)) := hg1.below.alloc hg1.below.size _
  obtain ⟨w2, hw2⟩ : ∃ w2, w2 = w1.alloc (.cells (encJ default).toArray 24) := ⟨_, rfl⟩
  rw [← hw2] at st1 hb2
  have lZ := encJ_len default
  rw [← hk.out] at lZ
  generalize hcZ : encJ default = cZ at st1 lZ ⊢
  replace hcZ := Lib.hid hcZ
  replace hw2 := Lib.hid hw2
  have hln := Len_nil w2
  go_wp2_with (go_at_call 18; go_must (refine hln.mono ?_); rintro e9 w9 ⟨rfl, rfl⟩)
  have hb3 : Below w.heap.size w (w2.alloc (.cells #[.slice none 0 0] 36)) := hb2.alloc hb2.size _
  have hr3 := hr1.below hb3
  have hq3 := QV.new w2
  have hpush := Push_any (v := v1) (l := L) hq3 HeapL.nil hr3 (fun hpos b off m c e => by
    obtain ⟨ao, cap', e2, _, _, q3⟩ := hr1
    obtain ⟨b', off', e3, hlt, _⟩ := q3 hpos
    subst e3
    rw [e] at e2
    cases e2
    exact ⟨by have := hb2.size; omega, by simp [Value.ownBlock]⟩) (by simp; omega)
  go_at_call 17
  refine hpush.mono ?_
  clear hpush st1
  rintro e w4 ⟨rfl, hv4, L4, hQ4, hH4, hP4, hO4, hN4⟩
  rw [List.nil_append] at hP4
  have hb4 : Below w.heap.size w w4 := ⟨hO4.os.trans hb3.os, hO4.tape.trans hb3.tape, hO4.output.trans hb3.output, Nat.le_trans hb3.size hO4.size, fun q hq => (hO4.block q (Nat.lt_of_lt_of_le hq hb3.size) (by have := hb2.size; omega) (by simp [Value.ownBlock])).trans (hb3.block q hq)⟩
  have hbk4 : ∀ q, hv4.ownBlock = some q → w.heap.size ≤ q ∧ q < w4.heap.size := fun q hq => by
    refine ⟨?_, (hQ4.own.lt q hq).2⟩
    rcases hN4 with e | ⟨q', e, hle⟩
    · rw [hq] at e; simp [Value.ownBlock] at e
    · rw [hq] at e
      injection e with e
      have := hb3.size
      omega
  have hpw : w.heap.size ≤ w2.heap.size := by have := hb2.size; omega
  have hp7 : w2.heap.size ≠ w4.heap.size := by have := hQ4.lt; omega
  have hbw7 : w.heap.size ≤ w4.heap.size := by have := hb4.size; omega
  have hb5 : Below w.heap.size w (w4.alloc (.cells #[.int .i64 0, .int .i64 0, .int .i64 0, .int .i64 0, .int .i64 0, .int .i64 0, .int .i64 0, .int .i64 0, .int .i64 0, .int .u64 0] 24)) := hb4.alloc hb4.size _
  have hQ5 := hQ4.kept ((Below.refl w4.heap.size w4).alloc (Nat.le_refl _) (.cells #[.int .i64 0, .int .i64 0, .int .i64 0, .int .i64 0, .int .i64 0, .int .i64 0, .int .i64 0, .int .i64 0, .int .i64 0, .int .u64 0] 24))
  have hA5 : (w4.alloc (.cells #[.int .i64 0, .int .i64 0, .int .i64 0, .int .i64 0, .int .i64 0, .int .i64 0, .int .i64 0, .int .i64 0, .int .i64 0, .int .u64 0] 24)).heap[w4.heap.size]? = some (.cells (encJ default).toArray 24 (0, 0)) := heap_alloc_new w4 _
  have hK5 : ∀ q, hv4.ownBlock = some q → w.heap.size ≤ q ∧ q ≠ w4.heap.size := fun q hq => ⟨(hbk4 q hq).1, by have := (hbk4 q hq).2; omega⟩
  have hlen4 : L4.length = L.length := hP4.length_eq
  obtain ⟨ao, cap, rfl, q1, q2, q3⟩ := hr1
  obtain ⟨n, hn⟩ : ∃ n, n = L.length := ⟨_, rfl⟩
  rw [← hn] at hn60 hlen4 ⊢
  have hnM : n ≤ 9223372036854775807 := by omega
  have st5 : Hid (QV (w4.alloc (.cells #[.int .i64 0, .int .i64 0, .int .i64 0, .int .i64 0, .int .i64 0, .int .i64 0, .int .i64 0, .int .i64 0, .int .i64 0, .int .u64 0] 24)) w2.heap.size hv4 L4 ∧ (w4.alloc (.cells #[.int .i64 0, .int .i64 0, .int .i64 0, .int .i64 0, .int .i64 0, .int .i64 0, .int .i64 0, .int .i64 0, .int .i64 0, .int .u64 0] 24)).heap[w4.heap.size]? = some (.cells (encJ default).toArray 24 (0, 0)) ∧ Below w.heap.size w (w4.alloc (.cells #[.int .i64 0, .int .i64 0, .int .i64 0, .int .i64 0, .int .i64 0, .int .i64 0, .int .i64 0, .int .i64 0, .int .i64 0, .int .u64 0] 24))) := ⟨hQ5, hA5, hb5⟩
  replace hH4 := Lib.hid hH4
  replace hK5 := Lib.hid hK5
  replace hlen4 := Lib.hid hlen4
  replace hn := Lib.hid hn
  clear hQ4 hO4 hN4 hP4 hbk4 hb4 hb3 hb2 hq3 hr3 q1 q2 q3 hg1 hQ5 hA5 hb5
  replace zE := Lib.hid zE
  go_wp2_with fail
  go_loopw [8] (fun ii wr => ∃ (i : Nat) (hq : Value) (Lq : List Jb) (x : Jb), i ≤ n ∧ ii = .int .i64 i ∧ QV wr w2.heap.size hq Lq ∧ HeapL Lq ∧ Lq.length + i = n ∧ wr.heap[w4.heap.size]? = some (.cells (encJ x).toArray 24 (0, 0)) ∧ (0 < i → ∀ y ∈ Lq, aheadJ y x = false) ∧ (∀ q, hq.ownBlock = some q → w.heap.size ≤ q ∧ q ≠ w4.heap.size) ∧ Below w.heap.size w wr) (fun ii _ => n - (intOf ii).toNat)
  case atStart => exact ⟨0, hv4, L4, default, Nat.zero_le _, rfl, st5.out.1, hH4.out, by have := hlen4.out; omega, st5.out.2.1, fun h => by omega, hK5.out, st5.out.2.2⟩
  case round =>
    clear st5 hH4 hK5 hlen4 hcZ lZ hln
    have zE := zE.out
    obtain ⟨i, hq, Lq, x, hin, rfl, hQ, hH, hLi, hX, hfst, hK, hbr⟩ := hrel
    by_cases hlt : i < n
    · have b2 : (i : Int) < (n : Int) := by omega
      have wi : IntKind.i64.wrap ((i : Int) + 1) = (i : Int) + 1 := by rw [IntKind.wrap_i64]; omega
      have hLp : 0 < Lq.length := by omega
      obtain ⟨g, c, rfl⟩ := hQ.shape hLp
      obtain ⟨hgw, hg4⟩ := hK g rfl
      have hpop := Pop_some hQ hH hLp (by omega)
      replace hpop := Lib.hid hpop
      replace hLi := Lib.hid hLi
      replace hQ := Lib.hid hQ
      replace hH := Lib.hid hH
      replace hX := Lib.hid hX
      replace hfst := Lib.hid hfst
      go_wp2_with fail
      go_at_call 15
      refine hpop.out.mono ?_
      clear hpop
      intro e w6 h6
      obtain ⟨L6, m6, c6, rfl, hQ6, hH6, hP6, hO6⟩ := h6
      have hb6 : Below w.heap.size w w6 := hbr.trans (hO6.below hpw hgw hbr.size)
      have hX6 := (hO6.block w4.heap.size (Put.lt_of_heap hX.out) hp7.symm (Ne.symm hg4)).trans hX.out
      have hnxt := HeapL.first hH.out hP6
      have hmem : Lq[0]! ∈ Lq := by rw [getElem!_pos Lq 0 hLp]; exact List.getElem_mem _
      have hl6 : L6.length + (i + 1) = n := by have := hP6.length_eq; rw [List.length_cons] at this; have := hLi.out; omega
      have st7 : Sem.run Try.prog (storeCells ⟨w6.heap.size, 0, none⟩ (encJ Lq[0]!) 0) (w6.alloc (.cells #[.int .i64 0, .int .i64 0, .int .i64 0, .int .i64 0, .int .i64 0, .int .i64 0, .int .i64 0, .int .i64 0, .int .i64 0, .int .u64 0] 24)) = .ok () (w6.alloc (.cells (encJ Lq[0]!).toArray 24)) := store_new w6 w6.heap.size (encJ Lq[0]!) (encJ default) 24 rfl (by rw [encJ_len, encJ_len]) (encJ_one _)
      have hB7 := heap_alloc_new w6 (.cells (encJ Lq[0]!).toArray 24)
      have hb67 : Below w6.heap.size w6 (w6.alloc (.cells (encJ Lq[0]!).toArray 24)) := (Below.refl _ _).alloc (Nat.le_refl _) _
      have hs7 : (w6.alloc (.cells (encJ Lq[0]!).toArray 24)).heap.size = w6.heap.size + 1 := by simp
      obtain ⟨w7, hw7⟩ : ∃ w7, w7 = w6.alloc (.cells (encJ Lq[0]!).toArray 24) := ⟨_, rfl⟩
      rw [← hw7] at st7 hB7 hb67 hs7
      have hX67 : w4.heap.size < w6.heap.size := Put.lt_of_heap hX6
      have hQ7 := hQ6.kept hb67
      have hX7 := (hb67.block _ hX67).trans hX6
      have hb7 : Below w.heap.size w w7 := hb6.trans (hb67.mono hb6.size)
      -- behind whatever comes that only grows, what is last is what came out
      have STEP : Hid (∀ w8, Below w7.heap.size w7 w8 → ∃ w9, Sem.run Try.prog (loadCellsFrom ⟨w6.heap.size, 0, none⟩ 0 k #[]) w8 = .ok (encJ Lq[0]!).toArray w8 ∧ Sem.run Try.prog (storeCells ⟨w4.heap.size, 0, none⟩ (encJ Lq[0]!) 0) w8 = .ok () w9 ∧ QV w9 w2.heap.size (.slice (some ⟨g, 0, none⟩) m6 c6) L6 ∧ w9.heap[w4.heap.size]? = some (.cells (encJ Lq[0]!).toArray 24 (0, 0)) ∧ Below w.heap.size w w9) := by
        intro w8 h8
        have hQ8 := hQ7.kept h8
        have hX8 := (h8.block _ (by omega)).trans hX7
        have hB8 := (h8.block _ (by omega)).trans hB7
        obtain ⟨s1, s2, s3⟩ := put_box (x := Lq[0]!) (cs := encJ x) hX8 (encJ_len _)
        have hb8 : Below w.heap.size w w8 := hb7.trans (h8.mono hb7.size)
        refine ⟨_, load_box hB8 (by rw [encJ_len, hk.out]), s1, hQ8.off s3 hp7 hp7 hg4 hg4, s2, ⟨s3.os.trans hb8.os, s3.tape.trans hb8.tape, s3.output.trans hb8.output, Nat.le_trans hb8.size s3.size, fun q hq => (s3.block q (Nat.lt_of_lt_of_le hq hb8.size) (by omega) (by omega)).trans (hb8.block q hq)⟩⟩
      have hahd := Lib.hid fun (hi : 0 < i) => (ahead_fn Lq[0]! x w7).mono fun e w' h => (⟨by rw [h.1, hfst.out hi _ hmem], h.2⟩ : e = .returned (.bool false) ∧ Gr w7 w')
      have hl7 := load_box (k := k) hB7 (by rw [encJ_len, hk.out])
      have hx7 := load_box (k := k) hX7 (by rw [encJ_len, hk.out])
      have lJ := encJ_len Lq[0]!
      have lX := encJ_len x
      rw [← hk.out] at lJ lX
      replace hw7 := Lib.hid hw7
      replace hH6 := Lib.hid hH6
      replace hnxt := Lib.hid hnxt
      replace hl6 := Lib.hid hl6
      replace hb67 := Lib.hid hb67
      clear hX6 hX7 hB7 hQ7 hQ6 hP6 hO6 hmem hb6
      generalize hcX : encJ x = cX at hahd hx7 lX
      replace hcX := Lib.hid hcX
      generalize hcJ : encJ Lq[0]! = cJ at st7 STEP hahd hl7 lJ ⊢
      replace hcJ := Lib.hid hcJ
      by_cases hi0 : i = 0
      · have g0 : ¬ (0 : Int) < (i : Int) := by omega
        obtain ⟨w9, s1, s2, h9a, h9b, h9c⟩ := STEP.out w7 (Below.refl _ _)
        have h9 := Lib.hid (And.intro h9a (And.intro h9b h9c))
        clear h9a h9b h9c hahd
        replace hi0 := Lib.hid hi0
        go_wp2_with fail
        go_roundw
        case rel => exact ⟨i + 1, _, L6, Lq[0]!, by omega, by go_num, h9.out.1, hH6.out, hl6.out, by rw [hcJ.out]; exact h9.out.2.1, fun _ => hnxt.out, fun q e => by
          have e2 : g = q := by simpa [Value.ownBlock] using e
          subst e2
          exact ⟨hgw, hg4⟩, h9.out.2.2⟩
        case measure => simp [intOf]; omega
      · have g0 : (0 : Int) < (i : Int) := by omega
        have hah := hahd.out (by omega)
        go_wp2_with fail
        go_at_call 7
        refine hah.mono ?_
        clear hah hahd hl7 hx7
        rintro e w8 ⟨rfl, hg8⟩
        obtain ⟨w9, s1, s2, h9a, h9b, h9c⟩ := STEP.out w8 hg8.below
        have h9 := Lib.hid (And.intro h9a (And.intro h9b h9c))
        clear h9a h9b h9c
        go_wp2_with fail
        go_roundw
        case rel => exact ⟨i + 1, _, L6, Lq[0]!, by omega, by go_num, h9.out.1, hH6.out, hl6.out, by rw [hcJ.out]; exact h9.out.2.1, fun _ => hnxt.out, fun q e => by
          have e2 : g = q := by simpa [Value.ownBlock] using e
          subst e2
          exact ⟨hgw, hg4⟩, h9.out.2.2⟩
        case measure => simp [intOf]; omega
    · obtain rfl : i = n := by omega
      have b2 : ¬ (i : Int) < (i : Int) := by omega
      have hL0 : Lq = [] := List.eq_nil_of_length_eq_zero (by omega)
      subst hL0
      have hpop := hQ.popEmpty
      clear hQ hH hX hfst hK hLi
      go_wp2_with fail
      go_at_call 15
      refine hpop.mono ?_
      clear hpop
      rintro e w6 ⟨rfl, hg6⟩
      have hb6 : Below w.heap.size w w6 := hbr.trans (hg6.below.mono hbr.size)
      have st7 : Sem.run Try.prog (storeCells ⟨w6.heap.size, 0, none⟩ (encJ default) 0) (w6.alloc (.cells #[.int .i64 0, .int .i64 0, .int .i64 0, .int .i64 0, .int .i64 0, .int .i64 0, .int .i64 0, .int .i64 0, .int .i64 0, .int .u64 0] 24)) = .ok () (w6.alloc (.cells (encJ default).toArray 24)) := store_new w6 w6.heap.size (encJ default) (encJ default) 24 rfl rfl (encJ_one _)
      have hb7 : Below w.heap.size w (w6.alloc (.cells (encJ default).toArray 24)) := hb6.alloc hb6.size _
      have lJ := encJ_len default
      rw [← hk.out] at lJ
      generalize hcJ : encJ default = cJ at st7 hb7 lJ ⊢
      replace hcJ := Lib.hid hcJ
      obtain ⟨w7, hw7⟩ : ∃ w7, w7 = w6.alloc (.cells cJ.toArray 24) := ⟨_, rfl⟩
      rw [← hw7] at st7 hb7
      replace hw7 := Lib.hid hw7
      go_wp2_with fail
      go_at_call 10
      refine (haw.out _).mono ?_
      clear haw
      rintro e w8 ⟨rfl, hb8⟩
      have hfin : Below w.heap.size w w8 := hb7.trans (hb8.mono hb7.size)
      clear hb8 hb7 hb6
      go_wp2_with fail
      go_ret
      exact ⟨rfl, hfin⟩

end
end Go.Proofs.Ytenpdglmmbkmkaa
