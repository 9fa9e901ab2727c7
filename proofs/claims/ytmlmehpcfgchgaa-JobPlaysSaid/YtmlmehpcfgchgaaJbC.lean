/-
  Own walks: the program's readers of a table of jobs: Right, Alive, Len, Counts, Live, and what they stand on.
-/
import Derived.Test.YtmlmehpcfgchgaaJbB
import Derived.Test.YtmlmehpcfgchgaaOrE
import Derived.BigQuiet
namespace Go.Proofs.Ytmlmehpcfgchgaa
open Go.RowKit Go.Sort Go.Lib Go.Shelf Put

set_option maxRecDepth 100000 in
set_option maxHeartbeats 1000000 in
theorem Right_fn (r : Rq) (w : World) : Calls Try.prog 7 #[.agg (encR r).toArray] w fun e w' => e = .returned (.int .i64 (rightF r)) ∧ ∃ o, w' = w.alloc o := by
  obtain ⟨x1, x2, x3, x4, x5, x6, x7, x8, x9⟩ := r
  simp only [encR]
  by_cases h0 : x3 < 0
  · have d0 : decide (x3 < 0) = true := decide_eq_true h0
    have e : rightF ⟨x1, x2, x3, x4, x5, x6, x7, x8, x9⟩ = 1 := by simp [rightF, h0]
    rw [e]
    clear e
    go_enter Try.func7, Try.ntmps7
    go_wp2_with fail
    go_ret
    exact ⟨rfl, _, rfl⟩
  · have d0 : decide (x3 < 0) = false := decide_eq_false h0
    by_cases h1 : 255 < x3
    · have d1 : decide (255 < x3) = true := decide_eq_true h1
      have e : rightF ⟨x1, x2, x3, x4, x5, x6, x7, x8, x9⟩ = 1 := by simp [rightF, h0, h1]
      rw [e]
      clear e
      go_enter Try.func7, Try.ntmps7
      go_wp2_with fail
      go_ret
      exact ⟨rfl, _, rfl⟩
    · have d1 : decide (255 < x3) = false := decide_eq_false h1
      by_cases h2 : x6 < 0
      · have d2 : decide (x6 < 0) = true := decide_eq_true h2
        have e : rightF ⟨x1, x2, x3, x4, x5, x6, x7, x8, x9⟩ = 1 := by simp [rightF, h0, h1, h2]
        rw [e]
        clear e
        go_enter Try.func7, Try.ntmps7
        go_wp2_with fail
        go_ret
        exact ⟨rfl, _, rfl⟩
      · have d2 : decide (x6 < 0) = false := decide_eq_false h2
        by_cases h3 : 1000 < x6
        · have d3 : decide (1000 < x6) = true := decide_eq_true h3
          have e : rightF ⟨x1, x2, x3, x4, x5, x6, x7, x8, x9⟩ = 1 := by simp [rightF, h0, h1, h2, h3]
          rw [e]
          clear e
          go_enter Try.func7, Try.ntmps7
          go_wp2_with fail
          go_ret
          exact ⟨rfl, _, rfl⟩
        · have d3 : decide (1000 < x6) = false := decide_eq_false h3
          by_cases h4 : x4 < 1
          · have d4 : decide (x4 < 1) = true := decide_eq_true h4
            have e : rightF ⟨x1, x2, x3, x4, x5, x6, x7, x8, x9⟩ = 9 := by simp [rightF, h0, h1, h2, h3, h4]
            rw [e]
            clear e
            go_enter Try.func7, Try.ntmps7
            go_wp2_with fail
            go_ret
            exact ⟨rfl, _, rfl⟩
          · have d4 : decide (x4 < 1) = false := decide_eq_false h4
            by_cases h5 : 64 < x4
            · have d5 : decide (64 < x4) = true := decide_eq_true h5
              have e : rightF ⟨x1, x2, x3, x4, x5, x6, x7, x8, x9⟩ = 9 := by simp [rightF, h0, h1, h2, h3, h4, h5]
              rw [e]
              clear e
              go_enter Try.func7, Try.ntmps7
              go_wp2_with fail
              go_ret
              exact ⟨rfl, _, rfl⟩
            · have d5 : decide (64 < x4) = false := decide_eq_false h5
              by_cases h6 : x5 < 1
              · have d6 : decide (x5 < 1) = true := decide_eq_true h6
                have e : rightF ⟨x1, x2, x3, x4, x5, x6, x7, x8, x9⟩ = 10 := by simp [rightF, h0, h1, h2, h3, h4, h5, h6]
                rw [e]
                clear e
                go_enter Try.func7, Try.ntmps7
                go_wp2_with fail
                go_ret
                exact ⟨rfl, _, rfl⟩
              · have d6 : decide (x5 < 1) = false := decide_eq_false h6
                by_cases h7 : 1048576 < x5
                · have d7 : decide (1048576 < x5) = true := decide_eq_true h7
                  have e : rightF ⟨x1, x2, x3, x4, x5, x6, x7, x8, x9⟩ = 10 := by simp [rightF, h0, h1, h2, h3, h4, h5, h6, h7]
                  rw [e]
                  clear e
                  go_enter Try.func7, Try.ntmps7
                  go_wp2_with fail
                  go_ret
                  exact ⟨rfl, _, rfl⟩
                · have d7 : decide (1048576 < x5) = false := decide_eq_false h7
                  have e : rightF ⟨x1, x2, x3, x4, x5, x6, x7, x8, x9⟩ = 0 := by simp [rightF, h0, h1, h2, h3, h4, h5, h6, h7]
                  rw [e]
                  clear e
                  go_enter Try.func7, Try.ntmps7
                  go_wp2_with fail
                  go_ret
                  exact ⟨rfl, _, rfl⟩

/-- Has a job in this state not ended? -/
def aliveF (s : Int) : Bool := decide (1 ≤ s) && decide (s ≤ 3)
theorem Alive_fn (s : Int) (w : World) : Calls Try.prog 9 #[.int .i64 s] w fun e w' => e = .returned (.bool (aliveF s)) ∧ w = w' := by
  unfold aliveF
  by_cases h1 : 1 ≤ s
  · have d1 : decide (1 ≤ s) = true := decide_eq_true h1
    by_cases h2 : s ≤ 3
    · have d2 : decide (s ≤ 3) = true := decide_eq_true h2
      go_enter Try.func9, Try.ntmps9
      go_wp2_with fail
      go_ret
      exact ⟨by simp [h1, h2], rfl⟩
    · have d2 : decide (s ≤ 3) = false := decide_eq_false h2
      go_enter Try.func9, Try.ntmps9
      go_wp2_with fail
      go_ret
      exact ⟨by simp, rfl⟩
  · have d1 : decide (1 ≤ s) = false := decide_eq_false h1
    go_enter Try.func9, Try.ntmps9
    go_wp2_with fail
    go_ret
    exact ⟨by simp, rfl⟩

/-- How many are in a state. -/
def cnt (s : Int) (L : List Jb) : Nat := L.countP fun j => decide (j.state = s)
theorem cnt_le (s : Int) (L : List Jb) : cnt s L ≤ L.length := List.countP_le_length
theorem cnt_yes {s : Int} {L : List Jb} {i : Nat} (hi : i < L.length) (h : (L[i]!).state = s) : cnt s (L.take (i + 1)) = cnt s (L.take i) + 1 := by
  unfold cnt
  rw [take_snoc hi, List.countP_append, List.countP_singleton, if_pos (decide_eq_true h)]
theorem cnt_no {s : Int} {L : List Jb} {i : Nat} (hi : i < L.length) (h : (L[i]!).state ≠ s) : cnt s (L.take (i + 1)) = cnt s (L.take i) := by
  unfold cnt
  rw [take_snoc hi, List.countP_append, List.countP_singleton, if_neg (by rw [decide_eq_false h]; decide)]; rfl
theorem liveL_eq {L : List Jb} (h : ∀ j ∈ L, 1 ≤ j.state ∧ j.state ≤ 6) : (cnt 1 L : Int) + cnt 2 L + cnt 3 L = liveL L := by
  unfold cnt liveL
  induction L with
  | nil => simp
  | cons a l ih =>
    have ih := ih fun j hj => h j (by simp [hj])
    have ha := h a (by simp)
    simp only [List.countP_cons]
    by_cases h1 : a.state = 1
    · simp [h1]; omega
    · by_cases h2 : a.state = 2
      · simp [h2]; omega
      · by_cases h3 : a.state = 3
        · simp [h3]; omega
        · have : ¬ a.state < 4 := by omega
          simp [h1, h2, h3, this]; omega

section
variable {w w' : World} {p : Nat} {v : Value} {L : List Jb}

theorem none_fn (h : TV w p v L) : Calls Try.prog 30 #[.pointer (some ⟨p, 0, none⟩)] w fun e w' => e = .returned (.bool false) ∧ w = w' := by
  have c0 : w.cell? ⟨p, 0, none⟩ = some (.bool true) := by simp [World.cell?, h.cell]
  clear h
  go_enter Try.func30, Try.ntmps30
  go_wp2_with fail
  go_ret
  exact ⟨rfl, rfl⟩

theorem BV.c1 (h : TV w p v L) : w.cell? ⟨p, 1, none⟩ = some v := by simp [World.cell?, h.cell]
theorem BV.c0 (h : PV w p v L) : w.cell? ⟨p, 0, none⟩ = some v := by simp [World.cell?, h.cell]

theorem TLen_fn (h : TV w p v L) : Calls Try.prog 18 #[.pointer (some ⟨p, 0, none⟩)] w fun e w' => e = .returned (.int .i64 L.length) ∧ w = w' := by
  have c1 := h.c1
  have hno := none_fn h
  have hle := own_len h.own
  obtain ⟨ao, cap, rfl, _⟩ := own_shape h.own
  clear h
  go_enter Try.func18, Try.ntmps18
  go_wp2_with (go_at_call 30; go_must (refine hno.mono ?_); rintro e w' ⟨rfl, rfl⟩)
  go_ret
  exact ⟨rfl, rfl⟩

set_option maxRecDepth 100000 in
set_option maxHeartbeats 2000000 in
theorem Counts_fn (h : TV w p v L) (hL : L.length ≤ 1000) : Calls Try.prog 21 #[.pointer (some ⟨p, 0, none⟩)] w fun e w' => e = .returned (.tuple #[.int .i64 (cnt 1 L), .int .i64 (cnt 2 L), .int .i64 (cnt 3 L)]) ∧ Below w.heap.size w w' := by
  have c1 := h.c1
  have hno := none_fn h
  have zE := zE_job
  obtain ⟨k, hk⟩ : ∃ k, k = 10 := ⟨_, rfl⟩
  rw [← hk] at zE
  replace hk := Lib.hid hk
  obtain ⟨n, hn⟩ : ∃ n, L.length = n := ⟨_, rfl⟩
  have HQ : Hid (0 < n → ∃ g cap, v = .slice (some ⟨g, 0, none⟩) n cap ∧ JRow w g 0 L) := fun hp => by
    obtain ⟨g, cap, e⟩ := h.shape (by omega)
    subst e
    exact ⟨g, cap, by rw [hn], h.row⟩
  have hle := own_len h.own
  obtain ⟨ao, cap, rfl, _⟩ := own_shape h.own
  rw [hn] at hL hle c1
  replace hn := Lib.hid hn
  clear h
  go_enter Try.func21, Try.ntmps21
  go_wp2_with (go_at_call 30; go_must (refine hno.mono ?_); rintro e w' ⟨rfl, rfl⟩)
  clear hno
  go_loopw [5, 6, 7, 17] (fun aa bb cc ii wr => ∃ (i a b c : Nat), i ≤ n ∧ ii = .int .i64 i ∧ aa = .int .i64 a ∧ bb = .int .i64 b ∧ cc = .int .i64 c ∧ a ≤ i ∧ b ≤ i ∧ c ≤ i ∧ Hid (a = cnt 1 (L.take i)) ∧ Hid (b = cnt 2 (L.take i)) ∧ Hid (c = cnt 3 (L.take i)) ∧ Below w.heap.size w wr) (fun _ _ _ ii _ => n - (intOf ii).toNat)
  case atStart => exact ⟨0, 0, 0, 0, Nat.zero_le _, rfl, rfl, rfl, rfl, Nat.le_refl _, Nat.le_refl _, Nat.le_refl _, Lib.hid rfl, Lib.hid rfl, Lib.hid rfl, Below.refl _ _⟩
  case round =>
    obtain ⟨i, a, b, c, hin, rfl, rfl, rfl, rfl, la, lb, lc, ha, hb, hc, hbr⟩ := hrel
    by_cases hlt : i < n
    · have b2 : (i : Int) < (n : Int) := by omega
      have wi : IntKind.i64.wrap ((i : Int) + 1) = (i : Int) + 1 := by rw [IntKind.wrap_i64]; omega
      obtain ⟨g, cap2, e2, hJ⟩ := HQ.out (by omega)
      cases e2
      have hiL : i < L.length := by have := hn.out; omega
      have hJq := hJ.below hbr
      have LI := hJq.load hk.out hiL
      simp only [Nat.zero_add] at LI
      have lI := encJ_len L[i]!
      have st : Sem.run Try.prog (storeCells ⟨wr.heap.size, 0, none⟩ (encJ L[i]!) 0) (wr.alloc (.cells #[.int .i64 0, .int .i64 0, .int .i64 0, .int .i64 0, .int .i64 0, .int .i64 0, .int .i64 0, .int .i64 0, .int .i64 0, .int .u64 0] 52)) = .ok () (wr.alloc (.cells (encJ L[i]!).toArray 52)) := store_new wr wr.heap.size (encJ L[i]!) (encJ default) 52 rfl (by rw [encJ_len, encJ_len]) (encJ_one _)
      rw [← hk.out] at lI
      have hb1 : Below w.heap.size w (wr.alloc (.cells (encJ L[i]!).toArray 52)) := hbr.alloc hbr.size _
      have k5 := job_cells (heap_alloc_new wr (.cells (encJ L[i]!).toArray 52)) 5 _ rfl
      generalize hs : (L[i]!).2.2.2.2.2.1 = s at k5
      replace hs : (L[i]!).state = s := hs
      have y1 := fun e => cnt_yes (s := 1) hiL (hs.trans e)
      have y2 := fun e => cnt_yes (s := 2) hiL (hs.trans e)
      have y3 := fun e => cnt_yes (s := 3) hiL (hs.trans e)
      have n1 := fun (e : s ≠ 1) => cnt_no (s := 1) hiL (fun h => e (hs.symm.trans h))
      have n2 := fun (e : s ≠ 2) => cnt_no (s := 2) hiL (fun h => e (hs.symm.trans h))
      have n3 := fun (e : s ≠ 3) => cnt_no (s := 3) hiL (fun h => e (hs.symm.trans h))
      have N1 : Hid (if s = 1 then a + 1 = cnt 1 (L.take (i + 1)) else a = cnt 1 (L.take (i + 1))) := by
        show ite _ _ _
        split
        · rw [y1 ‹_›, ha.out]
        · rw [n1 ‹_›, ha.out]
      have N2 : Hid (if s = 2 then b + 1 = cnt 2 (L.take (i + 1)) else b = cnt 2 (L.take (i + 1))) := by
        show ite _ _ _
        split
        · rw [y2 ‹_›, hb.out]
        · rw [n2 ‹_›, hb.out]
      have N3 : Hid (if s = 3 then c + 1 = cnt 3 (L.take (i + 1)) else c = cnt 3 (L.take (i + 1))) := by
        show ite _ _ _
        split
        · rw [y3 ‹_›, hc.out]
        · rw [n3 ‹_›, hc.out]
      clear y1 y2 y3 n1 n2 n3 ha hb hc hs hJ hJq
      generalize encJ L[i]! = cI at *
      generalize hw1 : wr.alloc (.cells cI.toArray 52) = w1 at *
      replace hw1 := Lib.hid hw1
      have wa : IntKind.i64.wrap ((a : Int) + 1) = (a : Int) + 1 := by rw [IntKind.wrap_i64]; omega
      have wb : IntKind.i64.wrap ((b : Int) + 1) = (b : Int) + 1 := by rw [IntKind.wrap_i64]; omega
      have wc : IntKind.i64.wrap ((c : Int) + 1) = (c : Int) + 1 := by rw [IntKind.wrap_i64]; omega
      by_cases h1 : s = 1
      · subst h1
        have M1 := N1.out
        have M2 := N2.out
        have M3 := N3.out
        rw [if_pos rfl] at M1
        rw [if_neg (by decide)] at M2 M3
        replace M1 := Lib.hid M1
        replace M2 := Lib.hid M2
        replace M3 := Lib.hid M3
        clear N1 N2 N3
        go_wp2_with fail
        go_roundw
        case rel => exact ⟨i + 1, a + 1, b, c, by omega, by go_num, by go_num, rfl, rfl, by omega, by omega, by omega, M1, M2, M3, hb1⟩
        case measure => simp [intOf]; omega
      · have d1 : (s == 1) = false := beq_eq_false_iff_ne.2 h1
        by_cases h2 : s = 2
        · subst h2
          have M1 := N1.out
          have M2 := N2.out
          have M3 := N3.out
          rw [if_neg (by decide)] at M1 M3
          rw [if_pos rfl] at M2
          replace M1 := Lib.hid M1
          replace M2 := Lib.hid M2
          replace M3 := Lib.hid M3
          clear N1 N2 N3 h1
          go_wp2_with fail
          go_roundw
          case rel => exact ⟨i + 1, a, b + 1, c, by omega, by go_num, rfl, by go_num, rfl, by omega, by omega, by omega, M1, M2, M3, hb1⟩
          case measure => simp [intOf]; omega
        · have d2 : (s == 2) = false := beq_eq_false_iff_ne.2 h2
          by_cases h3 : s = 3
          · subst h3
            have M1 := N1.out
            have M2 := N2.out
            have M3 := N3.out
            rw [if_neg (by decide)] at M1 M2
            rw [if_pos rfl] at M3
            replace M1 := Lib.hid M1
            replace M2 := Lib.hid M2
            replace M3 := Lib.hid M3
            clear N1 N2 N3 h1 h2
            go_wp2_with fail
            go_roundw
            case rel => exact ⟨i + 1, a, b, c + 1, by omega, by go_num, rfl, rfl, by go_num, by omega, by omega, by omega, M1, M2, M3, hb1⟩
            case measure => simp [intOf]; omega
          · have d3 : (s == 3) = false := beq_eq_false_iff_ne.2 h3
            have M1 := N1.out
            have M2 := N2.out
            have M3 := N3.out
            rw [if_neg h1] at M1
            rw [if_neg h2] at M2
            rw [if_neg h3] at M3
            replace M1 := Lib.hid M1
            replace M2 := Lib.hid M2
            replace M3 := Lib.hid M3
            clear N1 N2 N3 h1 h2 h3
            go_wp2_with fail
            go_roundw
            case rel => exact ⟨i + 1, a, b, c, by omega, by go_num, rfl, rfl, rfl, by omega, by omega, by omega, M1, M2, M3, hb1⟩
            case measure => simp [intOf]; omega
    · obtain rfl : i = n := by omega
      have b2 : ¬ (i : Int) < (i : Int) := by omega
      have e1 : L.take i = L := List.take_of_length_le (by rw [hn.out]; exact Nat.le_refl _)
      have e2 := ha.out
      have e3 := hb.out
      have e4 := hc.out
      rw [e1] at e2 e3 e4
      replace e2 := Lib.hid e2
      replace e3 := Lib.hid e3
      replace e4 := Lib.hid e4
      clear e1 ha hb hc
      go_wp2_with fail
      go_ret3
      exact ⟨by rw [← e2.out, ← e3.out, ← e4.out]; rfl, hbr⟩

theorem Live_fn (h : TV w p v L) (hL : L.length ≤ 1000) (hg : ∀ j ∈ L, 1 ≤ j.state ∧ j.state ≤ 6) : Calls Try.prog 19 #[.pointer (some ⟨p, 0, none⟩)] w fun e w' => e = .returned (.int .i64 (liveL L)) ∧ Below w.heap.size w w' := by
  have hc := Counts_fn h hL
  have he := liveL_eq hg
  have h1 := cnt_le 1 L
  have h2 := cnt_le 2 L
  have h3 := cnt_le 3 L
  rw [← he]
  clear he h
  generalize cnt 1 L = a at *
  generalize cnt 2 L = b at *
  generalize cnt 3 L = c at *
  have wa : IntKind.i64.wrap ((a : Int) + b) = (a : Int) + b := by rw [IntKind.wrap_i64]; omega
  have wb : IntKind.i64.wrap ((a : Int) + b + c) = (a : Int) + b + c := by rw [IntKind.wrap_i64]; omega
  go_enter Try.func19, Try.ntmps19
  go_wp2_with (go_at_call 21; go_must (refine hc.mono ?_); rintro e w' ⟨rfl, hb⟩)
  go_ret
  exact ⟨rfl, hb⟩

end
end Go.Proofs.Ytmlmehpcfgchgaa
