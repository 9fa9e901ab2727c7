/-
  Own walks: the law's own: are lists of jobs the same; the jobs in two states.
-/
import Derived.Test.YtmlmehpcfgchgaaJbG
import Derived.BigQuiet
namespace Go.Proofs.Ytmlmehpcfgchgaa
open Go.RowKit Go.Sort Go.Lib Go.Shelf Put

section
variable {w w' : World} {p : Nat} {v u : Value} {L M : List Jb}

theorem same_lists {l1 l2 : List Jb} (h : l1.length = l2.length) (ht : ∀ i, i < l1.length → l1[i]! = l2[i]!) : l1 = l2 := by
  refine List.ext_getElem h fun i h1 h2 => ?_
  have := ht i h1
  rwa [getElem!_pos l1 i h1, getElem!_pos l2 i h2] at this

set_option maxRecDepth 100000 in
set_option maxHeartbeats 2000000 in
theorem same_fn (h1 : RowAt encJ 10 w v L) (h2 : RowAt encJ 10 w u M) : Calls Try.prog 16 #[v, u] w fun e w' => e = .returned (.bool (decide (L = M))) ∧ ∃ m, w' = w.drewN m := by
  have hmix := mixedO
  have zE := zE_job
  obtain ⟨k, hk⟩ : ∃ k, k = 10 := ⟨_, rfl⟩
  rw [← hk] at zE
  replace hk := Lib.hid hk
  obtain ⟨a1, c1, rfl, q1, q2, q3⟩ := h1
  obtain ⟨a2, c2, rfl, r1, r2, r3⟩ := h2
  have hm1 : c1 ≤ 9223372036854775807 := by unfold maxLen at q2; omega
  have hm2 : c2 ≤ 9223372036854775807 := by unfold maxLen at r2; omega
  by_cases hne : L.length = M.length
  · obtain ⟨n, hn⟩ : ∃ n, L.length = n := ⟨_, rfl⟩
    have hn2 : M.length = n := by omega
    have HQ : Hid (∀ i, i < n → ∃ b off b' off', a1 = some ⟨b, off, none⟩ ∧ a2 = some ⟨b', off', none⟩ ∧ JRow w b off L ∧ JRow w b' off' M) := fun i hi => by
      obtain ⟨b, off, e, x, y⟩ := q3 (by omega)
      obtain ⟨b', off', e', x', y'⟩ := r3 (by omega)
      exact ⟨b, off, b', off', e, e', ⟨x, y⟩, ⟨x', y'⟩⟩
    have d0 : ((n : Int) != (n : Int)) = false := by simp
    rw [hn] at q1 ⊢
    rw [hn2] at r1 ⊢
    replace hn := Lib.hid hn
    replace hn2 := Lib.hid hn2
    replace hne := Lib.hid hne
    clear q3 r3
    go_enter Try.func16, Try.ntmps16
    go_wp2_with fail
    go_loopw [5] (fun ii wr => ∃ (i : Nat), i ≤ n ∧ ii = .int .i64 i ∧ Hid (∀ q, q < i → L[q]! = M[q]!) ∧ ∃ m, wr = w.drewN m) (fun ii _ => n - (intOf ii).toNat)
    case atStart => exact ⟨0, Nat.zero_le _, rfl, Lib.hid (fun q hq => by omega), 0, rfl⟩
    case round =>
      obtain ⟨i, hin, rfl, heq, m, hm⟩ := hrel
      have hbm : Below w.heap.size w wr := by rw [hm]; exact ⟨rfl, rfl, rfl, Nat.le_refl _, fun _ _ => rfl⟩
      replace hm := Lib.hid hm
      by_cases hlt : i < n
      · have b2 : (i : Int) < (n : Int) := by omega
        have wi : IntKind.i64.wrap ((i : Int) + 1) = (i : Int) + 1 := by rw [IntKind.wrap_i64]; omega
        obtain ⟨b, off, b', off', rfl, rfl, hJ, hJ'⟩ := HQ.out i hlt
        have i1 : i < L.length := by have := hn.out; omega
        have i2 : i < M.length := by have := hn2.out; omega
        have bw : ∀ n', Below w.heap.size w (wr.drewN n') := fun n' => ⟨hbm.os, hbm.tape, hbm.output, hbm.size, hbm.block⟩
        have l1 := fun n' => (hJ.below (bw n')).load hk.out i1
        have l2 := fun n' => (hJ'.below (bw n')).load hk.out i2
        have hq := fun W => job_neq L[i]! M[i]! W
        have hgd := job_guard
        have lI := encJ_len L[i]!
        have lJ := encJ_len M[i]!
        rw [← hk.out] at lI lJ
        clear bw hJ hJ' hbm
        by_cases he : L[i]! = M[i]!
        · have hS : Hid (∀ q, q < i + 1 → L[q]! = M[q]!) := fun q hq' => by
            rcases Nat.lt_or_ge q i with h | h
            · exact heq.out q h
            · have : q = i := by omega
              rw [this]; exact he
          rw [decide_eq_true he] at hq
          clear heq he
          generalize encJ L[i]! = cI at *
          generalize encJ M[i]! = cJ at *
          go_wp2_with fail
          go_quiet (fail)
          go_wp2_with fail
          go_roundw
          case rel => exact ⟨i + 1, by omega, by go_num, hS, _, (by rw [hm.out]; exact World.drewN_drewN _ _ _)⟩
          case measure => simp [intOf]; omega
        · have hS : Hid (decide (L = M) = false) := decide_eq_false fun e => he (by rw [e])
          rw [decide_eq_false he] at hq
          clear heq he
          generalize encJ L[i]! = cI at *
          generalize encJ M[i]! = cJ at *
          go_wp2_with fail
          go_quiet (fail)
          go_wp2_with fail
          go_ret
          exact ⟨by rw [hS.out]; rfl, _, (by rw [hm.out]; exact World.drewN_drewN _ _ _)⟩
      · obtain rfl : i = n := by omega
        have b2 : ¬ (i : Int) < (i : Int) := by omega
        have hS : Hid (decide (L = M) = true) := decide_eq_true (same_lists hne.out fun q hq => heq.out q (by have := hn.out; omega))
        go_wp2_with fail
        go_ret
        exact ⟨by rw [hS.out]; rfl, _, hm.out⟩
  · have d0 : ((L.length : Int) != (M.length : Int)) = true := bne_iff_ne.2 (by omega)
    rw [decide_eq_false (fun e => hne (by rw [e]))]
    have hl1 : L.length ≤ 9223372036854775807 := by omega
    have hl2 : M.length ≤ 9223372036854775807 := by omega
    clear q3 r3 hne
    generalize L.length = n1 at *
    generalize M.length = n2 at *
    go_enter Try.func16, Try.ntmps16
    go_wp2_with fail
    go_ret
    exact ⟨rfl, 0, rfl⟩

def twoP (a b : Int) (j : Jb) : Bool := decide (j.state = a) || decide (j.state = b)

set_option maxRecDepth 100000 in
set_option maxHeartbeats 4000000 in
theorem in_fn (h : PV w p v L) (hL : L.length ≤ 1000) (a b : Int) : Calls Try.prog 23 #[.pointer (some ⟨p, 0, none⟩), .int .i64 a, .int .i64 b] w (InPost w (L.filter (twoP a b))) := by
  obtain ⟨i0, hi0, hz0, hz1, hz2⟩ := info_parts infoJob
  obtain ⟨n, hn⟩ : ∃ n, L.length = n := ⟨_, rfl⟩
  have HQ : Hid (0 < n → ∃ g cap, v = .slice (some ⟨g, 0, none⟩) n cap ∧ JRow w g 0 L) := fun hp => by
    obtain ⟨g, cap, e⟩ := h.shape (by omega)
    subst e
    exact ⟨g, cap, by rw [hn], h.row⟩
  have HP : Hid (∀ W, Below w.heap.size w W → W.cell? ⟨p, 0, none⟩ = some v) := fun W hW => (h.kept hW).c0
  obtain ⟨ao, cap, rfl, _⟩ := own_shape h.own
  rw [hn] at hL HP
  replace hn := Lib.hid hn
  clear h
  go_enter Try.func23, Try.ntmps23
  go_wp2_with fail
  go_loopw [7, 8] (fun oo ii wr => ∃ (i : Nat), i ≤ n ∧ ii = .int .i64 i ∧ wr.ownsRow w.heap.size 52 10 oo ((L.take i).filter (twoP a b)).length (((L.take i).filter (twoP a b)).flatMap encJ) ∧ Below w.heap.size w wr) (fun _ ii _ => n - (intOf ii).toNat)
  case atStart => exact ⟨0, Nat.zero_le _, rfl, by simpa using World.ownsRow_nil w w.heap.size 52 10, Below.refl _ _⟩
  case round =>
    obtain ⟨i, hin, rfl, hown, hbr⟩ := hrel
    have c0 := HP.out wr hbr
    by_cases hlt : i < n
    · have b2 : (i : Int) < (n : Int) := by omega
      have wi : IntKind.i64.wrap ((i : Int) + 1) = (i : Int) + 1 := by rw [IntKind.wrap_i64]; omega
      obtain ⟨g, cap2, e2, hJ⟩ := HQ.out (by omega)
      cases e2
      have hiL : i < L.length := by have := hn.out; omega
      have hJq := hJ.below hbr
      have jc : Hid (∀ j u, (encJ L[i]!)[j]? = some u → wr.cell? ⟨g, i * 10 + j, none⟩ = some u) := fun j u hj => by
        have := hJq.cell i _ j u (by rw [List.getElem?_eq_getElem hiL, getElem!_pos L i hiL]) hj
        simpa using this
      have k5 := jc.out 5 _ rfl
      obtain ⟨X, hX⟩ : ∃ X, X = (L.take i).filter (twoP a b) := ⟨_, rfl⟩
      have hXl : X.length ≤ 1000 := by rw [hX]; exact Nat.le_trans (List.length_filter_le _ _) (by rw [List.length_take]; omega)
      rw [← hX] at hown
      have HE : Hid ((L.take (i + 1)).filter (twoP a b) = if twoP a b L[i]! = true then X ++ [L[i]!] else X) := by
        show _ = _
        rw [hX]
        split
        · exact filt_yes hiL ‹_›
        · rename_i hq
          exact filt_no hiL (Bool.eq_false_iff.2 hq)
      replace hX := Lib.hid hX
      clear hJ hJq
      have hsz : w.heap.size ≤ wr.heap.size := hbr.size
      have et : twoP a b L[i]! = (decide ((L[i]!).2.2.2.2.2.1 = a) || decide ((L[i]!).2.2.2.2.2.1 = b)) := rfl
      rw [et] at HE
      clear et
      generalize hy : L[i]! = y at *
      replace hy := Lib.hid hy
      have YES : ((y.2.2.2.2.2.1 == a) = true ∨ ((y.2.2.2.2.2.1 == a) = false ∧ (y.2.2.2.2.2.1 == b) = true)) ∨ ((y.2.2.2.2.2.1 == a) = false ∧ (y.2.2.2.2.2.1 == b) = false) := by
        cases (y.2.2.2.2.2.1 == a) <;> cases (y.2.2.2.2.2.1 == b) <;> simp
      rcases YES with hyes | ⟨d1, d2⟩
      · have HE2 := HE.out
        rw [if_pos (by rcases hyes with e | ⟨_, e⟩ <;> simp [eq_of_beq e])] at HE2
        replace HE2 := Lib.hid HE2
        clear HE
        obtain ⟨x1, x2, x3, x4, x5, x6, x7, x8, x9, x0⟩ := y
        have k0 := jc.out 0 _ rfl
        have k1 := jc.out 1 _ rfl
        have k2 := jc.out 2 _ rfl
        have k3 := jc.out 3 _ rfl
        have k4 := jc.out 4 _ rfl
        have k6 := jc.out 6 _ rfl
        have k7 := jc.out 7 _ rfl
        have k8 := jc.out 8 _ rfl
        have k9 := jc.out 9 _ rfl
        simp only [Nat.add_zero] at k0
        rcases hyes with d1 | ⟨d1, d2⟩
        all_goals
          go_wp2_with (at_builtin; go_must (refine wpList_append_own _ rfl (.tmp 40) (.tmp 48) 33 rfl w.heap.size 52 i0 (.agg (encJ default).toArray) 10 80 Try.underlying33 hi0 hz0 hz1 hz2 rfl (by decide) u7 X.length (X.flatMap encJ) rfl (hown.alloc _) ⟨wr.heap.size, 0, none⟩ 1 1 (encJ (x1, x2, x3, x4, x5, x6, x7, x8, x9, x0)) rfl rfl ?c0 ?c1 ?c2 ?c3 ?c4 ?c5))
          case c0 => exact fun _ _ h => h
          case c1 => exact encJ_one _
          case c2 => unfold maxLen; omega
          case c3 => omega
          case c4 => (have hh : ∀ o, (wr.alloc o).heap.size = wr.heap.size + 1 := fun o => by simp); first | omega | (rw [hh]; omega)
          case c5 =>
            intro v6 w7 ho7 hg7 _
            have hb7 : Below w.heap.size w w7 := (hbr.alloc hbr.size _).grown hg7 (by simp; omega) (fun k hk => (hown.lt k hk).1)
            have ho8 : Hid (w7.ownsRow w.heap.size 52 10 v6 ((L.take (i + 1)).filter (twoP a b)).length (((L.take (i + 1)).filter (twoP a b)).flatMap encJ)) := by
              show World.ownsRow _ _ _ _ _ _ _
              rw [HE2.out, List.length_append, List.flatMap_append]
              simp only [List.length_singleton, List.flatMap_cons, List.flatMap_nil, List.append_nil]
              exact ho7
            clear k0 k1 k2 k3 k4 k5 k6 k7 k8 k9 ho7 hg7 hown hbr
            go_wp2_with fail
            go_roundw
            case rel => exact ⟨i + 1, by omega, by go_num, ho8.out, hb7⟩
            case measure => simp [intOf]; omega
      · have HE2 := HE.out
        rw [if_neg (by simp [beq_eq_false_iff_ne.1 d1, beq_eq_false_iff_ne.1 d2])] at HE2
        have ho8 : Hid (wr.ownsRow w.heap.size 52 10 u7 ((L.take (i + 1)).filter (twoP a b)).length (((L.take (i + 1)).filter (twoP a b)).flatMap encJ)) := by
          show World.ownsRow _ _ _ _ _ _ _
          rw [HE2]
          exact hown
        clear HE HE2 hown jc
        go_wp2_with fail
        go_roundw
        case rel => exact ⟨i + 1, by omega, by go_num, ho8.out, hbr⟩
        case measure => simp [intOf]; omega
    · obtain rfl : i = n := by omega
      have b2 : ¬ (i : Int) < (i : Int) := by omega
      have e1 : L.take i = L := List.take_of_length_le (by rw [hn.out]; exact Nat.le_refl _)
      rw [e1] at hown
      have hfin : Hid (InPost w (L.filter (twoP a b)) (.returned u7) wr) := ⟨u7, rfl, hown, hbr⟩
      clear hown e1
      go_wp2_with fail
      go_ret
      exact hfin.out

end
end Go.Proofs.Ytmlmehpcfgchgaa
