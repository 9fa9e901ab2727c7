/-
  Own walk: jobs without the first that is one (the law's own).
-/
import Derived.Test.YtenpdglmmbkmkaaOrE
import Derived.Test.YtenpdglmmbkmkaaOwnF
import Derived.Test.YtenpdglmmbkmkaaOwnK
namespace Go.Proofs.Ytenpdglmmbkmkaa
open Go.RowKit Go.Lib Go.Sort

theorem infoJob : (Try.prog.info? 24).map (fun i => (i.zero, i.size, i.bytes)) = some (some (.agg (encJ default).toArray), 10, 80) := by kernel_rfl
theorem flat_len (l : List Jb) : (l.flatMap encJ).length = l.length * 10 := by
  induction l with
  | nil => rfl
  | cons a l ih => rw [List.flatMap_cons, List.length_append, ih, encJ_len, List.length_cons, Nat.add_mul]; omega
theorem take_snoc {l : List Jb} {i : Nat} (h : i < l.length) : l.take (i + 1) = l.take i ++ [l[i]!] := by
  rw [List.take_add_one, List.getElem?_eq_getElem h, getElem!_pos l i h]; rfl
theorem erase_yes {l : List Jb} {i : Nat} {j : Jb} (h : i < l.length) (hj : l[i]! = j) (hn : ¬ j ∈ l.take i) : (l.take (i + 1)).erase j = (l.take i).erase j := by
  rw [take_snoc h, List.erase_append_right _ hn, hj, List.erase_of_not_mem hn]; simp
theorem erase_no {l : List Jb} {i : Nat} {j : Jb} (h : i < l.length) (hd : j ∈ l.take i ∨ l[i]! ≠ j) : (l.take (i + 1)).erase j = (l.take i).erase j ++ [l[i]!] := by
  rw [take_snoc h]
  by_cases hm : j ∈ l.take i
  · rw [List.erase_append_left _ hm]
  · have hne : l[i]! ≠ j := by rcases hd with h1 | h1; exact absurd h1 hm; exact h1
    rw [List.erase_append_right _ hm, List.erase_of_not_mem hm]
    congr 1
    rw [List.erase_of_not_mem]
    simp only [List.mem_singleton]
    exact fun e => hne e.symm
theorem mem_next {l : List Jb} {i : Nat} {j : Jb} (h : i < l.length) : j ∈ l.take (i + 1) ↔ j ∈ l.take i ∨ l[i]! = j := by
  rw [take_snoc h, List.mem_append, List.mem_singleton]
  exact or_congr Iff.rfl eq_comm

def WithoutPost (w : World) (l : List Jb) (j : Jb) (e : Ending) (w' : World) : Prop :=
  ∃ v', e = .returned (.tuple #[v', .bool (decide (j ∈ l))]) ∧ w'.ownsRow w.heap.size 24 10 v' (l.erase j).length ((l.erase j).flatMap encJ) ∧ Below w.heap.size w w'

set_option maxRecDepth 100000 in
set_option maxHeartbeats 4000000 in
theorem without_fn (j : Jb) (v : Value) (l : List Jb) (w : World) (hr : RowAt encJ 10 w v l) (hl : l.length ≤ 1000) : Calls Try.prog 16 #[v, .agg (encJ j).toArray] w (WithoutPost w l j) := by
  have hmix := mixedO
  have zE := zE_job
  obtain ⟨i0, hi0, hz0, hz1, hz2⟩ := info_parts infoJob
  obtain ⟨w0, hw0⟩ : ∃ w0, w0 = w.alloc (.cells (encJ j).toArray 24) := ⟨_, rfl⟩
  have hb0 : Below w.heap.size w w0 := by rw [hw0]; exact (Below.refl _ _).alloc (Nat.le_refl _) _
  have hsz0 : w0.heap.size = w.heap.size + 1 := by rw [hw0]; simp
  have hA0 : w0.heap[w.heap.size]? = some (.cells (encJ j).toArray 24 (0, 0)) := by rw [hw0]; exact heap_alloc_new w _
  have hr0 : RowAt encJ 10 w0 v l := hr.below hb0
  have lJ := encJ_len j
  obtain ⟨k, hk⟩ : ∃ k, k = 10 := ⟨_, rfl⟩
  rw [← hk] at zE lJ
  have BX : Hid (∀ W, Below w0.heap.size w0 W → Sem.run Try.prog (loadCellsFrom ⟨w.heap.size, 0, none⟩ 0 k #[]) W = .ok (encJ j).toArray W) := fun W hW => load_box ((hW.block _ (by omega)).trans hA0) lJ
  replace hk := Lib.hid hk
  obtain ⟨ao, cap, rfl, q1, q2, q3⟩ := hr0
  obtain ⟨n, hn⟩ : ∃ n, l.length = n := ⟨_, rfl⟩
  rw [hn] at q1 q3 hl ⊢
  have HQ : Hid (0 < n → ∃ b off, ao = some ⟨b, off, none⟩ ∧ JRow w0 b off l) := fun hp => by
    obtain ⟨b, off, e1, e2, e3⟩ := q3 hp
    exact ⟨b, off, e1, e2, e3⟩
  have hcM : cap ≤ 9223372036854775807 := by unfold maxLen at q2; omega
  replace hn := Lib.hid hn
  clear q2 q3 hr
  go_enter Try.func16, Try.ntmps16
  go_wp2_with fail
  rw [← hw0]
  replace hw0 := Lib.hid hw0
  go_loopw [6, 7, 8] (fun oo gg ii wr => ∃ (i : Nat), i ≤ n ∧ ii = .int .i64 i ∧ gg = .bool (decide (j ∈ l.take i)) ∧ wr.ownsRow w0.heap.size 24 10 oo ((l.take i).erase j).length (((l.take i).erase j).flatMap encJ) ∧ Below w0.heap.size w0 wr) (fun _ _ ii _ => n - (intOf ii).toNat)
  case atStart => exact ⟨0, Nat.zero_le _, rfl, by simp, by simpa using World.ownsRow_nil w0 w0.heap.size 24 10, Below.refl _ _⟩
  case round =>
    obtain ⟨i, hin, rfl, rfl, hown, hbr⟩ := hrel
    by_cases hlt : i < n
    · have b2 : (i : Int) < (n : Int) := by omega
      have wi : IntKind.i64.wrap ((i : Int) + 1) = (i : Int) + 1 := by rw [IntKind.wrap_i64]; omega
      obtain ⟨b, off, rfl, hJ⟩ := HQ.out (by omega)
      have hJq := hJ.below hbr
      have hiL : i < l.length := by have := hn.out; omega
      have LI : Hid (∀ n', Sem.run Try.prog (loadCellsFrom ⟨b, off + i * k, none⟩ 0 k #[]) (wr.drewN n') = .ok (encJ l[i]!).toArray (wr.drewN n')) := fun n' => (hJq.below (W := wr.drewN n') ⟨rfl, rfl, rfl, Nat.le_refl _, fun _ _ => rfl⟩).load hk.out hiL
      have li := LI.out
      have bx : ∀ n', Sem.run Try.prog (loadCellsFrom ⟨w.heap.size, 0, none⟩ 0 k #[]) (wr.drewN n') = .ok (encJ j).toArray (wr.drewN n') := fun n' => BX.out _ ⟨hbr.os, hbr.tape, hbr.output, hbr.size, hbr.block⟩
      have heq := fun W => job_eql l[i]! j W
      have hgd := job_guard
      have lI := encJ_len l[i]!
      rw [← hk.out] at lI
      have hmn := mem_next (j := j) hiL
      by_cases hm : j ∈ l.take i
      · have d1 : decide (j ∈ l.take i) = true := decide_eq_true hm
        have hE := Lib.hid (erase_no hiL (.inl hm))
        have hM : Hid (decide (j ∈ l.take (i + 1)) = true) := decide_eq_true (by rw [hmn]; exact .inl hm)
        rw [d1]
        replace hm := Lib.hid hm
        replace d1 := Lib.hid d1
        obtain ⟨X, hX⟩ : ∃ X, X = (l.take i).erase j := ⟨_, rfl⟩
        rw [← hX] at hown hE
        replace hX := Lib.hid hX
        clear hmn hJq
        generalize hcI : encJ l[i]! = cI at *
        generalize hcJ : encJ j = cJ at *
        replace hcI := Lib.hid hcI
        replace hcJ := Lib.hid hcJ
        go_wp2_with fail
        go_quiet (fail)
        have hb5 : Below w0.heap.size w0 (wr.drewN nq) := ⟨hbr.os, hbr.tape, hbr.output, hbr.size, hbr.block⟩
        have hown5 : (wr.drewN nq).ownsRow w0.heap.size 24 10 u6 X.length (X.flatMap encJ) := ownsRow_block hown fun _ _ => rfl
        have hJ5 : JRow (wr.drewN nq) b off l := (hJ.below hbr).below ⟨rfl, rfl, rfl, Nat.le_refl _, fun _ _ => rfl⟩
        clear li bx heq hown LI lI lJ BX
        generalize wr.drewN nq = w5 at hb5 hown5 hJ5 ⊢
        obtain rfl := hk.out
        have hget : l[i]? = some l[i]! := by rw [List.getElem?_eq_getElem hiL, getElem!_pos l i hiL]
        have hcI2 := hcI.out
        clear hcI
        generalize l[i]! = y at *
        obtain ⟨x1, x2, x3, x4, x5, x6, x7, x8, x9, x0⟩ := y
        subst hcI2
        have k0 := hJ5.cell i _ 0 _ hget rfl
        have k1 := hJ5.cell i _ 1 _ hget rfl
        have k2 := hJ5.cell i _ 2 _ hget rfl
        have k3 := hJ5.cell i _ 3 _ hget rfl
        have k4 := hJ5.cell i _ 4 _ hget rfl
        have k5 := hJ5.cell i _ 5 _ hget rfl
        have k6 := hJ5.cell i _ 6 _ hget rfl
        have k7 := hJ5.cell i _ 7 _ hget rfl
        have k8 := hJ5.cell i _ 8 _ hget rfl
        have k9 := hJ5.cell i _ 9 _ hget rfl
        simp only [← Nat.add_assoc, Nat.add_zero] at k0 k1 k2 k3 k4 k5 k6 k7 k8 k9
        replace hget := Lib.hid hget
        have hXl : X.length ≤ 1000 := by rw [hX.out]; exact Nat.le_trans (List.length_erase_le) (by rw [List.length_take]; omega)
        have hsz5 := hb5.size
        (try simp only [encJ])
        clear hJ5
        go_wp2_with (at_builtin; go_must (refine wpList_append_own _ rfl (.tmp 25) (.tmp 30) 28 rfl w0.heap.size 24 i0 (.agg (encJ default).toArray) 10 80 Try.underlying28 hi0 hz0 hz1 hz2 rfl (by decide) u6 X.length (X.flatMap encJ) rfl (hown5.alloc _) ⟨w5.heap.size, 0, none⟩ 1 1 (encJ (x1, x2, x3, x4, x5, x6, x7, x8, x9, x0)) rfl rfl ?c0 ?c1 ?c2 ?c3 ?c4 ?c5))
        case c0 => exact fun _ _ h => h
        case c1 => exact encJ_one _
        case c2 => unfold maxLen; omega
        case c3 => omega
        case c4 => (have hh : ∀ o, (w5.alloc o).heap.size = w5.heap.size + 1 := fun o => by simp); first | omega | (rw [hh]; omega)
        case c5 =>
          intro v6 w7 ho7 hg7 _
          have hb7 : Below w0.heap.size w0 w7 := (hb5.alloc hsz5 _).grown hg7 (by simp; omega) (fun k hk => (hown5.lt k hk).1)
          have ho8 : Hid (w7.ownsRow w0.heap.size 24 10 v6 ((l.take (i + 1)).erase j).length (((l.take (i + 1)).erase j).flatMap encJ)) := by
            show World.ownsRow _ _ _ _ _ _ _
            rw [hE.out, List.length_append, List.flatMap_append]
            simp only [List.length_singleton, List.flatMap_cons, List.flatMap_nil, List.append_nil]
            rw [hsz0]
            exact ho7
          clear k0 k1 k2 k3 k4 k5 k6 k7 k8 k9 ho7 hg7 hown5 hb5
          go_wp2_with fail
          go_roundw
          case rel => exact ⟨i + 1, by omega, by go_num, by rw [hM.out], ho8.out, hb7⟩
          case measure => simp [intOf]; omega
      · by_cases hj : l[i]! = j
        · have d1 : decide (j ∈ l.take i) = false := decide_eq_false hm
          have hE := Lib.hid (erase_yes hiL hj hm)
          have hM : Hid (decide (j ∈ l.take (i + 1)) = true) := decide_eq_true (by rw [hmn]; exact .inr hj)
          rw [decide_eq_true hj] at heq
          rw [d1]
          replace hm := Lib.hid hm
          replace hj := Lib.hid hj
          replace d1 := Lib.hid d1
          clear hmn hJ hJq
          generalize encJ l[i]! = cI at *
          generalize encJ j = cJ at *
          go_wp2_with fail
          go_quiet (fail)
          have hb5 : Below w0.heap.size w0 (wr.drewN nq) := ⟨hbr.os, hbr.tape, hbr.output, hbr.size, hbr.block⟩
          have hown5 : Hid ((wr.drewN nq).ownsRow w0.heap.size 24 10 u6 ((l.take (i + 1)).erase j).length (((l.take (i + 1)).erase j).flatMap encJ)) := by
            show World.ownsRow _ _ _ _ _ _ _
            rw [hE.out]
            exact ownsRow_block hown fun _ _ => rfl
          clear li bx heq hown LI
          generalize wr.drewN nq = w5 at hb5 hown5 ⊢
          go_wp2_with fail
          go_roundw
          case rel => exact ⟨i + 1, by omega, by go_num, by rw [hM.out], hown5.out, hb5⟩
          case measure => simp [intOf]; omega
        · have d1 : decide (j ∈ l.take i) = false := decide_eq_false hm
          have hE := Lib.hid (erase_no hiL (.inr hj))
          have hM : Hid (decide (j ∈ l.take (i + 1)) = false) := decide_eq_false (by rw [hmn]; rintro (h1 | h1); exact hm h1; exact hj h1)
          rw [decide_eq_false hj] at heq
          rw [d1]
          replace hm := Lib.hid hm
          replace hj := Lib.hid hj
          replace d1 := Lib.hid d1
          obtain ⟨X, hX⟩ : ∃ X, X = (l.take i).erase j := ⟨_, rfl⟩
          rw [← hX] at hown hE
          replace hX := Lib.hid hX
          clear hmn hJq
          generalize hcI : encJ l[i]! = cI at *
          generalize hcJ : encJ j = cJ at *
          replace hcI := Lib.hid hcI
          replace hcJ := Lib.hid hcJ
          go_wp2_with fail
          go_quiet (fail)
          have hb5 : Below w0.heap.size w0 (wr.drewN nq) := ⟨hbr.os, hbr.tape, hbr.output, hbr.size, hbr.block⟩
          have hown5 : (wr.drewN nq).ownsRow w0.heap.size 24 10 u6 X.length (X.flatMap encJ) := ownsRow_block hown fun _ _ => rfl
          have hJ5 : JRow (wr.drewN nq) b off l := (hJ.below hbr).below ⟨rfl, rfl, rfl, Nat.le_refl _, fun _ _ => rfl⟩
          clear li bx heq hown LI lI lJ BX
          generalize wr.drewN nq = w5 at hb5 hown5 hJ5 ⊢
          obtain rfl := hk.out
          have hget : l[i]? = some l[i]! := by rw [List.getElem?_eq_getElem hiL, getElem!_pos l i hiL]
          have hcI2 := hcI.out
          clear hcI
          generalize l[i]! = y at *
          obtain ⟨x1, x2, x3, x4, x5, x6, x7, x8, x9, x0⟩ := y
          subst hcI2
          have k0 := hJ5.cell i _ 0 _ hget rfl
          have k1 := hJ5.cell i _ 1 _ hget rfl
          have k2 := hJ5.cell i _ 2 _ hget rfl
          have k3 := hJ5.cell i _ 3 _ hget rfl
          have k4 := hJ5.cell i _ 4 _ hget rfl
          have k5 := hJ5.cell i _ 5 _ hget rfl
          have k6 := hJ5.cell i _ 6 _ hget rfl
          have k7 := hJ5.cell i _ 7 _ hget rfl
          have k8 := hJ5.cell i _ 8 _ hget rfl
          have k9 := hJ5.cell i _ 9 _ hget rfl
          simp only [← Nat.add_assoc, Nat.add_zero] at k0 k1 k2 k3 k4 k5 k6 k7 k8 k9
          replace hget := Lib.hid hget
          have hXl : X.length ≤ 1000 := by rw [hX.out]; exact Nat.le_trans (List.length_erase_le) (by rw [List.length_take]; omega)
          have hsz5 := hb5.size
          (try simp only [encJ])
          clear hJ5
          go_wp2_with (at_builtin; go_must (refine wpList_append_own _ rfl (.tmp 25) (.tmp 30) 28 rfl w0.heap.size 24 i0 (.agg (encJ default).toArray) 10 80 Try.underlying28 hi0 hz0 hz1 hz2 rfl (by decide) u6 X.length (X.flatMap encJ) rfl (hown5.alloc _) ⟨w5.heap.size, 0, none⟩ 1 1 (encJ (x1, x2, x3, x4, x5, x6, x7, x8, x9, x0)) rfl rfl ?c0 ?c1 ?c2 ?c3 ?c4 ?c5))
          case c0 => exact fun _ _ h => h
          case c1 => exact encJ_one _
          case c2 => unfold maxLen; omega
          case c3 => omega
          case c4 => (have hh : ∀ o, (w5.alloc o).heap.size = w5.heap.size + 1 := fun o => by simp); first | omega | (rw [hh]; omega)
          case c5 =>
            intro v6 w7 ho7 hg7 _
            have hb7 : Below w0.heap.size w0 w7 := (hb5.alloc hsz5 _).grown hg7 (by simp; omega) (fun k hk => (hown5.lt k hk).1)
            have ho8 : Hid (w7.ownsRow w0.heap.size 24 10 v6 ((l.take (i + 1)).erase j).length (((l.take (i + 1)).erase j).flatMap encJ)) := by
              show World.ownsRow _ _ _ _ _ _ _
              rw [hE.out, List.length_append, List.flatMap_append]
              simp only [List.length_singleton, List.flatMap_cons, List.flatMap_nil, List.append_nil]
              rw [hsz0]
              exact ho7
            clear k0 k1 k2 k3 k4 k5 k6 k7 k8 k9 ho7 hg7 hown5 hb5
            go_wp2_with fail
            go_roundw
            case rel => exact ⟨i + 1, by omega, by go_num, by rw [hM.out], ho8.out, hb7⟩
            case measure => simp [intOf]; omega
    · obtain rfl : i = n := by omega
      have b2 : ¬ (i : Int) < (i : Int) := by omega
      have e1 : l.take i = l := List.take_of_length_le (by rw [hn.out]; exact Nat.le_refl _)
      rw [e1] at hown ⊢
      have hfin : Hid (WithoutPost w l j (.returned (.tuple #[u6, .bool (decide (j ∈ l))])) wr) := ⟨u6, rfl, ownsRow_mono hown (by omega), hb0.trans (hbr.mono hb0.size)⟩
      clear hown e1
      generalize decide (j ∈ l) = dj at *
      go_wp2_with fail
      go_ret2
      exact hfin.out

end Go.Proofs.Ytenpdglmmbkmkaa
