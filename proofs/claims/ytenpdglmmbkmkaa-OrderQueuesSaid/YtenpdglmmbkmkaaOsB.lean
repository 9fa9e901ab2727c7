/-
  Contract of the program's Behind.
-/
import Derived.Test.YtenpdglmmbkmkaaOsA
namespace Go.Proofs.Ytenpdglmmbkmkaa
open Go.RowKit Go.Lib Go.Sort

theorem setRow_new (W : World) (a b : Array Value) (T : TypeId) : (W.alloc (.cells a T)).setRow W.heap.size b = W.alloc (.cells b T) := by
  have h1 : ∀ o, W.alloc o = { W with heap := W.heap.push o } := fun o => rfl
  rw [h1, h1]
  unfold World.setRow
  have h2 : ∀ f : Obj → Obj, (W.heap.push (.cells a T)).modify W.heap.size f = W.heap.push (f (.cells a T)) := fun f => by
    refine Array.ext (by simp) fun i h1 h2 => ?_
    rw [Array.getElem_modify]
    by_cases e : W.heap.size = i
    · subst e; simp
    · have : i < W.heap.size := by simp at h2; omega
      simp [e, Array.getElem_push, this]
  simp only [h2]

/-- What lies in a block that holds a job. -/
theorem job_cells {W : World} {p : Nat} {x : Jb} (h : W.heap[p]? = some (.cells (encJ x).toArray 24 (0, 0))) : ∀ j u, (encJ x)[j]? = some u → W.cell? ⟨p, j, none⟩ = some u := by
  intro j u hj
  simp [World.cell?, h, hj]

/-- A run of stores that fills a block that has just been made. -/
theorem store_new (W : World) (n : Nat) (cs zs : List Value) (T : TypeId) (hn : n = W.heap.size) (hl : cs.length = zs.length) (h1 : ∀ v ∈ cs, v.oneCell' = true) :
    Sem.run Try.prog (storeCells ⟨n, 0, none⟩ cs 0) (W.alloc (.cells zs.toArray T)) = .ok () (W.alloc (.cells cs.toArray T)) := by
  subst hn
  have hst := run_storeCells_at Try.prog W.heap.size 0 T cs 0 zs.toArray (W.alloc (.cells zs.toArray T)) (heap_alloc_new W _) (by simp [hl]) h1
  simp only [Nat.add_zero] at hst
  rw [hst]
  congr 1
  have e : ((zs.toArray.toList.take 0 ++ cs ++ zs.toArray.toList.drop (0 + cs.length)).toArray) = cs.toArray := by simp [hl]
  rw [e]
  exact setRow_new W _ _ T

set_option maxRecDepth 100000 in
set_option maxHeartbeats 4000000 in
theorem Behind_fn (j : Jb) (v : Value) (l : List Jb) (w : World) (hr : RowAt encJ 10 w v l) (hl : l.length ≤ 60) : Calls Try.prog 13 #[.agg (encJ j).toArray, v] w fun e w' => ∃ v', e = .returned v' ∧ RowAt encJ 10 w' v' (l.filter (aheadJ j)) ∧ Below w.heap.size w w' := by
  have zE := zE_job
  obtain ⟨i0, hi0, hz0, hz1, hz2⟩ := info_parts infoJob
  obtain ⟨w0, hw0⟩ : ∃ w0, w0 = w.alloc (.cells (encJ j).toArray 24) := ⟨_, rfl⟩
  have hb0 : Below w.heap.size w w0 := by rw [hw0]; exact (Below.refl _ _).alloc (Nat.le_refl _) _
  have hsz0 : w0.heap.size = w.heap.size + 1 := by rw [hw0]; simp
  have hA0 : w0.heap[w.heap.size]? = some (.cells (encJ j).toArray 24 (0, 0)) := by rw [hw0]; exact heap_alloc_new w _
  have hr0 : RowAt encJ 10 w0 v l := hr.below hb0
  have lJ := encJ_len j
  obtain ⟨k, hk⟩ : ∃ k, k = 10 := ⟨_, rfl⟩
  rw [← hk] at zE lJ
  have BX : Hid (∀ W, Below w0.heap.size w0 W → Sem.run Try.prog (loadCellsFrom ⟨w.heap.size, 0, none⟩ 0 k #[]) W = .ok (encJ j).toArray W) := fun W hW => load_box ((hW.block _ (by omega)).trans hA0) lJ
  replace hk := Lib.hid hk
  obtain ⟨ao, cap, rfl, q1, q2, q3⟩ := hr0
  obtain ⟨n, hn⟩ : ∃ n, l.length = n := ⟨_, rfl⟩
  rw [hn] at q1 q3 hl ⊢
  have HQ : Hid (0 < n → ∃ b off, ao = some ⟨b, off, none⟩ ∧ JRow w0 b off l) := fun hp => by
    obtain ⟨b, off, e1, e2, e3⟩ := q3 hp
    exact ⟨b, off, e1, e2, e3⟩
  have hcM : cap ≤ 9223372036854775807 := by unfold maxLen at q2; omega
  replace hn := Lib.hid hn
  clear q2 q3 hr
  go_enter Try.func13, Try.ntmps13
  go_wp2_with fail
  rw [← hw0]
  replace hw0 := Lib.hid hw0
  go_loopw [5, 10] (fun oo ii wr => ∃ (i : Nat), i ≤ n ∧ ii = .int .i64 i ∧ wr.ownsRow w0.heap.size 24 10 oo ((l.take i).filter (aheadJ j)).length (((l.take i).filter (aheadJ j)).flatMap encJ) ∧ Below w0.heap.size w0 wr) (fun _ ii _ => n - (intOf ii).toNat)
  case atStart => exact ⟨0, Nat.zero_le _, rfl, by simpa using World.ownsRow_nil w0 w0.heap.size 24 10, Below.refl _ _⟩
  case round =>
    obtain ⟨i, hin, rfl, hown, hbr⟩ := hrel
    by_cases hlt : i < n
    · have b2 : (i : Int) < (n : Int) := by omega
      have wi : IntKind.i64.wrap ((i : Int) + 1) = (i : Int) + 1 := by rw [IntKind.wrap_i64]; omega
      obtain ⟨b, off, rfl, hJ⟩ := HQ.out (by omega)
      have hJq := hJ.below hbr
      have hiL : i < l.length := by have := hn.out; omega
      have LI := hJq.load hk.out hiL
      have lI := encJ_len l[i]!
      have st : Sem.run Try.prog (storeCells ⟨wr.heap.size, 0, none⟩ (encJ l[i]!) 0) (wr.alloc (.cells #[.int .i64 0, .int .i64 0, .int .i64 0, .int .i64 0, .int .i64 0, .int .i64 0, .int .i64 0, .int .i64 0, .int .i64 0, .int .u64 0] 24)) = .ok () (wr.alloc (.cells (encJ l[i]!).toArray 24)) := store_new wr wr.heap.size (encJ l[i]!) (encJ default) 24 rfl (by rw [encJ_len, encJ_len]) (encJ_one _)
      rw [← hk.out] at lI
      have hb1 : Below w0.heap.size w0 (wr.alloc (.cells (encJ l[i]!).toArray 24)) := hbr.alloc hbr.size _
      have hsz1 : (wr.alloc (.cells (encJ l[i]!).toArray 24)).heap.size = wr.heap.size + 1 := by simp
      have hnew := heap_alloc_new wr (.cells (encJ l[i]!).toArray 24)
      have hown1 := hown.alloc (.cells (encJ l[i]!).toArray 24)
      have bx := BX.out _ hb1
      have bi := load_box hnew lI
      have hless := Less_fn j l[i]! (wr.alloc (.cells (encJ l[i]!).toArray 24))
      generalize hcI : encJ l[i]! = cI at *
      replace hcI := Lib.hid hcI
      generalize hw1 : wr.alloc (.cells cI.toArray 24) = w1 at *
      replace hw1 := Lib.hid hw1
      go_wp2_with fail
      go_at_call 9
      refine hless.mono ?_
      clear hless bx bi st LI
      rintro e w2 ⟨rfl, h2⟩
      have g2 := h2.below
      have hb2 : Below w0.heap.size w0 w2 := hb1.trans (g2.mono hb1.size)
      have hnew2 : w2.heap[wr.heap.size]? = some (.cells cI.toArray 24 (0, 0)) := (g2.block _ (by omega)).trans hnew
      have hown2 : w2.ownsRow w0.heap.size 24 10 u5 ((l.take i).filter (aheadJ j)).length (((l.take i).filter (aheadJ j)).flatMap encJ) := ownsRow_block hown1 fun q hq => g2.block q (hown1.lt q hq).2
      clear hown1 hnew hJq hb1
      cases hA : aheadJ j l[i]! with
      | false =>
        have hF := Lib.hid (filt_no (p := aheadJ j) hiL hA)
        have hown3 : Hid (w2.ownsRow w0.heap.size 24 10 u5 ((l.take (i + 1)).filter (aheadJ j)).length (((l.take (i + 1)).filter (aheadJ j)).flatMap encJ)) := by
          show World.ownsRow _ _ _ _ _ _ _
          rw [hF.out]; exact hown2
        clear hown2 hown hnew2
        go_wp2_with fail
        go_roundw
        case rel => exact ⟨i + 1, by omega, by go_num, hown3.out, hb2⟩
        case measure => simp [intOf]; omega
      | true =>
        have hF := Lib.hid (filt_yes (p := aheadJ j) hiL hA)
        obtain ⟨X, hX⟩ : ∃ X, X = (l.take i).filter (aheadJ j) := ⟨_, rfl⟩
        rw [← hX] at hown2 hF
        have hXl : X.length ≤ 1000 := by rw [hX]; exact Nat.le_trans (List.length_filter_le _ _) (by rw [List.length_take]; omega)
        replace hX := Lib.hid hX
        clear hown
        obtain rfl := hk.out
        have hcI2 := hcI.out
        clear hcI
        generalize l[i]! = y at *
        obtain ⟨x1, x2, x3, x4, x5, x6, x7, x8, x9, x0⟩ := y
        subst hcI2
        have kk := job_cells hnew2
        have k0 := kk 0 _ rfl
        have k1 := kk 1 _ rfl
        have k2 := kk 2 _ rfl
        have k3 := kk 3 _ rfl
        have k4 := kk 4 _ rfl
        have k5 := kk 5 _ rfl
        have k6 := kk 6 _ rfl
        have k7 := kk 7 _ rfl
        have k8 := kk 8 _ rfl
        have k9 := kk 9 _ rfl
        clear kk hnew2
        have hsz2 := g2.size
        have hsz3 := hb2.size
        go_wp2_with (at_builtin; go_must (refine wpList_append_own _ rfl (.tmp 17) (.tmp 19) 28 rfl w0.heap.size 24 i0 (.agg (encJ default).toArray) 10 80 Try.underlying28 hi0 hz0 hz1 hz2 rfl (by decide) u5 X.length (X.flatMap encJ) rfl (hown2.alloc _) ⟨w2.heap.size, 0, none⟩ 1 1 (encJ (x1, x2, x3, x4, x5, x6, x7, x8, x9, x0)) rfl rfl ?c0 ?c1 ?c2 ?c3 ?c4 ?c5))
        case c0 => exact cells_new (vs := encJ (x1, x2, x3, x4, x5, x6, x7, x8, x9, x0)) rfl
        case c1 => exact encJ_one _
        case c2 => unfold maxLen; omega
        case c3 => omega
        case c4 => (have hh : ∀ o, (w2.alloc o).heap.size = w2.heap.size + 1 := fun o => by simp); first | omega | (rw [hh]; omega)
        case c5 =>
          intro v6 w7 ho7 hg7 _
          have hb7 : Below w0.heap.size w0 w7 := (hb2.alloc hsz3 _).grown hg7 (by simp; omega) (fun k hk => (hown2.lt k hk).1)
          have ho8 : Hid (w7.ownsRow w0.heap.size 24 10 v6 ((l.take (i + 1)).filter (aheadJ j)).length (((l.take (i + 1)).filter (aheadJ j)).flatMap encJ)) := by
            show World.ownsRow _ _ _ _ _ _ _
            rw [hF.out, List.length_append, List.flatMap_append]
            simp only [List.length_singleton, List.flatMap_cons, List.flatMap_nil, List.append_nil]
            rw [hsz0]
            exact ho7
          clear k0 k1 k2 k3 k4 k5 k6 k7 k8 k9 ho7 hg7 hown2 hb2
          go_wp2_with fail
          go_roundw
          case rel => exact ⟨i + 1, by omega, by go_num, ho8.out, hb7⟩
          case measure => simp [intOf]; omega
    · obtain rfl : i = n := by omega
      have b2 : ¬ (i : Int) < (i : Int) := by omega
      have e1 : l.take i = l := List.take_of_length_le (by rw [hn.out]; exact Nat.le_refl _)
      rw [e1] at hown
      have hfin : Hid (∃ v', Ending.returned u5 = .returned v' ∧ RowAt encJ 10 wr v' (l.filter (aheadJ j)) ∧ Below w.heap.size w wr) := ⟨u5, rfl, RowAt.of_own hown encJ_len rfl rfl, hb0.trans (hbr.mono hb0.size)⟩
      clear hown e1
      go_wp2_with fail
      go_ret
      exact hfin.out

theorem sortSpec : SortSpec := ⟨Sort_fn, Behind_fn⟩

end Go.Proofs.Ytenpdglmmbkmkaa
