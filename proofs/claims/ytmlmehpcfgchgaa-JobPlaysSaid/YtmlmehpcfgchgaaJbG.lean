/-
  Own walks: what the program reads and makes besides: New, All, Copy, In, Waiting.
-/
import Derived.Test.YtmlmehpcfgchgaaJbF
import Derived.Test.YtmlmehpcfgchgaaOsA
namespace Go.Proofs.Ytmlmehpcfgchgaa
open Go.RowKit Go.Sort Go.Lib Go.Shelf Put

section
variable {w w' : World} {p : Nat} {v : Value} {L : List Jb}

theorem BV.newT (w : World) : TV (w.alloc (.cells #[.bool true, .slice none 0 0] 61)) w.heap.size (.slice none 0 0) [] :=
  ⟨heap_alloc_new w _, by simpa using World.ownsRow_nil _ 0 52 10⟩
theorem New_fn (w : World) : Calls Try.prog 11 #[] w fun e w' => e = .returned (.pointer (some ⟨w.heap.size, 0, none⟩)) ∧ w.alloc (.cells #[.bool true, .slice none 0 0] 61) = w' := by
  go_enter Try.func11, Try.ntmps11
  go_wp2_with fail
  go_ret
  exact ⟨rfl, rfl⟩

theorem All_fn (h : TV w p v L) (hL : L.length ≤ 1000) : Calls Try.prog 17 #[.pointer (some ⟨p, 0, none⟩)] w (ClonePost w L) := by
  have c1 := h.c1
  have hno := none_fn h
  have hc := Clone_fn h.rowAt hL
  unfold ClonePost at *
  obtain ⟨ao, cap, rfl, _⟩ := own_shape h.own
  clear h
  go_enter Try.func17, Try.ntmps17
  go_wp2_with (go_at_call 30; go_must (refine hno.mono ?_); rintro e w' ⟨rfl, rfl⟩)
  go_at_call 34
  refine hc.mono ?_
  clear hc
  rintro e w2 ⟨v2, rfl, ho, hb⟩
  have hfin : Hid (∃ v', Ending.returned v2 = .returned v' ∧ w2.ownsRow w.heap.size 52 10 v' L.length (L.flatMap encJ) ∧ Below w.heap.size w w2) := ⟨v2, rfl, ho, hb⟩
  clear ho hb
  go_wp2_with fail
  go_ret
  exact hfin.out

/-- What Copy makes: a table of its own. -/
def CopyPost (w : World) (L : List Jb) (e : Ending) (w' : World) : Prop :=
  ∃ q u, e = .returned (.pointer (some ⟨q, 0, none⟩)) ∧ TV w' q u L ∧ w.heap.size ≤ q ∧ (∀ k, u.ownBlock = some k → w.heap.size ≤ k) ∧ Below w.heap.size w w'
theorem own_lo {w : World} {base : Nat} {e : TypeId} {sz n : Nat} {v : Value} {xs : List Value} (h : w.ownsRow base e sz v n xs) : ∀ k, v.ownBlock = some k → base ≤ k := fun k hk => (h.lt k hk).1

theorem Copy_fn (h : TV w p v L) (hL : L.length ≤ 1000) : Calls Try.prog 26 #[.pointer (some ⟨p, 0, none⟩)] w (CopyPost w L) := by
  have hno := none_fn h
  have hc := All_fn h hL
  unfold ClonePost at hc
  clear h
  go_enter Try.func26, Try.ntmps26
  go_wp2_with (go_at_call 30; go_must (refine hno.mono ?_); rintro e w' ⟨rfl, rfl⟩)
  go_at_call 17
  refine hc.mono ?_
  clear hc
  rintro e w2 ⟨v2, rfl, ho, hb⟩
  have hfin : Hid (CopyPost w L (.returned (.pointer (some ⟨w2.heap.size, 0, none⟩))) (w2.alloc (.cells #[.bool true, v2] 61))) :=
    ⟨w2.heap.size, v2, rfl, ⟨heap_alloc_new w2 _, ownsRow_mono (ho.alloc _) (Nat.zero_le _)⟩, hb.size, own_lo ho, hb.alloc hb.size _⟩
  obtain ⟨ao, cap, rfl, _⟩ := own_shape ho
  clear ho hb
  go_wp2_with fail
  go_ret
  exact hfin.out

def InPost (w : World) (l : List Jb) (e : Ending) (w' : World) : Prop :=
  ∃ v', e = .returned v' ∧ w'.ownsRow w.heap.size 52 10 v' l.length (l.flatMap encJ) ∧ Below w.heap.size w w'

set_option maxRecDepth 100000 in
set_option maxHeartbeats 4000000 in
theorem In_fn (h : TV w p v L) (hL : L.length ≤ 1000) {sv : Value} {ps : List Int} (hr : RowAt enc1 1 w sv ps) : Calls Try.prog 22 #[.pointer (some ⟨p, 0, none⟩), sv] w (InPost w (L.filter fun j => decide (j.state ∈ ps))) := by
  have c1 := h.c1
  have hno := none_fn h
  have zE := zE_job
  obtain ⟨i0, hi0, hz0, hz1, hz2⟩ := info_parts infoJob
  obtain ⟨k, hk⟩ : ∃ k, k = 10 := ⟨_, rfl⟩
  rw [← hk] at zE
  replace hk := Lib.hid hk
  obtain ⟨n, hn⟩ : ∃ n, L.length = n := ⟨_, rfl⟩
  have HQ : Hid (0 < n → ∃ g cap, v = .slice (some ⟨g, 0, none⟩) n cap ∧ JRow w g 0 L) := fun hp => by
    obtain ⟨g, cap, e⟩ := h.shape (by omega)
    subst e
    exact ⟨g, cap, by rw [hn], h.row⟩
  have hle := own_len h.own
  obtain ⟨ao, cap, rfl, _⟩ := own_shape h.own
  rw [hn] at hL hle c1
  replace hn := Lib.hid hn
  clear h
  replace hr := Lib.hid hr
  go_enter Try.func22, Try.ntmps22
  go_wp2_with (go_at_call 30; go_must (refine hno.mono ?_); rintro e w' ⟨rfl, rfl⟩)
  clear hno
  go_loopw [5, 15] (fun oo ii wr => ∃ (i : Nat), i ≤ n ∧ ii = .int .i64 i ∧ wr.ownsRow w.heap.size 52 10 oo ((L.take i).filter fun j => decide (j.state ∈ ps)).length (((L.take i).filter fun j => decide (j.state ∈ ps)).flatMap encJ) ∧ Below w.heap.size w wr) (fun _ ii _ => n - (intOf ii).toNat)
  case atStart => exact ⟨0, Nat.zero_le _, rfl, by simpa using World.ownsRow_nil w w.heap.size 52 10, Below.refl _ _⟩
  case round =>
    obtain ⟨i, hin, rfl, hown, hbr⟩ := hrel
    by_cases hlt : i < n
    · have b2 : (i : Int) < (n : Int) := by omega
      have wi : IntKind.i64.wrap ((i : Int) + 1) = (i : Int) + 1 := by rw [IntKind.wrap_i64]; omega
      obtain ⟨g, cap2, e2, hJ⟩ := HQ.out (by omega)
      cases e2
      have hiL : i < L.length := by have := hn.out; omega
      have hJq := hJ.below hbr
      have LI := hJq.load hk.out hiL
      simp only [Nat.zero_add] at LI
      have lI := encJ_len L[i]!
      have st : Sem.run Try.prog (storeCells ⟨wr.heap.size, 0, none⟩ (encJ L[i]!) 0) (wr.alloc (.cells #[.int .i64 0, .int .i64 0, .int .i64 0, .int .i64 0, .int .i64 0, .int .i64 0, .int .i64 0, .int .i64 0, .int .i64 0, .int .u64 0] 52)) = .ok () (wr.alloc (.cells (encJ L[i]!).toArray 52)) := store_new wr wr.heap.size (encJ L[i]!) (encJ default) 52 rfl (by rw [encJ_len, encJ_len]) (encJ_one _)
      rw [← hk.out] at lI
      have hb1 : Below w.heap.size w (wr.alloc (.cells (encJ L[i]!).toArray 52)) := hbr.alloc hbr.size _
      have hszb := hb1.size
      have jc := Lib.hid (job_cells (heap_alloc_new wr (.cells (encJ L[i]!).toArray 52)))
      have k5 := jc.out 5 _ rfl
      have hown1 := hown.alloc (.cells (encJ L[i]!).toArray 52)
      have hct := Contains_fn (L[i]!).state (hr.out.below hb1)
      obtain ⟨X, hX⟩ : ∃ X, X = (L.take i).filter fun j => decide (j.state ∈ ps) := ⟨_, rfl⟩
      have hXl : X.length ≤ 1000 := by rw [hX]; exact Nat.le_trans (List.length_filter_le _ _) (by rw [List.length_take]; omega)
      rw [← hX] at hown hown1
      have HE : Hid ((L.take (i + 1)).filter (fun j => decide (j.state ∈ ps)) = if decide ((L[i]!).state ∈ ps) = true then X ++ [L[i]!] else X) := by
        show _ = _
        rw [hX]
        split
        · exact filt_yes hiL ‹_›
        · rename_i hq
          exact filt_no hiL (Bool.eq_false_iff.2 hq)
      replace hX := Lib.hid hX
      replace hk := hk.out
      have hsz : w.heap.size ≤ wr.heap.size := hbr.size
      clear hJ hJq hbr hown
      generalize hy : L[i]! = y at *
      replace hy := Lib.hid hy
      have es : y.2.2.2.2.2.1 = y.state := rfl
      rw [es] at k5
      clear es
      generalize y.state = s at *
      rcases Bool.eq_false_or_eq_true (decide (s ∈ ps)) with hd | hd
      · rw [hd] at hct
        have HE2 := HE.out
        rw [if_pos hd] at HE2
        replace HE2 := Lib.hid HE2
        replace hd := Lib.hid hd
        clear HE
        generalize hcI : encJ y = cI at *
        replace hcI := Lib.hid hcI
        generalize hw1 : wr.alloc (.cells cI.toArray 52) = w1 at *
        replace hw1 := Lib.hid hw1
        replace hk := Lib.hid hk
        go_wp2_with fail
        go_at_call 35
        refine hct.mono ?_
        clear hct
        rintro e w5 ⟨rfl, rfl⟩
        clear st LI lI
        obtain rfl := hk.out
        have hcI2 := hcI.out
        clear hcI
        obtain ⟨x1, x2, x3, x4, x5, x6, x7, x8, x9, x0⟩ := y
        subst hcI2
        have k0 := jc.out 0 _ rfl
        have k1 := jc.out 1 _ rfl
        have k2 := jc.out 2 _ rfl
        have k3 := jc.out 3 _ rfl
        have k4 := jc.out 4 _ rfl
        have k6 := jc.out 6 _ rfl
        have k7 := jc.out 7 _ rfl
        have k8 := jc.out 8 _ rfl
        have k9 := jc.out 9 _ rfl
        have k5' := jc.out 5 _ rfl
        clear k5
        (try simp only [encJ])
        go_wp2_with (at_builtin; go_must (refine wpList_append_own _ rfl (.tmp 23) (.tmp 25) 33 rfl w.heap.size 52 i0 (.agg (encJ default).toArray) 10 80 Try.underlying33 hi0 hz0 hz1 hz2 rfl (by decide) u5 X.length (X.flatMap encJ) rfl (hown1.alloc _) ⟨w1.heap.size, 0, none⟩ 1 1 (encJ (x1, x2, x3, x4, x5, x6, x7, x8, x9, x0)) rfl rfl ?c0 ?c1 ?c2 ?c3 ?c4 ?c5))
        case c0 => exact fun _ _ h => h
        case c1 => exact encJ_one _
        case c2 => unfold maxLen; omega
        case c3 => omega
        case c4 => (have hh : ∀ o, (w1.alloc o).heap.size = w1.heap.size + 1 := fun o => by simp); first | omega | (rw [hh]; omega)
        case c5 =>
          intro v6 w7 ho7 hg7 _
          have hb7 : Below w.heap.size w w7 := (hb1.alloc hb1.size _).grown hg7 (by simp; omega) (fun k hk => (hown1.lt k hk).1)
          have ho8 : Hid (w7.ownsRow w.heap.size 52 10 v6 ((L.take (i + 1)).filter fun j => decide (j.state ∈ ps)).length (((L.take (i + 1)).filter fun j => decide (j.state ∈ ps)).flatMap encJ)) := by
            show World.ownsRow _ _ _ _ _ _ _
            rw [HE2.out, List.length_append, List.flatMap_append]
            simp only [List.length_singleton, List.flatMap_cons, List.flatMap_nil, List.append_nil]
            exact ho7
          clear k0 k1 k2 k3 k4 k5' k6 k7 k8 k9 ho7 hg7 hown1 hb1
          go_wp2_with fail
          go_roundw
          case rel => exact ⟨i + 1, by omega, by go_num, ho8.out, hb7⟩
          case measure => simp [intOf]; omega
      · rw [hd] at hct
        have HE2 := HE.out
        rw [if_neg (by rw [hd]; decide)] at HE2
        have ho8 : Hid ((wr.alloc (.cells (encJ y).toArray 52)).ownsRow w.heap.size 52 10 u5 ((L.take (i + 1)).filter fun j => decide (j.state ∈ ps)).length (((L.take (i + 1)).filter fun j => decide (j.state ∈ ps)).flatMap encJ)) := by
          show World.ownsRow _ _ _ _ _ _ _
          rw [HE2]
          exact hown1
        replace hd := Lib.hid hd
        clear HE HE2 hown1 jc
        generalize encJ y = cI at *
        generalize hw1 : wr.alloc (.cells cI.toArray 52) = w1 at *
        replace hw1 := Lib.hid hw1
        replace hk := Lib.hid hk
        go_wp2_with (go_at_call 35; go_must (refine hct.mono ?_); rintro e w5 ⟨rfl, rfl⟩)
        go_roundw
        case rel => exact ⟨i + 1, by omega, by go_num, ho8.out, hb1⟩
        case measure => simp [intOf]; omega
    · obtain rfl : i = n := by omega
      have b2 : ¬ (i : Int) < (i : Int) := by omega
      have e1 : L.take i = L := List.take_of_length_le (by rw [hn.out]; exact Nat.le_refl _)
      rw [e1] at hown
      have hfin : Hid (InPost w (L.filter fun j => decide (j.state ∈ ps)) (.returned u5) wr) := ⟨u5, rfl, hown, hbr⟩
      clear hown e1
      go_wp2_with fail
      go_ret
      exact hfin.out

theorem Waiting_fn (h : TV w p v L) (hL : L.length ≤ 1000) : Calls Try.prog 24 #[.pointer (some ⟨p, 0, none⟩)] w fun e w' => ∃ (v' : Value) (r : List Jb), e = .returned v' ∧ RowAt encJ 10 w' v' r ∧ r.Perm (L.filter fun j => decide (j.state = 1)) ∧ r.Pairwise (fun x y => aheadJ y x = false) ∧ Below w.heap.size w w' := by
  have hb1 := (Below.refl w.heap.size w).alloc (Nat.le_refl _) (.cells #[.int .i64 1] 3)
  have hr : RowAt enc1 1 (w.alloc (.cells #[.int .i64 1] 3)) (.slice (some ⟨w.heap.size, 0, none⟩) 1 1) [1] := ints_new w w.heap.size [1] rfl (by decide)
  have hI := In_fn (h.kept hb1) hL hr
  have ef : (L.filter fun j => decide (j.state ∈ ([1] : List Int))) = L.filter fun j => decide (j.state = 1) := by
    congr 1
    funext j
    simp
  rw [ef] at hI
  have hF : (L.filter fun j => decide (j.state = 1)).length ≤ 1000 := Nat.le_trans (List.length_filter_le _ _) hL
  clear ef h hr
  generalize (L.filter fun j => decide (j.state = 1)) = F at *
  replace hb1 := Lib.hid hb1
  go_enter Try.func24, Try.ntmps24
  go_wp2_with fail
  go_at_call 22
  refine hI.mono ?_
  clear hI
  rintro e w2 ⟨v2, rfl, ho, hb⟩
  have hs := Sort_big v2 F w2 (RowAt.of_own ho encJ_len rfl rfl) hF
  have hb2 := hb1.out.trans (hb.mono hb1.out.size)
  replace hb2 := Lib.hid hb2
  clear ho hb hb1
  go_wp2_with fail
  go_at_call 36
  refine hs.mono ?_
  clear hs
  rintro e w3 ⟨v3, r, rfl, h1, _, h2, h3, h4⟩
  have hfin : Hid (∃ (v' : Value) (r : List Jb), Ending.returned v3 = .returned v' ∧ RowAt encJ 10 w3 v' r ∧ r.Perm F ∧ r.Pairwise (fun x y => aheadJ y x = false) ∧ Below w.heap.size w w3) := ⟨v3, r, rfl, h1, h2, h3, hb2.out.trans (h4.mono hb2.out.size)⟩
  clear h1 h2 h3 h4 hb2
  go_wp2_with fail
  go_ret
  exact hfin.out

end
end Go.Proofs.Ytmlmehpcfgchgaa
