/-
  Own walk: the library's Delete at jobs.
-/
import Derived.Test.YtenpdglmmbkmkaaQuA
namespace Go.Proofs.Ytenpdglmmbkmkaa
open Go.RowKit Go.Sort Go.Lib Go.Shelf Put

theorem zeroJob (w : World) : (zeroValue 24).run Try.prog w = .ok (.agg (encJ default).toArray) w := by kernel_rfl

/-- Jobs as they lie. -/
def flJ (l : List Jb) : List Value := l.flatMap encJ
theorem flJ_len (l : List Jb) : (flJ l).length = l.length * 10 := flat_len l
theorem flJ_one (l : List Jb) : ∀ u ∈ flJ l, u.oneCell' = true := jb_one l
theorem flJ_append (l r : List Jb) : flJ (l ++ r) = flJ l ++ flJ r := by simp [flJ]
theorem flJ_take (L : List Jb) (c : Nat) : flJ (L.take c) = (flJ L).take (c * 10) := by
  induction L generalizing c with
  | nil => simp [flJ]
  | cons a L ih =>
    rcases c with _ | c
    · simp [flJ]
    · have e : flJ (a :: L) = encJ a ++ flJ L := by simp [flJ]
      have e2 : flJ ((a :: L).take (c + 1)) = encJ a ++ flJ (L.take c) := by simp [flJ]
      have h10 : (encJ a).length = 10 := rfl
      rw [e, e2, ih, show (c + 1) * 10 = (encJ a).length + c * 10 by omega, List.take_length_add_append]
theorem flJ_drop (L : List Jb) (c : Nat) : flJ (L.drop c) = (flJ L).drop (c * 10) := by
  induction L generalizing c with
  | nil => simp [flJ]
  | cons a L ih =>
    rcases c with _ | c
    · simp [flJ]
    · have e : flJ (a :: L) = encJ a ++ flJ L := by simp [flJ]
      have h10 : (encJ a).length = 10 := rfl
      rw [List.drop_succ_cons, e, ih, show (c + 1) * 10 = (encJ a).length + c * 10 by omega, List.drop_length_add_append]

section
variable {w : World} {g cap : Nat} {L : List Jb}

theorem Src_jobs (ho : w.ownsRow 0 24 10 (.slice (some ⟨g, 0, none⟩) L.length cap) L.length (flJ L)) {j : Nat} (hj : j ≤ L.length) (c : Nat) :
    Src Try.prog 10 28 (.slice (if cap = j then some ⟨g, 0, none⟩ else some ⟨g, j * 10, none⟩) (L.length - j) c) (L.length - j) (flJ (L.drop j)) w := by
  obtain ⟨_, _, hnc, _⟩ := own_heap ho
  have hlen : (flJ (L.drop j)).length = (L.length - j) * 10 := by rw [flJ_len, List.length_drop]
  by_cases hc : cap = j
  · rw [if_pos hc]
    refine Src.ofSlice w Try.underlying28 _ _ _ _ hlen (fun q u hq => ?_) (flJ_one _)
    have := (List.getElem?_eq_some_iff.1 hq).1
    omega
  · rw [if_neg hc]
    refine Src.ofSlice w Try.underlying28 _ _ _ _ hlen (fun q u hq => ?_) (flJ_one _)
    rw [flJ_drop, List.getElem?_drop] at hq
    have := ho.cells (g := g) rfl _ _ hq
    rw [Go.WideShapes.add_plain] at this ⊢
    simpa using this

set_option maxRecDepth 100000 in
set_option maxHeartbeats 1000000 in
theorem Delete_any (i j : Nat) (ho : w.ownsRow 0 24 10 (.slice (some ⟨g, 0, none⟩) L.length cap) L.length (flJ L)) (hl : L.length ≤ 1000) (hij : i ≤ j) (hj : j ≤ L.length) :
    Calls Try.prog 23 #[.slice (some ⟨g, 0, none⟩) L.length cap, .int .i64 i, .int .i64 j] w fun e w' => e = .returned (.slice (some ⟨g, 0, none⟩) (L.take i ++ L.drop j).length cap) ∧ w'.ownsRow 0 24 10 (.slice (some ⟨g, 0, none⟩) (L.take i ++ L.drop j).length cap) (L.take i ++ L.drop j).length (flJ (L.take i ++ L.drop j)) ∧ Off g g w w' := by
  have hmix := mixedO
  obtain ⟨i0, hi0, hz0, hz1, hz2⟩ := info_parts infoJob
  obtain ⟨_, _, hnc, hcm, _⟩ := own_heap ho
  have hlen : (L.take i ++ L.drop j).length = i + (L.length - j) := by rw [List.length_append, List.length_take, List.length_drop]; omega
  have hcm' : cap ≤ 9223372036854775807 := by unfold maxLen at hcm; omega
  clear hcm
  by_cases heq : i = j
  · subst heq
    have hn : (L.take i ++ L.drop i) = L := List.take_append_drop i L
    rw [hn]
    have b1 : (i : Int) ≤ (L.length : Int) := by omega
    have b2 : (0 : Int) ≤ (i : Int) := by omega
    clear hn hlen
    by_cases hli : L.length = i
    · subst hli
      go_enter Try.func23, Try.ntmps23
      go_wp2_with fail
      go_ret
      exact ⟨rfl, ho, Off.refl _ _ _⟩
    · go_enter Try.func23, Try.ntmps23
      go_wp2_with fail
      go_ret
      exact ⟨rfl, ho, Off.refl _ _ _⟩
  · have hlt : i < j := by omega
    rw [hlen]
    have hne : ¬ ((i : Int) = (j : Int)) := by omega
    obtain ⟨A, hA⟩ : ∃ A : Addr, (if cap = j then some (⟨g, 0, none⟩ : Addr) else some ⟨g, j * 10, none⟩) = some A := by
      by_cases h : cap = j
      · exact ⟨_, if_pos h⟩
      · exact ⟨_, if_neg h⟩
    have hcj : j ≤ cap := by omega
    have hci : i ≤ cap := by omega
    have hbi : (i : Int) ≤ (j : Int) := by omega
    have hbj : (j : Int) ≤ (L.length : Int) := by omega
    have hbc : (L.length : Int) ≤ (cap : Int) := by omega
    replace hlen := Lib.hid hlen
    go_enter Try.func23, Try.ntmps23
    go_wp2_with fail
    refine Reg.region_mk 6 33 [[], [false], [true, true], [false, false, false], [false, false, false, false], [false, false, false, true, true]] [0, 0, 0, 0, 0, 0]
      [.pure, .pure, .pure, .pure, .pure, .pure]
      (fun W => Below w.heap.size w W) (fun _ _ => True) (fun _ _ => False) (by kernel_rfl) (by kernel_rfl) rfl rfl (fun _ _ _ _ h => h) ?_ ?_ ?_ ?_ ?_ ?_
    · intro w1 w2 he hb; exact hb.trans (he.mono hb.size)
    · intro _ _ h; exact h.elim
    · refine ⟨trivial, trivial, trivial, trivial, trivial, trivial, trivial⟩
    · exact (Below.refl _ _).drew
    · exact trivial
    dsimp only [Reg.mk, List.zip, List.zipWith, List.take]
    repeat (refine' Reg.pass_is _ (by rfl) (fun wz => ?_) ?_; rotate_left; (go_simp; first | rfl | rw [if_neg (by omega)]); simp only [Act.put, List.setIfInBounds_toArray, List.set_cons_zero, List.set_cons_succ]; (try simp only [List.nil_append]); (try simp only [List.cons_append]))
    refine Reg.pass_end ?_
    intro w3 HI3 _ HF3
    clear HF3
    have ho3 := own_kept ho HI3
    have hsrc := Src_jobs ho3 hj (cap - j)
    rw [hA] at hsrc
    obtain ⟨w4, hrun, ho4, hoff⟩ := append_put 28 28 i0 Try.underlying28 hi0 hz1 ho3 i (L.length - j) _ (by omega) _ hsrc
    have hcl : i + (L.length - j) < L.length := by omega
    obtain ⟨w5, hcl5, hrow5, hb5⟩ := clear_put (P := Try.prog) (sz := 10) (c := i + (L.length - j)) Try.underlying28 zeroJob rfl (fun v hv => encJ_one default v hv) ho4 hcl (by decide)
    have hfin : w5.ownsRow 0 24 10 (.slice (some ⟨g, 0, none⟩) (i + (L.length - j)) cap) (i + (L.length - j)) (flJ (L.take i ++ L.drop j)) := by
      have e1 : ((flJ L).take (i * 10) ++ flJ (L.drop j) ++ (flJ L).drop (i * 10 + (flJ (L.drop j)).length)).take ((i + (L.length - j)) * 10) = flJ (L.take i ++ L.drop j) := by
        have hA1 : ((flJ L).take (i * 10) ++ flJ (L.drop j)).length = (i + (L.length - j)) * 10 := by
          rw [List.length_append, List.length_take, flJ_len, flJ_len, List.length_drop]; omega
        rw [← hA1, List.take_left, flJ_append, flJ_take]
      rw [e1] at hrow5
      exact hrow5
    have hoff5 : Off g g w w5 := by
      exact ((Off.of_below HI3).trans hoff (.inl rfl)).trans hb5 (.inl rfl)
    have b1 : ¬ (cap = i + (L.length - j)) := by omega
    have b2 : (i : Int) + ((L.length - j : Nat) : Int) ≤ (L.length : Int) := by omega
    have b3 : i + (L.length - j) ≤ L.length := by omega
    clear hb5 hrow5 ho4 hoff hsrc ho3 ho
    dsimp only [List.drop]
    go_wp2_with (at_builtin; refine Lib.wpList_append_run _ rfl _ _ _ _ rfl _ _ rfl rfl _ _ (hrun _) ?_)
    go_ret
    exact ⟨by go_num, hfin, hoff5⟩
end

end Go.Proofs.Ytenpdglmmbkmkaa
