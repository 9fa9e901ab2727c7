/-
  Own walk: the statement on unlike requests, over what is asked of the program.
-/
import Derived.Test.YtojipdcckanbfaaRqD
import Derived.Test.YtojipdcckanbfaaRuF
namespace Go.Proofs.Ytojipdcckanbfaa
open Go.RowKit

theorem right_or (r : Rq) : rightQ (cleanR r) = true ∨ rightQ (cleanR r) = false := by cases rightQ (cleanR r) <;> simp

set_option maxRecDepth 1000000 in
set_option maxHeartbeats 8000000 in
theorem reqApart_walk (S : RqSpec) (a b : Rq) (w : World) (ha : FitsR a) (hb : FitsR b) : Calls Try.prog 5 #[.agg (encR a).toArray, .agg (encR b).toArray] w fun e w' => e = .returned (.bool true) ∧ Below w.heap.size w w' := by
  have zR := zE_req
  have lA := encR_len a
  have lB := encR_len b
  obtain ⟨k9, hk9⟩ : ∃ k, k = 9 := ⟨_, rfl⟩
  rw [← hk9] at zR lA lB
  replace hk9 := Lib.hid hk9
  obtain ⟨wA, hwA⟩ : ∃ wA, wA = (w.alloc (.cells (encR a).toArray 23)).alloc (.cells (encR b).toArray 23) := ⟨_, rfl⟩
  have hb0 : Below w.heap.size w wA := by rw [hwA]; exact ((Below.refl _ _).alloc (Nat.le_refl _) _).alloc (by simp) _
  have hR0 : wA.heap[w.heap.size]? = some (.cells (encR a).toArray 23 (0, 0)) := by rw [hwA]; exact heap_past (heap_alloc_new w _)
  have hS0 : wA.heap[w.heap.size + 1]? = some (.cells (encR b).toArray 23 (0, 0)) := by rw [hwA]; exact heap_alloc2_new w _ _
  have ld0 := req_load (k := k9) hR0 lA
  have hsA : wA.heap.size = w.heap.size + 2 := by rw [hwA]; simp
  have h1 := fun W => Clean_fn a W
  have h2 := fun W => Clean_fn b W
  have h3 := fun W => Same_fn a b W
  have h4 := fun W => awakeQ_any S W
  have fa := fits_clean ha
  have fb := fits_clean hb
  have key : ∀ p q : Int, ((p = 0 ∧ rightQ (cleanR a) = true) ∨ (p = 1 ∧ rightQ (cleanR a) = false)) → ((q = 0 ∧ rightQ (cleanR b) = true) ∨ (q = 1 ∧ rightQ (cleanR b) = false)) →
      (∀ W, Calls Try.prog 6 #[.agg (encR (cleanR a)).toArray] W fun e w' => ∃ v, e = .returned (.tuple #[v, .int .i64 p]) ∧ (p = 0 → RowAt encB 1 w' v (encQ (cleanR a))) ∧ Below W.heap.size W w') →
      (∀ W, Calls Try.prog 6 #[.agg (encR (cleanR b)).toArray] W fun e w' => ∃ v, e = .returned (.tuple #[v, .int .i64 q]) ∧ (q = 0 → RowAt encB 1 w' v (encQ (cleanR b))) ∧ Below W.heap.size W w') →
      Calls Try.prog 5 #[.agg (encR a).toArray, .agg (encR b).toArray] w fun e w' => e = .returned (.bool true) ∧ Below w.heap.size w w' := by
    intro p q hp hq h5 h6
    have hEq : p = 0 → q = 0 → ((str (encQ (cleanR a))).toList == (str (encQ (cleanR b))).toList) = decide (cleanR a = cleanR b) := by
      intro p0 q0
      have ra : rightQ (cleanR a) = true := by rcases hp with h | h; exact h.2; omega
      have rb : rightQ (cleanR b) = true := by rcases hq with h | h; exact h.2; omega
      rw [ByteArray.toList_mk, ByteArray.toList_mk]
      by_cases h : cleanR a = cleanR b
      · rw [h, decide_eq_true rfl]; exact beq_self_eq_true _
      · rw [decide_eq_false h]
        exact beq_eq_false_iff_ne.2 fun he => h (encQ_inj fa fb ra rb he)
    have hla : 0 < (encQ (cleanR a)).length := by have := (encQ_length (cleanR a)).1; omega
    have hlb : 0 < (encQ (cleanR b)).length := by have := (encQ_length (cleanR b)).1; omega
    replace hEq := Lib.hid hEq
    generalize decide (cleanR a = cleanR b) = c at *
    generalize encQ (cleanR a) = EA at *
    generalize encQ (cleanR b) = EB at *
    generalize encR (cleanR a) = cA at *
    generalize encR (cleanR b) = cB at *
    have hp' : p = 0 ∨ p = 1 := by rcases hp with h | h; exact .inl h.1; exact .inr h.1
    have hq' : q = 0 ∨ q = 1 := by rcases hq with h | h; exact .inl h.1; exact .inr h.1
    clear hp hq fa fb ha hb S
    rw [hwA] at ld0
    go_enter Try.func5, Try.ntmps5
    go_wp2_with fail
    go_at_call 12
    refine (h1 _).mono ?_
    clear h1 ld0
    rintro e w1 ⟨rfl, hB1⟩
    rw [← hwA] at hB1
    have hb1 : Below w.heap.size w w1 := hb0.trans (hB1.mono (by omega))
    have hR1 := (hB1.block _ (by omega)).trans hR0
    have hS1 := (hB1.block _ (by omega)).trans hS0
    replace hwA := Lib.hid hwA
    clear hB1 hb0 hR0 hS0 hsA
    go_wp2_with fail
    go_at_call 6
    refine (h5 _).mono ?_
    clear h5
    rintro e w2 ⟨v2, rfl, hv2, hB2⟩
    have hb2 : Below w.heap.size w w2 := hb1.trans (hB2.mono hb1.size)
    have hR2 := (hB2.block _ (lt_of_at hR1)).trans hR1
    have hS2 := (hB2.block _ (lt_of_at hS1)).trans hS1
    have ld2 := req_load (k := k9) hS2 lB
    replace hv2 := Lib.hid hv2
    clear hB2 hb1 hR1 hS1
    go_wp2_with fail
    go_at_call 12
    refine (h2 _).mono ?_
    clear h2 ld2
    rintro e w3 ⟨rfl, hB3⟩
    have hb3 : Below w.heap.size w w3 := hb2.trans (hB3.mono hb2.size)
    have hR3 := (hB3.block _ (lt_of_at hR2)).trans hR2
    have hS3 := (hB3.block _ (lt_of_at hS2)).trans hS2
    have hv3 : Hid (p = 0 → RowAt encB 1 w3 v2 EA) := fun h => (hv2.out h).below hB3
    clear hB3 hb2 hR2 hS2 hv2
    go_wp2_with fail
    go_at_call 6
    refine (h6 _).mono ?_
    clear h6
    rintro e w4 ⟨v4, rfl, hv4, hB4⟩
    have hb4 : Hid (Below w.heap.size w w4) := hb3.trans (hB4.mono hb3.size)
    have hR4 : Hid (w4.heap[w.heap.size]? = some (.cells (encR a).toArray 23 (0, 0))) := (hB4.block _ (lt_of_at hR3)).trans hR3
    have hS4 : Hid (w4.heap[w.heap.size + 1]? = some (.cells (encR b).toArray 23 (0, 0))) := (hB4.block _ (lt_of_at hS3)).trans hS3
    have hu4 : Hid (p = 0 → RowAt encB 1 w4 v2 EA) := fun h => (hv3.out h).below hB4
    replace hv4 := Lib.hid hv4
    clear hB4 hb3 hR3 hS3 hv3
    rcases hp' with rfl | rfl
    · rcases hq' with rfl | rfl
      · have r2 : Hid (BRead w4 v2 EA) := row_bread (hu4.out rfl) hla
        have r4 : Hid (BRead w4 v4 EB) := row_bread (hv4.out rfl) hlb
        have hE : ((str EA).toList == (str EB).toList) = c := hEq.out rfl rfl
        clear hu4 hv4 hEq hla hlb
        have hcv2 : Hid (∀ W, Below w4.heap.size w4 W → (convert 24 9 v2).run Try.prog W = .ok (.string (str EA)) W) := fun W hW => conv_read (r2.out.keeps (Keeps.of_ext hW))
        have hcv4 : Hid (∀ W, Below w4.heap.size w4 W → (convert 24 9 v4).run Try.prog W = .ok (.string (str EB)) W) := fun W hW => conv_read (r4.out.keeps (Keeps.of_ext hW))
        clear r2 r4
        generalize str EA = TA at *
        generalize str EB = TB at *
        go_wp2_with fail
        refine Reg.region_mk 8 40 [[], [true], [false, false], [false, false, true], [true, true, true, true], [false, false, false, false, false], [false, false, false, false, false, false], [false, false, false, false, false, true, true]] [0, 1, 0, 1, 0, 1, 1, 1]
          [.pure, .minor Unit () (fun _ => .string TA) (fun _ _ => True), .pure, .minor Unit () (fun _ => .string TB) (fun _ _ => True), .pure, .minor Unit () (fun _ => .agg (encR a).toArray) (fun _ _ => True), .minor Unit () (fun _ => .agg (encR b).toArray) (fun _ _ => True), .minor Unit () (fun _ => .bool c) (fun _ _ => True)]
          (fun W => Below w4.heap.size w4 W) (fun _ _ => True) (fun a b => Below a.heap.size a b) (by kernel_rfl) (by kernel_rfl) rfl rfl (fun vs a b h hs => trivial) ?_ ?_ ?_ ?_ ?_ ?_
        · intro a b he hb; exact hb.trans (Below.mono he hb.size)
        · intro a b he hb; exact hb.trans (Below.mono he hb.size)
        · exact ⟨trivial, ⟨fun _ _ _ _ _ => trivial, fun _ _ _ _ _ => trivial⟩, trivial, ⟨fun _ _ _ _ _ => trivial, fun _ _ _ _ _ => trivial⟩, trivial, ⟨fun _ _ _ _ _ => trivial, fun _ _ _ _ _ => trivial⟩, ⟨fun _ _ _ _ _ => trivial, fun _ _ _ _ _ => trivial⟩, ⟨fun _ _ _ _ _ => trivial, fun _ _ _ _ _ => trivial⟩, trivial⟩
        · exact ⟨rfl, rfl, rfl, Nat.le_refl _, fun _ _ => rfl⟩
        · trivial
        dsimp only [Reg.mk, List.zip, List.zipWith, List.take]
        repeat (refine' Reg.pass_is _ (by rfl) (fun wz => ?_) ?_; rotate_left; (go_simp; first | rfl | rw [if_neg (by omega)]); simp only [Act.put, List.setIfInBounds_toArray, List.set_cons_zero, List.set_cons_succ]; (try simp only [List.nil_append]); (try simp only [List.cons_append]); (try simp only [id]))
        refine Reg.pass_minor (by rfl) (fun wz hI hF => ?_) (fun r1 => ?_)
        · unfold Reg.One
          have hcv1 := hcv2.out wz hI
          go_wp2_with fail
          first | exact ⟨_, rfl, rfl, Reg.Ext.refl _⟩ | exact ⟨_, rfl, ⟨(), rfl, trivial⟩, Reg.Ext.refl _⟩
        simp only [Act.put, List.setIfInBounds_toArray, List.set_cons_zero, List.set_cons_succ]; (try simp only [List.nil_append]); (try simp only [List.cons_append]); (try simp only [id])
        repeat (refine' Reg.pass_is _ (by rfl) (fun wz => ?_) ?_; rotate_left; (go_simp; first | rfl | rw [if_neg (by omega)]); simp only [Act.put, List.setIfInBounds_toArray, List.set_cons_zero, List.set_cons_succ]; (try simp only [List.nil_append]); (try simp only [List.cons_append]); (try simp only [id]))
        refine Reg.pass_minor (by rfl) (fun wz hI hF => ?_) (fun r3 => ?_)
        · unfold Reg.One
          have hcv1 := hcv4.out wz hI
          go_wp2_with fail
          first | exact ⟨_, rfl, rfl, Reg.Ext.refl _⟩ | exact ⟨_, rfl, ⟨(), rfl, trivial⟩, Reg.Ext.refl _⟩
        simp only [Act.put, List.setIfInBounds_toArray, List.set_cons_zero, List.set_cons_succ]; (try simp only [List.nil_append]); (try simp only [List.cons_append]); (try simp only [id])
        repeat (refine' Reg.pass_is _ (by rfl) (fun wz => ?_) ?_; rotate_left; (go_simp; first | rfl | rw [if_neg (by omega)]); simp only [Act.put, List.setIfInBounds_toArray, List.set_cons_zero, List.set_cons_succ]; (try simp only [List.nil_append]); (try simp only [List.cons_append]); (try simp only [id]))
        refine Reg.pass_minor (by rfl) (fun wz hI hF => ?_) (fun r5 => ?_)
        · unfold Reg.One
          have d0 := req_load (k := k9) ((hI.block _ (lt_of_at hR4.out)).trans hR4.out) lA
          go_wp2_with fail
          first | exact ⟨_, rfl, rfl, Reg.Ext.refl _⟩ | exact ⟨_, rfl, ⟨(), rfl, trivial⟩, Reg.Ext.refl _⟩
        simp only [Act.put, List.setIfInBounds_toArray, List.set_cons_zero, List.set_cons_succ]; (try simp only [List.nil_append]); (try simp only [List.cons_append]); (try simp only [id])
        refine Reg.pass_minor (by rfl) (fun wz hI hF => ?_) (fun r6 => ?_)
        · unfold Reg.One
          have d0 := req_load (k := k9) ((hI.block _ (lt_of_at hS4.out)).trans hS4.out) lB
          go_wp2_with fail
          first | exact ⟨_, rfl, rfl, Reg.Ext.refl _⟩ | exact ⟨_, rfl, ⟨(), rfl, trivial⟩, Reg.Ext.refl _⟩
        simp only [Act.put, List.setIfInBounds_toArray, List.set_cons_zero, List.set_cons_succ]; (try simp only [List.nil_append]); (try simp only [List.cons_append]); (try simp only [id])
        refine Reg.pass_minor (by rfl) (fun wz hI hF => ?_) (fun r7 => ?_)
        · unfold Reg.One
          go_wp2_with (go_at_call 13; go_must (refine (h3 _).mono ?_); rintro e w' ⟨rfl, hb5⟩)
          first | exact ⟨_, rfl, ⟨(), rfl, trivial⟩, hb5⟩ | exact ⟨_, rfl, rfl, hb5⟩
        simp only [Act.put, List.setIfInBounds_toArray, List.set_cons_zero, List.set_cons_succ]; (try simp only [List.nil_append]); (try simp only [List.cons_append]); (try simp only [id])
        refine Reg.pass_end ?_
        intro w7 HI7 _ HF7
        clear HF7
        have hb7 := hb4.out.trans (HI7.mono hb4.out.size)
        dsimp only [List.drop]
        go_wp2_with fail
        go_at_call 9
        refine (h4 _).mono ?_
        rintro e w8 ⟨rfl, hB8⟩
        have hb8 := hb7.trans (hB8.mono hb7.size)
        go_wp2_with fail
        go_ret
        exact ⟨rfl, hb8⟩
      · have hb7 := hb4.out
        go_wp2_with fail
        go_at_call 9
        refine (h4 _).mono ?_
        rintro e w8 ⟨rfl, hB8⟩
        have hb8 := hb7.trans (hB8.mono hb7.size)
        go_wp2_with fail
        go_ret
        exact ⟨rfl, hb8⟩
    · have hb7 := hb4.out
      go_wp2_with fail
      go_at_call 9
      refine (h4 _).mono ?_
      rintro e w8 ⟨rfl, hB8⟩
      have hb8 := hb7.trans (hB8.mono hb7.size)
      go_wp2_with fail
      go_ret
      exact ⟨rfl, hb8⟩
  have hx : ∀ r : Rq, FitsR r → ∃ p : Int, ((p = 0 ∧ rightQ r = true) ∨ (p = 1 ∧ rightQ r = false)) ∧ ∀ W, Calls Try.prog 6 #[.agg (encR r).toArray] W fun e w' => ∃ v, e = .returned (.tuple #[v, .int .i64 p]) ∧ (p = 0 → RowAt encB 1 w' v (encQ r)) ∧ Below W.heap.size W w' := by
    intro r hr
    by_cases h : rightQ r = true
    · refine ⟨0, .inl ⟨rfl, h⟩, fun W => (S.put r W hr h).mono ?_⟩
      rintro e w' ⟨v, rfl, h1, h2⟩
      exact ⟨v, rfl, fun _ => h1, h2⟩
    · have h : rightQ r = false := by simpa using h
      refine ⟨1, .inr ⟨rfl, h⟩, fun W => (S.bad r W hr h).mono ?_⟩
      rintro e w' ⟨ao, cap, rfl, h2⟩
      exact ⟨_, rfl, (fun h => absurd h (by decide)), h2⟩
  obtain ⟨p, hp, h5⟩ := hx _ fa
  obtain ⟨q, hq, h6⟩ := hx _ fb
  exact key p q hp hq h5 h6

end Go.Proofs.Ytojipdcckanbfaa
