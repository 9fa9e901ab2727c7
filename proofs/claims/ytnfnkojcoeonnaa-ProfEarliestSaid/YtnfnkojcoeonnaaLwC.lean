/-
  Own walks: the statements on Earliest, and on what is told.
-/
import Derived.Test.YtnfnkojcoeonnaaLwB
namespace Go.Proofs.Ytnfnkojcoeonnaa
open Go.RowKit Go.Sort Go.Lib

set_option maxRecDepth 100000 in
set_option maxHeartbeats 2000000 in
theorem walkEarliest (fr : Int) (v : Value) (l : List Cl) (a long width : Int) (w : World) (_hfr : -9223372036854775808 ≤ fr ∧ fr ≤ 9223372036854775807) (hr : RowAt enc4 4 w v l) (ha : -9223372036854775808 ≤ a ∧ a ≤ 9223372036854775807) (_hlg : -9223372036854775808 ≤ long ∧ long ≤ 9223372036854775807) (_hwd : -9223372036854775808 ≤ width ∧ width ≤ 9223372036854775807) :
    Calls Try.prog 5 #[.int .i64 fr, v, .int .i64 a, .int .i64 long, .int .i64 width] w fun e w' => e = .returned (.bool true) ∧ Below w.heap.size w w' := by
  by_cases hbad : fr < 0 ∨ 64 < fr
  · have hm := made_bad fr v w hbad
    clear hr ha
    by_cases h1 : fr < 0
    · have d1 : decide (fr < 0) = true := decide_eq_true h1
      go_enter Try.func5, Try.ntmps5
      go_wp2_with (first | (go_at_call 15; go_must (refine hm.mono ?_); rintro e w' ⟨rfl, rfl⟩) | (go_at_call 8; go_must (refine (awake_any _).mono ?_); rintro e w5 ⟨rfl, hb5⟩))
      go_ret
      exact ⟨rfl, hb5⟩
    · have h2 : 64 < fr := by omega
      have d1 : decide (fr < 0) = false := decide_eq_false h1
      have d2 : decide (64 < fr) = true := decide_eq_true h2
      clear hbad
      go_enter Try.func5, Try.ntmps5
      go_wp2_with (first | (go_at_call 15; go_must (refine hm.mono ?_); rintro e w' ⟨rfl, rfl⟩) | (go_at_call 8; go_must (refine (awake_any _).mono ?_); rintro e w5 ⟨rfl, hb5⟩))
      go_ret
      exact ⟨rfl, hb5⟩
  · have hm := made_any fr v l w (by omega) hr
    clear hr hbad
    go_enter Try.func5, Try.ntmps5
    go_wp2_with fail
    go_at_call 15
    refine hm.mono ?_
    clear hm
    rintro e w1 ⟨p, g, q, k, L, now, E, ver, rfl, hk, hX, hb1⟩
    have hll := hX.ll
    have hel := hX.el
    have hnow := hX.now
    by_cases hbd : long < 1 ∨ 1048576 < long ∨ width < 1 ∨ 64 < width
    · have h1 := Earliest_arg a long width hX.x hX.can.sm.pos hbd
      have h2 := PEarliest_arg (q := q) a long width w1 hbd
      clear hbd hX
      go_wp2_with (first | (go_at_call 23; go_must (refine h1.mono ?_); rintro e w' ⟨rfl, rfl⟩) | (go_at_call 24; go_must (refine h2.mono ?_); rintro e w' ⟨rfl, rfl⟩) | (go_at_call 8; go_must (refine (awake_any _).mono ?_); rintro e w5 ⟨rfl, hb5⟩))
      go_ret
      exact ⟨rfl, hb1.trans (hb5.mono hb1.size)⟩
    · have h1 := Earliest_any a long width ha hX.can.sm hnow.1 (by omega) hX.x hbd
      go_wp2_with fail
      go_at_call 23
      refine h1.mono ?_
      clear h1
      rintro e w2 ⟨t, e2, rfl, hE2, hb2⟩
      have h2 := PEarliest_any a long width (hX.y.kept hb2) hX.ok (by omega) hX.F (by omega) hbd
      go_wp2_with fail
      go_at_call 24
      refine h2.mono ?_
      clear h2
      rintro e w3 ⟨t3, e3, rfl, hE3, hb3⟩
      obtain ⟨rfl, rfl⟩ := hE2.uniq hE3 (fun _ _ => rfl)
      have hb4 := hb1.trans ((hb2.trans (hb3.mono hb2.size)).mono hb1.size)
      clear hE2 hE3 hX hbd
      have t1 : (t == t) = true := by simp
      have t2 : (e2 == e2) = true := by simp
      go_wp2_with (go_at_call 8; go_must (refine (awake_any _).mono ?_); rintro e w5 ⟨rfl, hb5⟩)
      go_ret
      exact ⟨rfl, hb4.trans (hb5.mono hb4.size)⟩

set_option maxRecDepth 100000 in
set_option maxHeartbeats 4000000 in
theorem walkTells (fr : Int) (v : Value) (l : List Cl) (t a b : Int) (w : World) (_hfr : -9223372036854775808 ≤ fr ∧ fr ≤ 9223372036854775807) (hr : RowAt enc4 4 w v l) (_ht : -9223372036854775808 ≤ t ∧ t ≤ 9223372036854775807) (_ha : -9223372036854775808 ≤ a ∧ a ≤ 9223372036854775807) (hb : -9223372036854775808 ≤ b ∧ b ≤ 9223372036854775807) :
    Calls Try.prog 4 #[.int .i64 fr, v, .int .i64 t, .int .i64 a, .int .i64 b] w fun e w' => e = .returned (.bool true) ∧ Below w.heap.size w w' := by
  have hmix := mixed
  by_cases hbad : fr < 0 ∨ 64 < fr
  · have hm := made_bad fr v w hbad
    clear hr hb
    by_cases h1 : fr < 0
    · have d1 : decide (fr < 0) = true := decide_eq_true h1
      go_enter Try.func4, Try.ntmps4
      go_wp2_with (first | (go_at_call 15; go_must (refine hm.mono ?_); rintro e w' ⟨rfl, rfl⟩) | (go_at_call 8; go_must (refine (awake_any _).mono ?_); rintro e w5 ⟨rfl, hb5⟩))
      go_ret
      exact ⟨rfl, hb5⟩
    · have h2 : 64 < fr := by omega
      have d1 : decide (fr < 0) = false := decide_eq_false h1
      have d2 : decide (64 < fr) = true := decide_eq_true h2
      clear hbad
      go_enter Try.func4, Try.ntmps4
      go_wp2_with (first | (go_at_call 15; go_must (refine hm.mono ?_); rintro e w' ⟨rfl, rfl⟩) | (go_at_call 8; go_must (refine (awake_any _).mono ?_); rintro e w5 ⟨rfl, hb5⟩))
      go_ret
      exact ⟨rfl, hb5⟩
  · have hm := made_any fr v l w (by omega) hr
    clear hr hbad
    go_enter Try.func4, Try.ntmps4
    go_wp2_with fail
    go_at_call 15
    refine hm.mono ?_
    clear hm
    rintro e w1 ⟨p, g, q, k, L, now, E, ver, rfl, hk, hX, hb1⟩
    have hll := hX.ll
    have hel := hX.el
    have hnow := hX.now
    have hbo := PBounds_any a b hX.y hX.ok (by omega) hX.F (by omega)
    go_wp2_with fail
    go_at_call 16
    refine hbo.mono ?_
    clear hbo
    rintro e w2 ⟨m, M, rfl, hBL, hBM, hb2⟩
    have hX2 := hX.kept hb2
    obtain ⟨i, hi⟩ := hX.can.sm.ix t
    have hfree := Free_any t hi hX.can.sm (by omega) hX2.x
    have hval : tV L i = raw fr E (max t now) := by
      by_cases htn : now ≤ t
      · rw [← hi.val hX.can.sm htn, show max t now = t by omega]
      · have hi0 : i = 0 := by
          rcases Nat.eq_zero_or_pos i with h0 | h0
          · exact h0
          · have := hi.le h0
            have := hX.can.sm.ge_now hi.lt
            omega
        subst hi0
        rw [show max t now = now by omega]
        exact (hX.can.sm.rep 0 now hX.can.sm.pos (by rw [hX.can.sm.hd]; exact Int.le_refl _) (fun hx => by have := hX.can.sm.inc 0 hx; rw [hX.can.sm.hd] at this; exact this)).symm
    obtain ⟨z, hz⟩ : ∃ z, z = tV L i := ⟨_, rfl⟩
    rw [← hz] at hfree hval
    have hat := fun (W : World) (hW : Below w2.heap.size w2 W) => PAt_any t (hX2.y.kept hW) hX.ok (by omega) hX.F
    rw [← hval] at hat
    have hle := fun (W : World) (hW : Below w2.heap.size w2 W) => Least_any a b hb hX.can.sm hnow.1 (by omega) (hX2.x.kept hW)
    have z1 : (z == z) = true := by simp
    replace hz := Lib.hid hz
    replace hval := Lib.hid hval
    go_wp2_with (first | (go_at_call 17; go_must (refine hfree.mono ?_); rintro e w3 ⟨rfl, hb3⟩) | (go_at_call 18; go_must (refine (hat _ hb3).mono ?_); rintro e w' ⟨rfl, rfl⟩))
    go_at_call 19
    refine (hle _ hb3).mono ?_
    clear hle hat hfree
    rintro e w4 ⟨m4, rfl, hBL4, hb4⟩
    obtain rfl : m4 = m := hBL4.uniq hBL (fun _ _ => rfl)
    have hb24 := hb3.trans (hb4.mono hb3.size)
    have hX4 := hX2.kept hb24
    have m1 : (m4 == m4) = true := by simp
    have hcp := Copy_any hX4.x hX.can.sm.pos (by omega)
    clear hBL hBM hBL4
    go_wp2_with fail
    go_at_call 20
    refine hcp.mono ?_
    clear hcp
    rintro e w5 ⟨py, gy, rfl, hY, hpy, hgy, hb5⟩
    have hX5 := hX4.kept hb5
    have hadd := Add_any 0 1152921504606846976 (-1) hX.can hnow.1 hX.fr (by have := hX.v; omega) (by omega) hY
    have hbw4 : Below w.heap.size w w4 := hb1.trans ((hb2.trans (hb24.mono hb2.size)).mono hb1.size)
    have hbw5 := hbw4.trans (hb5.mono hbw4.size)
    obtain ⟨cap5, Z5⟩ := hX4.x.facts
    have hpl := Z5.pl
    have hgl := Z5.gl
    clear Z5 hX hX2 hb1 hb2 hb3 hb4 hb24
    go_wp2_with fail
    go_at_call 21
    refine hadd.mono ?_
    clear hadd
    rintro e w6 ⟨r6, d6, f6, g6, L6, rfl, hR6, hY6, hC6, hg6, hO6, hl6⟩
    have hX6x := hX5.x.off hO6 ⟨by omega, by omega⟩ ⟨by omega, by omega⟩
    have hX6y := hX5.y.off hY hO6
    have hadv := Adv_any 1099511627776 hC6 hY6 hnow.2 (by
      have hv := hX5.v
      rcases hR6 with ⟨_, _, _, hd⟩ | ⟨_, _, _, _, hd⟩ | ⟨_, _, _, _, _, hd⟩ | ⟨_, _, _, _, _, hd⟩ <;> omega) (by omega)
    clear hR6
    go_wp2_with fail
    go_at_call 22
    refine hadv.mono ?_
    clear hadv
    rintro e w7 ⟨r7, d7, n7, L7, rfl, hR7, hY7, hC7, hO7, hl7⟩
    have hn7 : n7 = 1099511627776 := by unfold AdvR at hR7; omega
    subst hn7
    have hsz6 := hO6.size
    have hsz5 := hb5.size
    have hX7x := hX6x.off hO7 ⟨by omega, by omega⟩ ⟨by omega, by omega⟩
    have hX7y := hX6y.off hY6 hO7
    have hb6 : Below w.heap.size w5 w6 := hO6.below (by have := hbw4.size; omega) (by have := hbw4.size; omega) (by have := hbw5.size; omega)
    have hb7 : Below w.heap.size w6 w7 := hO7.below (by have := hbw4.size; omega) (by have := hbw4.size; have := hbw5.size; omega) (by have := hbw5.size; have := hb6.size; omega)
    have hbw7 : Below w.heap.size w w7 := (hbw5.trans hb6).trans hb7
    have hcan := hX5.can
    have hok := hX5.ok
    have hF0 := hX5.F
    have hnw7 : tA L7 0 = 1099511627776 := hC7.sm.hd
    have hyn := fun (W : World) (hW : Below w7.heap.size w7 W) => Now_any (hY7.kept hW) hC7.sm.pos
    rw [hnw7] at hyn
    clear hX4 hX5 hY hY6 hX6x hX6y hR7 hO6 hO7 hb5 hb6 hb7 hbw4 hbw5 hC6 hg6 hl6 hl7 hY7
    go_wp2_with fail
    refine Reg.region_mk 12 87 [[], [true], [false, false], [true, true, true], [true, true, true, true], [true, true, true, true, true], [true, true, true, true, true, true], [true, true, true, true, true, true, true], [true, true, true, true, true, true, false, false], [true, true, true, true, true, true, false, false, true], [true, true, true, true, true, true, false, false, true, true], [true, true, true, true, true, true, false, false, true, true, true]] [0, 1, 0, 1, 1, 0, 0, 1, 0, 0, 0, 1]
      [.pure, .minor (Nat × Nat) (0, 0) (fun x => .slice (some ⟨x.1, 0, none⟩) L.length x.2) (fun x W => W.ownsRow 0 59 2 (.slice (some ⟨x.1, 0, none⟩) L.length x.2) L.length (prV L)), .pure, .minor (Nat × Nat) (0, 0) (fun x => .slice (some ⟨x.1, 0, none⟩) L.length x.2) (fun x W => W.ownsRow 0 59 2 (.slice (some ⟨x.1, 0, none⟩) L.length x.2) L.length (prV L)), .minor Unit () (fun _ => .bool true) (fun _ _ => True), .pure, .pure, .minor Unit () (fun _ => .int .i64 now) (fun _ _ => True), .pure, .pure, .pure, .minor Unit () (fun _ => .int .i64 now) (fun _ _ => True)]
      (fun W => Below w7.heap.size w7 W) (fun _ _ => True) (fun _ _ => False) (by kernel_rfl) (by kernel_rfl) rfl rfl (fun _ _ _ _ h => h) ?_ ?_ ?_ ?_ ?_ ?_
    · intro w1 w2 he hb; exact hb.trans (he.mono hb.size)
    · intro _ _ h; exact h.elim
    · refine ⟨trivial, ⟨?_, ?_⟩, trivial, ⟨?_, ?_⟩, ⟨?_, ?_⟩, trivial, trivial, ⟨?_, ?_⟩, trivial, trivial, trivial, ⟨?_, ?_⟩, trivial⟩
      all_goals (first | exact fun _ _ _ _ h => h | exact fun _ _ _ h => h.elim | exact fun _ w1 w2 he hx => own_kept hx he)
    · exact (Below.refl _ _).drew
    · exact trivial
    dsimp only [Reg.mk, List.zip, List.zipWith, List.take]
    repeat (refine' Reg.pass_is _ (by rfl) (fun wz => ?_) ?_; rotate_left; (go_simp; first | rfl | rw [if_neg (by omega)]); simp only [Act.put, List.setIfInBounds_toArray, List.set_cons_zero, List.set_cons_succ]; (try simp only [List.nil_append]); (try simp only [List.cons_append]))
    refine Reg.pass_minor (by rfl) (fun wz hI hF => ?_) (fun x1 => ?_)
    · unfold Reg.One
      go_wp2_with (go_at_call 13; go_must (refine (Steps_any (hX7x.kept hI) hcan.sm.pos (by omega)).mono ?_); rintro e w9 ⟨g9, c9, rfl, h91, h92, h93⟩)
      exact ⟨_, rfl, ⟨(g9, c9), rfl, h92⟩, h93⟩
    simp only [Act.put, List.setIfInBounds_toArray, List.set_cons_zero, List.set_cons_succ]; (try simp only [List.nil_append]); (try simp only [List.cons_append]); (try simp only [id])
    repeat (refine' Reg.pass_is _ (by rfl) (fun wz => ?_) ?_; rotate_left; (go_simp; first | rfl | rw [if_neg (by omega)]); simp only [Act.put, List.setIfInBounds_toArray, List.set_cons_zero, List.set_cons_succ]; (try simp only [List.nil_append]); (try simp only [List.cons_append]))
    refine Reg.pass_minor (by rfl) (fun wz hI hF => ?_) (fun x3 => ?_)
    · unfold Reg.One
      go_wp2_with (go_at_call 14; go_must (refine (PSteps_any (hX7y.kept hI) hok (by omega) hF0 (by omega)).mono ?_); rintro e w9 ⟨g9, c9, L9, rfl, h92, h9c, h93⟩; obtain rfl := Can.uniq h9c hcan (fun _ _ => rfl))
      exact ⟨_, rfl, ⟨(g9, c9), rfl, ownsRow_mono h92 (Nat.zero_le _)⟩, h93⟩
    simp only [Act.put, List.setIfInBounds_toArray, List.set_cons_zero, List.set_cons_succ]; (try simp only [List.nil_append]); (try simp only [List.cons_append]); (try simp only [id])
    refine Reg.pass_minor (by rfl) (fun wz hI hF => ?_) (fun x4 => ?_)
    · unfold Reg.One
      obtain ⟨_, o1, _, o2, _⟩ := hF
      go_wp2_with (go_at_call 12; go_must (refine (same_any o1 o2 (by omega)).mono ?_); rintro e w9 ⟨rfl, h93⟩)
      exact ⟨_, rfl, ⟨(), rfl, trivial⟩, h93⟩
    simp only [Act.put, List.setIfInBounds_toArray, List.set_cons_zero, List.set_cons_succ]; (try simp only [List.nil_append]); (try simp only [List.cons_append]); (try simp only [id])
    repeat (refine' Reg.pass_is _ (by rfl) (fun wz => ?_) ?_; rotate_left; (go_simp; first | rfl | rw [if_neg (by omega)]); simp only [Act.put, List.setIfInBounds_toArray, List.set_cons_zero, List.set_cons_succ]; (try simp only [List.nil_append]); (try simp only [List.cons_append]))
    refine Reg.pass_minor (by rfl) (fun wz hI hF => ?_) (fun x7 => ?_)
    · unfold Reg.One
      have hnx := Now_any (hX7x.kept hI) hcan.sm.pos
      rw [hcan.sm.hd] at hnx
      go_wp2_with (go_at_call 10; go_must (refine hnx.mono ?_); rintro e w9 ⟨rfl, rfl⟩)
      exact ⟨_, rfl, ⟨(), rfl, trivial⟩, Reg.Ext.refl _⟩
    simp only [Act.put, List.setIfInBounds_toArray, List.set_cons_zero, List.set_cons_succ]; (try simp only [List.nil_append]); (try simp only [List.cons_append]); (try simp only [id])
    repeat (refine' Reg.pass_is _ (by rfl) (fun wz => ?_) ?_; rotate_left; (go_simp; first | rfl | rw [if_neg (by omega)]); simp only [Act.put, List.setIfInBounds_toArray, List.set_cons_zero, List.set_cons_succ]; (try simp only [List.nil_append]); (try simp only [List.cons_append]))
    refine Reg.pass_minor (by rfl) (fun wz hI hF => ?_) (fun x11 => ?_)
    · unfold Reg.One
      obtain ⟨ao9, c9, Q9⟩ := (hX7y.kept hI).facts
      have d9 := Q9.c1
      clear Q9
      go_wp2_with fail
      exact ⟨_, rfl, ⟨(), rfl, trivial⟩, Reg.Ext.refl _⟩
    simp only [Act.put, List.setIfInBounds_toArray, List.set_cons_zero, List.set_cons_succ]; (try simp only [List.nil_append]); (try simp only [List.cons_append]); (try simp only [id])
    refine Reg.pass_end ?_
    intro w8 HI3 _ HF3
    clear HF3 hX7x hX7y hcan hok
    have hb8 := hbw7.trans (HI3.mono hbw7.size)
    have n1 : (now == now) = true := by simp
    dsimp only [List.drop]
    go_wp2_with (first | (go_at_call 10; go_must (refine (hyn _ HI3).mono ?_); rintro e w9 ⟨rfl, rfl⟩) | (go_at_call 8; go_must (refine (awake_any _).mono ?_); rintro e w5 ⟨rfl, hb5⟩))
    go_ret
    exact ⟨rfl, hb8.trans (hb5.mono hb8.size)⟩

end Go.Proofs.Ytnfnkojcoeonnaa
