/-
  Own walks: the statement on what is reserved and released, and on no profile.
-/
import Derived.Test.YtnfnkojcoeonnaaLwC
namespace Go.Proofs.Ytnfnkojcoeonnaa
open Go.RowKit Go.Sort Go.Lib

theorem Earliest_nil (a b c : Int) (w : World) : Calls Try.prog 23 #[.pointer none, .int .i64 a, .int .i64 b, .int .i64 c] w fun e w' => e = .returned (.tuple #[.int .i64 0, .int .i64 8]) ∧ w = w' := by
  go_enter Try.func23, Try.ntmps23
  go_wp2_with (go_at_call 29; go_must (refine (none_nil _).mono ?_); rintro e w' ⟨rfl, rfl⟩)
  go_ret2
  exact ⟨rfl, rfl⟩
theorem Advance_nil (a : Int) (w : World) : Calls Try.prog 22 #[.pointer none, .int .i64 a] w fun e w' => e = .returned (.int .i64 8) ∧ w = w' := by
  go_enter Try.func22, Try.ntmps22
  go_wp2_with (go_at_call 29; go_must (refine (none_nil _).mono ?_); rintro e w' ⟨rfl, rfl⟩)
  go_ret
  exact ⟨rfl, rfl⟩
theorem Add_nil (a b c : Int) (w : World) : Calls Try.prog 21 #[.pointer none, .int .i64 a, .int .i64 b, .int .i64 c] w fun e w' => e = .returned (.int .i64 8) ∧ w = w' := by
  go_enter Try.func21, Try.ntmps21
  go_wp2_with (go_at_call 29; go_must (refine (none_nil _).mono ?_); rintro e w' ⟨rfl, rfl⟩)
  go_ret
  exact ⟨rfl, rfl⟩
theorem Copy_nil (w : World) : Calls Try.prog 20 #[.pointer none] w fun e w' => e = .returned (.pointer none) ∧ w = w' := by
  go_enter Try.func20, Try.ntmps20
  go_wp2_with (go_at_call 29; go_must (refine (none_nil _).mono ?_); rintro e w' ⟨rfl, rfl⟩)
  go_ret
  exact ⟨rfl, rfl⟩
theorem Free_nil (a : Int) (w : World) : Calls Try.prog 17 #[.pointer none, .int .i64 a] w fun e w' => e = .returned (.int .i64 0) ∧ w = w' := by
  go_enter Try.func17, Try.ntmps17
  go_wp2_with (go_at_call 29; go_must (refine (none_nil _).mono ?_); rintro e w' ⟨rfl, rfl⟩)
  go_ret
  exact ⟨rfl, rfl⟩
theorem Least_nil (a b : Int) (w : World) : Calls Try.prog 19 #[.pointer none, .int .i64 a, .int .i64 b] w fun e w' => e = .returned (.int .i64 0) ∧ w = w' := by
  go_enter Try.func19, Try.ntmps19
  go_wp2_with (go_at_call 29; go_must (refine (none_nil _).mono ?_); rintro e w' ⟨rfl, rfl⟩)
  go_ret
  exact ⟨rfl, rfl⟩
theorem Steps_nil (w : World) : Calls Try.prog 13 #[.pointer none] w fun e w' => e = .returned (.slice none 0 0) ∧ w = w' := by
  go_enter Try.func13, Try.ntmps13
  go_wp2_with (go_at_call 29; go_must (refine (none_nil _).mono ?_); rintro e w' ⟨rfl, rfl⟩)
  go_ret
  exact ⟨rfl, rfl⟩
theorem Version_nil (w : World) : Calls Try.prog 11 #[.pointer none] w fun e w' => e = .returned (.int .i64 0) ∧ w = w' := by
  go_enter Try.func11, Try.ntmps11
  go_wp2_with (go_at_call 29; go_must (refine (none_nil _).mono ?_); rintro e w' ⟨rfl, rfl⟩)
  go_ret
  exact ⟨rfl, rfl⟩

/-- What was taken and given back is as it was. -/
theorem AddR.back {f f' f'' : Int → Int} {now a b n dv dv2 r : Int} (hn : 0 ≤ n ∧ n ≤ 64) (hf : ∀ t, now ≤ t → 0 ≤ f t ∧ f t ≤ 64) (h : AddR f now a b (-n) 0 f' dv) (h2 : AddR f' now a b n r f'' dv2) : r = 0 ∧ ∀ t, now ≤ t → f'' t = f t := by
  rcases h with ⟨_, h0, _⟩ | ⟨a1, a2, _, rfl, _⟩ | ⟨_, _, _, h0, _⟩ | ⟨a1, a2, a3, _, rfl, _⟩
  · omega
  · rcases h2 with ⟨c1, _⟩ | ⟨_, _, rfl, rfl, _⟩ | ⟨_, c2, _⟩ | ⟨_, c2, _⟩
    · omega
    · exact ⟨rfl, fun _ _ => rfl⟩
    · omega
    · omega
  · omega
  · have hsum : ∀ t, had (max a now) b (-n) t + had (max a now) b n t = 0 := fun t => by unfold had; split <;> omega
    rcases h2 with ⟨c1, _⟩ | ⟨_, c2, _⟩ | ⟨_, _, ⟨t, t1, t2, t3⟩, _⟩ | ⟨_, _, _, rfl, rfl, _⟩
    · omega
    · omega
    · have h5 : had (max a now) b (-n) t = -n := by unfold had; rw [if_pos ⟨t1, .inl t2⟩]
      have h6 := hf t (by omega)
      simp only [h5] at t3
      omega
    · exact ⟨rfl, fun t _ => by have := hsum t; show f t + had (max a now) b (-n) t + had (max a now) b n t = f t; omega⟩
theorem AddR.no {f f' : Int → Int} {now a b n dv r : Int} (h : AddR f now a b n r f' dv) (hr : r ≠ 0) : f' = f ∧ dv = 0 := by
  rcases h with ⟨_, _, h1, h2⟩ | ⟨_, _, h0, _⟩ | ⟨_, _, _, _, h1, h2⟩ | ⟨_, _, _, h0, _⟩
  · exact ⟨h1, h2⟩
  · exact absurd h0 hr
  · exact ⟨h1, h2⟩
  · exact absurd h0 hr
theorem AddR.dvs {f f' : Int → Int} {now a b n dv r : Int} (h : AddR f now a b n r f' dv) : 0 ≤ dv ∧ dv ≤ 1 := by
  rcases h with ⟨_, _, _, hd⟩ | ⟨_, _, _, _, hd⟩ | ⟨_, _, _, _, _, hd⟩ | ⟨_, _, _, _, _, hd⟩ <;> omega

set_option maxRecDepth 100000 in
set_option maxHeartbeats 4000000 in
theorem walkBack (fr : Int) (v : Value) (l : List Cl) (a b n : Int) (w : World) (_hfr : -9223372036854775808 ≤ fr ∧ fr ≤ 9223372036854775807) (hr : RowAt enc4 4 w v l) :
    Calls Try.prog 6 #[.int .i64 fr, v, .agg #[.int .i64 a, .int .i64 b, .int .i64 n]] w fun e w' => e = .returned (.bool true) ∧ Below w.heap.size w w' := by
  have hmix := mixed
  obtain ⟨w0, hw0⟩ : ∃ w0, w0 = w.alloc (.cells #[.int .i64 a, .int .i64 b, .int .i64 n] 55) := ⟨_, rfl⟩
  have hb0 : Below w.heap.size w w0 := by rw [hw0]; exact (Below.refl _ _).alloc (Nat.le_refl _) _
  have hs0 : w0.heap[w.heap.size]? = some (.cells #[.int .i64 a, .int .i64 b, .int .i64 n] 55 (0, 0)) := by rw [hw0]; exact heap_alloc_new w _
  obtain ⟨o, ho⟩ : ∃ o, o = w.heap.size := ⟨_, rfl⟩
  rw [← ho] at hs0
  have hol := lt_of_heap hs0
  have hcs : ∀ W : World, Below w0.heap.size w0 W → W.cell? ⟨o, 0, none⟩ = some (.int .i64 a) ∧ W.cell? ⟨o, 1, none⟩ = some (.int .i64 b) ∧ W.cell? ⟨o, 2, none⟩ = some (.int .i64 n) := fun W hW => by
    have h9 : W.heap[o]? = _ := (hW.block o hol).trans hs0
    exact ⟨by simp [World.cell?, h9], by simp [World.cell?, h9], by simp [World.cell?, h9]⟩
  by_cases hbad : fr < 0 ∨ 64 < fr
  · have hm := made_bad fr v w0 hbad
    clear hr hbad hcs hs0 hol
    go_enter Try.func6, Try.ntmps6
    go_wp2_with (first | (go_at_call 23; go_must (refine (Earliest_nil _ _ _ _).mono ?_); rintro e w' ⟨rfl, rfl⟩) | (go_at_call 22; go_must (refine (Advance_nil _ _).mono ?_); rintro e w' ⟨rfl, rfl⟩) | (go_at_call 21; go_must (refine (Add_nil _ _ _ _).mono ?_); rintro e w' ⟨rfl, rfl⟩) | (go_at_call 20; go_must (refine (Copy_nil _).mono ?_); rintro e w' ⟨rfl, rfl⟩) | (go_at_call 17; go_must (refine (Free_nil _ _).mono ?_); rintro e w' ⟨rfl, rfl⟩) | (go_at_call 19; go_must (refine (Least_nil _ _ _).mono ?_); rintro e w' ⟨rfl, rfl⟩) | (go_at_call 13; go_must (refine (Steps_nil _).mono ?_); rintro e w' ⟨rfl, rfl⟩) | (go_at_call 11; go_must (refine (Version_nil _).mono ?_); rintro e w' ⟨rfl, rfl⟩) | fail)
    rw [← hw0, ← ho]
    replace hw0 := Lib.hid hw0
    replace ho := Lib.hid ho
    go_wp2_with (first | (go_at_call 23; go_must (refine (Earliest_nil _ _ _ _).mono ?_); rintro e w' ⟨rfl, rfl⟩) | (go_at_call 22; go_must (refine (Advance_nil _ _).mono ?_); rintro e w' ⟨rfl, rfl⟩) | (go_at_call 21; go_must (refine (Add_nil _ _ _ _).mono ?_); rintro e w' ⟨rfl, rfl⟩) | (go_at_call 20; go_must (refine (Copy_nil _).mono ?_); rintro e w' ⟨rfl, rfl⟩) | (go_at_call 17; go_must (refine (Free_nil _ _).mono ?_); rintro e w' ⟨rfl, rfl⟩) | (go_at_call 19; go_must (refine (Least_nil _ _ _).mono ?_); rintro e w' ⟨rfl, rfl⟩) | (go_at_call 13; go_must (refine (Steps_nil _).mono ?_); rintro e w' ⟨rfl, rfl⟩) | (go_at_call 11; go_must (refine (Version_nil _).mono ?_); rintro e w' ⟨rfl, rfl⟩) | (go_at_call 15; go_must (refine hm.mono ?_); rintro e w' ⟨rfl, rfl⟩) | (go_at_call 8; go_must (refine (awake_any _).mono ?_); rintro e w5 ⟨rfl, hb5⟩))
    go_ret
    exact ⟨rfl, hb0.trans (hb5.mono hb0.size)⟩
  · have hm := made_any fr v l w0 (by omega) (hr.below hb0)
    clear hr hs0 hbad
    go_enter Try.func6, Try.ntmps6
    go_wp2_with (first | (go_at_call 23; go_must (refine (Earliest_nil _ _ _ _).mono ?_); rintro e w' ⟨rfl, rfl⟩) | (go_at_call 22; go_must (refine (Advance_nil _ _).mono ?_); rintro e w' ⟨rfl, rfl⟩) | (go_at_call 21; go_must (refine (Add_nil _ _ _ _).mono ?_); rintro e w' ⟨rfl, rfl⟩) | (go_at_call 20; go_must (refine (Copy_nil _).mono ?_); rintro e w' ⟨rfl, rfl⟩) | (go_at_call 17; go_must (refine (Free_nil _ _).mono ?_); rintro e w' ⟨rfl, rfl⟩) | (go_at_call 19; go_must (refine (Least_nil _ _ _).mono ?_); rintro e w' ⟨rfl, rfl⟩) | (go_at_call 13; go_must (refine (Steps_nil _).mono ?_); rintro e w' ⟨rfl, rfl⟩) | (go_at_call 11; go_must (refine (Version_nil _).mono ?_); rintro e w' ⟨rfl, rfl⟩) | fail)
    rw [← hw0, ← ho]
    replace hw0 := Lib.hid hw0
    replace ho := Lib.hid ho
    go_wp2_with (first | (go_at_call 23; go_must (refine (Earliest_nil _ _ _ _).mono ?_); rintro e w' ⟨rfl, rfl⟩) | (go_at_call 22; go_must (refine (Advance_nil _ _).mono ?_); rintro e w' ⟨rfl, rfl⟩) | (go_at_call 21; go_must (refine (Add_nil _ _ _ _).mono ?_); rintro e w' ⟨rfl, rfl⟩) | (go_at_call 20; go_must (refine (Copy_nil _).mono ?_); rintro e w' ⟨rfl, rfl⟩) | (go_at_call 17; go_must (refine (Free_nil _ _).mono ?_); rintro e w' ⟨rfl, rfl⟩) | (go_at_call 19; go_must (refine (Least_nil _ _ _).mono ?_); rintro e w' ⟨rfl, rfl⟩) | (go_at_call 13; go_must (refine (Steps_nil _).mono ?_); rintro e w' ⟨rfl, rfl⟩) | (go_at_call 11; go_must (refine (Version_nil _).mono ?_); rintro e w' ⟨rfl, rfl⟩) | fail)
    go_at_call 15
    refine hm.mono ?_
    clear hm
    rintro e w1 ⟨p, g, q, k, L, now, E, ver, rfl, hk, hX, hb1⟩
    have hbw1 := hb0.trans (hb1.mono hb0.size)
    obtain ⟨c0, c1, c2⟩ := hcs w1 hb1
    have hll := hX.ll
    have hel := hX.el
    have hvv := hX.v
    have hnow := hX.now
    by_cases hn1 : n < 0
    · have d1 : decide (n < 0) = true := decide_eq_true hn1
      clear hX hcs
      go_wp2_with (go_at_call 8; go_must (refine (awake_any _).mono ?_); rintro e w5 ⟨rfl, hb5⟩)
      go_ret
      exact ⟨rfl, hbw1.trans (hb5.mono hbw1.size)⟩
    · have d1 : decide (n < 0) = false := decide_eq_false hn1
      by_cases hn2 : 64 < n
      · have d2 : decide (64 < n) = true := decide_eq_true hn2
        clear hX hcs
        go_wp2_with (go_at_call 8; go_must (refine (awake_any _).mono ?_); rintro e w5 ⟨rfl, hb5⟩)
        go_ret
        exact ⟨rfl, hbw1.trans (hb5.mono hbw1.size)⟩
      · have d2 : decide (64 < n) = false := decide_eq_false hn2
        have hst := Steps_any hX.x hX.can.sm.pos (by omega)
        obtain ⟨cap1, Z1⟩ := hX.x.facts
        have hpl := Z1.pl
        have hgl := Z1.gl
        clear Z1
        go_wp2_with fail
        go_at_call 13
        refine hst.mono ?_
        clear hst
        rintro e w2 ⟨gw, cw, rfl, hgw, hwas, hb2⟩
        have hX2 := hX.kept hb2
        have hb12 := hb1.trans (hb2.mono hb1.size)
        obtain ⟨k0, k1, k2⟩ := hcs w2 hb12
        have hrs := Reserve_any a b n (by omega) hX2.can hnow.1 hX2.fr (by omega) (by omega) hX2.x
        have hsz2 := hb2.size
        clear c0 c1 c2
        go_wp2_with fail
        go_at_call 25
        refine hrs.mono ?_
        clear hrs
        rintro e w3 ⟨r, dv, f', g3, L3, rfl, hR3, hP3, hC3, hg3, hO3, hl3⟩
        have hwas3 := hO3.own hwas (fun kk hkk => by cases hkk; exact ⟨(by show gw ≠ p; omega), (by show gw ≠ g; omega)⟩)
        have hQ3 := hX2.y.off hX2.x hO3
        have hb23 : Below w0.heap.size w2 w3 := hO3.below hX2.bp hX2.bg (by have := hb12.size; omega)
        have hb13 := hb12.trans hb23
        have hbw3 := hb0.trans (hb13.mono hb0.size)
        obtain ⟨k0, k1, k2⟩ := hcs w3 hb13
        by_cases hr0 : r = 0
        · subst hr0
          have hrg := hR3.range hX2.fr (fun t ht => hX2.can.sm.late t ht)
          have hdv := hR3.dvs
          have hrl := Release_any a b n (by omega) hC3 hnow.1 hrg (by omega) (by omega) hP3
          have hgl3 : g3 < w3.heap.size ∧ p < w3.heap.size := by
            obtain ⟨c9, Z9⟩ := hP3.facts
            exact ⟨Z9.gl, Z9.pl⟩
          have hgwl := (hwas3.lt gw rfl).2
          have hfr2 := hX2.fr
          have hcanL := hX2.can
          have hng : gw ≠ g3 := by
            rcases hg3 with h7 | h7
            · omega
            · have := (hwas.lt gw rfl).2; omega
          have hpb := hX2.bp
          have hgb : w0.heap.size ≤ g3 := by have := hX2.bg; have := hb12.size; omega
          clear hX hX2 hQ3 hb2
          go_wp2_with fail
          go_at_call 26
          refine hrl.mono ?_
          clear hrl
          rintro e w4 ⟨r4, dv4, f4, g4, L4, rfl, hR4, hP4, hC4, hg4, hO4, hl4⟩
          obtain ⟨rfl, hff⟩ := hR3.back (by omega) hfr2 hR4
          obtain rfl : L4 = L := hC4.uniq hcanL hff
          have hwas4 := hO4.own hwas3 (fun kk hkk => by cases hkk; exact ⟨(by show gw ≠ p; omega), hng⟩)
          have hb34 : Below w0.heap.size w3 w4 := hO4.below hpb hgb (by have := hb13.size; omega)
          have hb14 := hb13.trans hb34
          have hbw4 := hb0.trans (hb14.mono hb0.size)
          have hst4 := Steps_any hP4 hcanL.sm.pos (by omega)
          clear hR3 hR4 hC3 hC4 hff hO3 hO4 hP3 k0 k1 k2 hcs
          go_wp2_with fail
          go_at_call 13
          refine hst4.mono ?_
          clear hst4
          rintro e w6 ⟨g6, c6, rfl, hg6, ho6, hb6⟩
          have hsm := same_any ho6 (own_kept hwas4 hb6) (by omega)
          have hbw6 := hbw4.trans (hb6.mono hbw4.size)
          clear hP4 ho6 hwas4
          go_wp2_with (first | (go_at_call 12; go_must (refine hsm.mono ?_); rintro e w7 ⟨rfl, hb7⟩) | (go_at_call 8; go_must (refine (awake_any _).mono ?_); rintro e w5 ⟨rfl, hb5⟩))
          go_ret
          exact ⟨rfl, (hbw6.trans (hb7.mono hbw6.size)).trans (hb5.mono (Nat.le_trans hbw6.size hb7.size))⟩
        · obtain ⟨rfl, rfl⟩ := hR3.no hr0
          obtain rfl : L3 = L := hC3.uniq hX2.can (fun _ _ => rfl)
          rw [Int.add_zero] at hP3
          have hpos3 := hC3.sm.pos
          have hr0' : (r != 0) = true := by simp [bne, hr0]
          clear hX hX2 hR3 hC3 hO3 k0 k1 k2 hcs hwas hb2
          replace hr0 := Lib.hid hr0
          go_wp2_with fail
          refine Reg.region_mk 11 116 [[], [true], [false, false], [true, true, true], [true, true, true, true], [true, true, true, true, true], [true, true, true, true, true, true], [true, true, true, true, true, false, false], [true, true, true, true, true, false, false, true], [true, true, true, true, true, false, false, true, true], [true, true, true, true, true, false, false, true, true, true]] [0, 1, 0, 1, 0, 0, 1, 0, 0, 0, 1]
            [.pure, .minor (Nat × Nat) (0, 0) (fun x => .slice (some ⟨x.1, 0, none⟩) L3.length x.2) (fun x W => W.ownsRow 0 59 2 (.slice (some ⟨x.1, 0, none⟩) L3.length x.2) L3.length (prV L3)), .pure, .minor Unit () (fun _ => .bool true) (fun _ _ => True), .pure, .pure, .minor Unit () (fun _ => .int .i64 ver) (fun _ _ => True), .pure, .pure, .pure, .minor Unit () (fun _ => .int .i64 ver) (fun _ _ => True)]
            (fun W => Below w3.heap.size w3 W) (fun _ _ => True) (fun _ _ => False) (by kernel_rfl) (by kernel_rfl) rfl rfl (fun _ _ _ _ h => h) ?_ ?_ ?_ ?_ ?_ ?_
          · intro w1 w2 he hb; exact hb.trans (he.mono hb.size)
          · intro _ _ h; exact h.elim
          · refine ⟨trivial, ⟨?_, ?_⟩, trivial, ⟨?_, ?_⟩, trivial, trivial, ⟨?_, ?_⟩, trivial, trivial, trivial, ⟨?_, ?_⟩, trivial⟩
            all_goals (first | exact fun _ _ _ _ h => h | exact fun _ _ _ h => h.elim | exact fun _ w1 w2 he hx => own_kept hx he)
          · exact (Below.refl _ _).drew
          · exact trivial
          dsimp only [Reg.mk, List.zip, List.zipWith, List.take]
          repeat (refine' Reg.pass_is _ (by rfl) (fun wz => ?_) ?_; rotate_left; (go_simp; first | rfl | rw [if_neg (by omega)]); simp only [Act.put, List.setIfInBounds_toArray, List.set_cons_zero, List.set_cons_succ]; (try simp only [List.nil_append]); (try simp only [List.cons_append]))
          refine Reg.pass_minor (by rfl) (fun wz hI hF => ?_) (fun x1 => ?_)
          · unfold Reg.One
            go_wp2_with (go_at_call 13; go_must (refine (Steps_any (hP3.kept hI) hpos3 (by omega)).mono ?_); rintro e w9 ⟨g9, c9, rfl, h91, h92, h93⟩)
            refine ⟨.slice (some ⟨g9, 0, none⟩) L3.length c9, ?_, ⟨(g9, c9), rfl, h92⟩, h93⟩; simp only [Act.put, List.setIfInBounds_toArray, List.set_cons_zero, List.set_cons_succ]
          simp only [Act.put, List.setIfInBounds_toArray, List.set_cons_zero, List.set_cons_succ]; (try simp only [List.nil_append]); (try simp only [List.cons_append]); (try simp only [id])
          repeat (refine' Reg.pass_is _ (by rfl) (fun wz => ?_) ?_; rotate_left; (go_simp; first | rfl | rw [if_neg (by omega)]); simp only [Act.put, List.setIfInBounds_toArray, List.set_cons_zero, List.set_cons_succ]; (try simp only [List.nil_append]); (try simp only [List.cons_append]))
          refine Reg.pass_minor (by rfl) (fun wz hI hF => ?_) (fun x3 => ?_)
          · unfold Reg.One
            obtain ⟨_, o1, _⟩ := hF
            go_wp2_with (go_at_call 12; go_must (refine (same_any o1 (own_kept hwas3 hI) (by omega)).mono ?_); rintro e w9 ⟨rfl, h93⟩)
            refine ⟨.bool true, ?_, ⟨(), rfl, trivial⟩, h93⟩; simp only [Act.put, List.setIfInBounds_toArray, List.set_cons_zero, List.set_cons_succ]
          simp only [Act.put, List.setIfInBounds_toArray, List.set_cons_zero, List.set_cons_succ]; (try simp only [List.nil_append]); (try simp only [List.cons_append]); (try simp only [id])
          repeat (refine' Reg.pass_is _ (by rfl) (fun wz => ?_) ?_; rotate_left; (go_simp; first | rfl | rw [if_neg (by omega)]); simp only [Act.put, List.setIfInBounds_toArray, List.set_cons_zero, List.set_cons_succ]; (try simp only [List.nil_append]); (try simp only [List.cons_append]))
          refine Reg.pass_minor (by rfl) (fun wz hI hF => ?_) (fun x6 => ?_)
          · unfold Reg.One
            have hnx := Version_any (hP3.kept hI) hpos3
            go_wp2_with (go_at_call 11; go_must (refine hnx.mono ?_); rintro e w9 ⟨rfl, rfl⟩)
            refine ⟨.int .i64 ver, ?_, ⟨(), rfl, trivial⟩, Reg.Ext.refl _⟩; simp only [Act.put, List.setIfInBounds_toArray, List.set_cons_zero, List.set_cons_succ]
          simp only [Act.put, List.setIfInBounds_toArray, List.set_cons_zero, List.set_cons_succ]; (try simp only [List.nil_append]); (try simp only [List.cons_append]); (try simp only [id])
          repeat (refine' Reg.pass_is _ (by rfl) (fun wz => ?_) ?_; rotate_left; (go_simp; first | rfl | rw [if_neg (by omega)]); simp only [Act.put, List.setIfInBounds_toArray, List.set_cons_zero, List.set_cons_succ]; (try simp only [List.nil_append]); (try simp only [List.cons_append]))
          refine Reg.pass_minor (by rfl) (fun wz hI hF => ?_) (fun x10 => ?_)
          · unfold Reg.One
            obtain ⟨ao9, c9, Q9⟩ := (hQ3.kept hI).facts
            have d9 := Q9.c3
            clear Q9
            go_wp2_with fail
            refine ⟨.int .i64 ver, ?_, ⟨(), rfl, trivial⟩, Reg.Ext.refl _⟩; simp only [Act.put, List.setIfInBounds_toArray, List.set_cons_zero, List.set_cons_succ]
          simp only [Act.put, List.setIfInBounds_toArray, List.set_cons_zero, List.set_cons_succ]; (try simp only [List.nil_append]); (try simp only [List.cons_append]); (try simp only [id])
          refine Reg.pass_end ?_
          intro w8 HI3 _ HF3
          clear HF3 hP3 hQ3 hwas3
          have hb8 := hbw3.trans (HI3.mono hbw3.size)
          have v1 : (ver == ver) = true := by simp
          dsimp only [List.drop]
          go_wp2_with (go_at_call 8; go_must (refine (awake_any _).mono ?_); rintro e w5 ⟨rfl, hb5⟩)
          go_ret
          exact ⟨rfl, hb8.trans (hb5.mono hb8.size)⟩

end Go.Proofs.Ytnfnkojcoeonnaa
