/-
  Own walks: the statement on whatever is reserved, released, added and passed.
-/
import Derived.Test.YtnfnkojcoeonnaaLwD
namespace Go.Proofs.Ytnfnkojcoeonnaa
open Go.RowKit Go.Sort Go.Lib

/-- The states of the statement that makes a call of both and compares them. -/
def SPl (w wr : World) (p q k : Nat) (F now1 ver1 : Int) (f1 : Int → Int) : List Value → World → Prop
  | [], W => Below wr.heap.size wr W
  | _ :: [], W => ∃ (g' : Nat) (L' : List (Int × Int)) (E' : List Sp), XS w.heap.size W p g' q (k + 1) L' now1 F E' ver1 ∧ ∀ t, now1 ≤ t → raw F E' t = f1 t
  | _ :: v :: _, W => ∃ (g' : Nat) (L' : List (Int × Int)) (E' : List Sp), (XS w.heap.size W p g' q (k + 1) L' now1 F E' ver1 ∧ ∀ t, now1 ≤ t → raw F E' t = f1 t) ∧
      ∃ g c, v = .slice (some ⟨g, 0, none⟩) L'.length c ∧ W.ownsRow 0 59 2 (.slice (some ⟨g, 0, none⟩) L'.length c) L'.length (prV L')
theorem SPl.ext {w wr : World} {p q k : Nat} {F now1 ver1 : Int} {f1 : Int → Int} : ∀ (vs : List Value) (W W' : World), Reg.Ext W W' → SPl w wr p q k F now1 ver1 f1 vs W → SPl w wr p q k F now1 ver1 f1 vs W' := by
  intro vs W W' he h
  rcases vs with _ | ⟨v, vs⟩
  · exact Below.trans h (he.mono (Below.size h))
  · rcases vs with _ | ⟨v2, vs⟩
    · obtain ⟨g', L', E', h1, h2⟩ := h
      exact ⟨g', L', E', h1.kept he, h2⟩
    · obtain ⟨g', L', E', ⟨h1, h2⟩, g, c, h3, h4⟩ := h
      exact ⟨g', L', E', ⟨h1.kept he, h2⟩, g, c, h3, own_kept h4 he⟩

set_option maxRecDepth 100000 in
set_option maxHeartbeats 4000000 in
theorem walkPlays (fr : Int) (v : Value) (l : List Cl) (w : World) (_hfr : -9223372036854775808 ≤ fr ∧ fr ≤ 9223372036854775807) (hr : RowAt enc4 4 w v l) :
    Calls Try.prog 3 #[.int .i64 fr, v] w fun e w' => e = .returned (.bool true) ∧ Below w.heap.size w w' := by
  have hmix := mixed
  by_cases hbad : fr < 0 ∨ 64 < fr
  · have hm := New_bad fr w hbad
    clear hr
    by_cases h1 : fr < 0
    · have d1 : decide (fr < 0) = true := decide_eq_true h1
      go_enter Try.func3, Try.ntmps3
      go_wp2_with (first | (go_at_call 7; go_must (refine hm.mono ?_); rintro e w' ⟨rfl, rfl⟩) | (go_at_call 8; go_must (refine (awake_any _).mono ?_); rintro e w5 ⟨rfl, hb5⟩))
      go_ret
      exact ⟨rfl, hb5⟩
    · have h2 : 64 < fr := by omega
      have d1 : decide (fr < 0) = false := decide_eq_false h1
      have d2 : decide (64 < fr) = true := decide_eq_true h2
      clear hbad
      go_enter Try.func3, Try.ntmps3
      go_wp2_with (first | (go_at_call 7; go_must (refine hm.mono ?_); rintro e w' ⟨rfl, rfl⟩) | (go_at_call 8; go_must (refine (awake_any _).mono ?_); rintro e w5 ⟨rfl, hb5⟩))
      go_ret
      exact ⟨rfl, hb5⟩
  · have h : 0 ≤ fr ∧ fr ≤ 64 := by omega
    have hnw := New_any fr w h
    have h1 : ¬ (fr < 0) := by omega
    have h2 : ¬ (64 < fr) := by omega
    have d1 : decide (fr < 0) = false := decide_eq_false h1
    have d2 : decide (64 < fr) = false := decide_eq_false h2
    clear hbad
    obtain ⟨ao, cap, rfl, hlc, hcm, hcells⟩ := hr
    have hlm : l.length ≤ 9223372036854775807 := by unfold maxLen at hcm; omega
    clear hcm
    go_enter Try.func3, Try.ntmps3
    go_wp2_with fail
    go_at_call 7
    refine hnw.mono ?_
    clear hnw
    rintro e w1 ⟨p, g, rfl, hP, hp, hg, hb1⟩
    have hsz1 := hb1.size
    have hal : Below w1.heap.size w1 (w1.alloc (.cells #[.int .i64 fr, .int .i64 0, .slice none 0 0, .int .i64 0] 31)) := (Below.refl _ _).alloc (Nat.le_refl _) _
    have hX0 : XS w.heap.size (w1.alloc (.cells #[.int .i64 fr, .int .i64 0, .slice none 0 0, .int .i64 0] 31)) p g w1.heap.size 0 [(0, fr)] 0 fr [] 0 := XS_new h (hP.kept hal) hp hg hsz1 (heap_alloc_new w1 _)
    have hb2 : Below w.heap.size w (w1.alloc (.cells #[.int .i64 fr, .int .i64 0, .slice none 0 0, .int .i64 0] 31)) := hb1.trans (hal.mono hsz1)
    obtain ⟨q, hq⟩ : ∃ q, q = w1.heap.size := ⟨_, rfl⟩
    obtain ⟨w2, hw2⟩ : ∃ w2, w2 = (w1.alloc (.cells #[.int .i64 fr, .int .i64 0, .slice none 0 0, .int .i64 0] 31)) := ⟨_, rfl⟩
    clear hP hal hb1 hsz1
    go_wp2_with fail
    rw [← hw2, ← hq] at hX0
    rw [← hw2] at hb2
    rw [← hw2, ← hq]
    replace hw2 := Lib.hid hw2
    replace hq := Lib.hid hq
    clear h hp hg
    go_loopw [8] (fun ii wr => ∃ (k g : Nat) (L : List (Int × Int)) (now : Int) (E : List Sp) (ver : Int), k ≤ l.length ∧ k ≤ 30 ∧ ii = .int .i64 k ∧ XS w.heap.size wr p g q k L now fr E ver ∧ Below w.heap.size w wr) (fun ii _ => 30 - (intOf ii).toNat)
    case atStart => exact ⟨0, g, _, _, _, _, Nat.zero_le _, Nat.zero_le _, rfl, hX0, hb2⟩
    case round =>
      obtain ⟨k, g3, L, now, E, ver, hkl, hk30, rfl, hX, hb⟩ := hrel
      clear hX0 hb2
      by_cases hlt : k < l.length
      · have e1 : decide ((k : Int) < (l.length : Int)) = true := decide_eq_true (by omega)
        by_cases hlt3 : k < 30
        · have e2 : decide ((k : Int) < 30) = true := decide_eq_true (by omega)
          obtain ⟨b, off, rfl, hbw, hcell⟩ := hcells (by omega)
          obtain ⟨s, hs⟩ : ∃ s, l[k]? = some s := ⟨_, List.getElem?_eq_getElem hlt⟩
          obtain ⟨c0, c1, c2, c3⟩ := call_cells hcell hs
          obtain ⟨sk, sa, sb, sn⟩ := s
          dsimp only at c0 c1 c2 c3
          obtain ⟨now1, f1, ver1, hCR⟩ := CallR.total sk sa sb sn now (raw fr E) ver
          have hw3 : IntKind.i64.wrap ((k : Int) + 1) = (k : Int) + 1 := IntWalk.i64_in _ (by omega)
          have b1 : (0 : Int) ≤ k := by omega
          have b2 : (k : Int) < (l.length : Int) := by omega
          have hdone : Hid (∀ (W W' : World) (e : Ending), Below wr.heap.size wr W → StepPost w.heap.size W p q k fr sk sa sb sn now (raw fr E) ver e W' → e = .returned (.bool true) ∧ SPl w wr p q k fr now1 ver1 f1 [.bool true] W' ∧ Below w.heap.size W W') := by
            intro W W' e hW hSt
            obtain ⟨g5, L5, now5, E5, ver5, he, hX5, hC5, hb5⟩ := hSt
            obtain ⟨e3, e4, e5⟩ := hC5.uniq hCR
            have hge : now ≤ now1 := by
              rcases hCR with ⟨_, _, e6, _⟩ | ⟨_, _, e6, _⟩ | ⟨_, _, e6, _⟩ | ⟨_, e6, _⟩ | ⟨_, _, r6, d6, e6, _⟩
              · omega
              · omega
              · omega
              · omega
              · unfold AdvR at e6; omega
            subst e3; subst e4
            exact ⟨he, ⟨g5, L5, E5, hX5, fun t ht => e5 t (by omega)⟩, hb5⟩
          clear hcell hcells hs hCR
          have n1 : (now1 != now1) = false := by simp
          have v1 : (ver1 != ver1) = false := by simp
          go_wp2_with fail
          refine Reg.region_mk 30 83 [[], [false], [false, false], [false, false, false], [false, false, true, true], [false, false, true, true, true], [true, true, true, true, true, true], [true, true, true, true, true, true, true], [true, true, true, true, true, true, true, true], [true, true, true, true, true, true, true, true, true], [true, true, true, true, true, true, true, true, true, true], [true, true, true, true, true, true, true, true, true, false, false], [true, true, true, true, true, true, true, true, true, false, false, true], [true, true, true, true, true, true, true, true, true, false, false, true, true], [true, true, true, true, true, true, true, true, true, false, false, true, true, true], [true, true, true, true, true, true, true, true, true, true, true, true, true, true, true], [true, true, true, true, true, true, true, true, true, true, true, true, true, true, true, true], [true, true, true, true, true, true, true, true, true, true, true, true, true, true, true, true, true], [true, true, true, true, true, true, true, true, true, true, true, true, true, true, true, true, true, true], [true, true, true, true, true, true, true, true, true, true, true, true, true, true, true, true, true, true, true], [true, true, true, true, true, true, true, true, true, true, true, true, true, true, true, true, true, true, false, false], [true, true, true, true, true, true, true, true, true, true, true, true, true, true, true, true, true, true, false, false, true], [true, true, true, true, true, true, true, true, true, true, true, true, true, true, true, true, true, true, false, false, true, true], [true, true, true, true, true, true, true, true, true, true, true, true, true, true, true, true, true, true, false, false, true, true, true], [true, true, true, true, true, true, true, true, true, true, true, true, true, true, true, true, true, true, true, true, true, true, true, true], [true, true, true, true, true, true, true, true, true, true, true, true, true, true, true, true, true, true, true, true, true, true, true, true, true], [true, true, true, true, true, true, true, true, true, true, true, true, true, true, true, true, true, true, true, true, true, true, true, true, true, true], [true, true, true, true, true, true, true, true, true, true, true, true, true, true, true, true, true, true, true, true, true, true, true, true, true, true, true], [true, true, true, true, true, true, true, true, true, true, true, true, true, true, true, true, true, true, true, true, true, true, true, true, true, true, true, true], [true, true, true, true, true, true, true, true, true, true, true, true, true, true, true, true, true, true, true, true, true, true, true, true, true, true, true, false, false]] [0, 0, 0, 0, 0, 1, 3, 0, 0, 0, 2, 0, 0, 0, 2, 0, 0, 0, 0, 2, 0, 0, 0, 2, 0, 0, 0, 0, 3, 0]
            [.pure, .pure, .pure, .pure, .pure, .minor Unit () (fun _ => .agg #[.int .i64 sk, .int .i64 sa, .int .i64 sb, .int .i64 sn]) (fun _ _ => True), .major Unit () (fun _ => .bool true), .pure, .pure, .pure, .pinned Unit () (fun _ => .int .i64 now1) (fun _ _ => True), .pure, .pure, .pure, .pinned Unit () (fun _ => .int .i64 now1) (fun _ _ => True), .pure, .pure, .pure, .pure, .pinned Unit () (fun _ => .int .i64 ver1) (fun _ _ => True), .pure, .pure, .pure, .pinned Unit () (fun _ => .int .i64 ver1) (fun _ _ => True), .pure, .pure, .pure, .pure, .major (Nat × Nat × Nat) (0, 0, 0) (fun x => .slice (some ⟨x.1, 0, none⟩) x.2.1 x.2.2), .pure]
            (fun W => Below w.heap.size w W) (SPl w wr p q k fr now1 ver1 f1) (fun W W' => Below w.heap.size W W') (by kernel_rfl) (by kernel_rfl) rfl rfl SPl.ext ?_ ?_ ?_ ?_ ?_ ?_
          · intro x y he hb; exact hb.trans (he.mono hb.size)
          · intro x y hg hb; exact hb.trans hg
          · refine ⟨trivial, trivial, trivial, trivial, trivial, ⟨?_, ?_⟩, trivial, trivial, trivial, trivial, ⟨?_, ?_⟩, trivial, trivial, trivial, ⟨?_, ?_⟩, trivial, trivial, trivial, trivial, ⟨?_, ?_⟩, trivial, trivial, trivial, ⟨?_, ?_⟩, trivial, trivial, trivial, trivial, trivial, trivial, trivial⟩
            all_goals (intro x y z hk hx; exact trivial)
          · exact hb.drew
          · exact (Below.refl _ _).drew
          dsimp only [Reg.mk, List.zip, List.zipWith, List.take]
          repeat (refine' Reg.pass_is _ (by rfl) (fun wz => ?_) ?_; rotate_left; (go_simp; first | rfl | rw [if_neg (by omega)]); simp only [Act.put, List.setIfInBounds_toArray, List.set_cons_zero, List.set_cons_succ]; (try simp only [List.nil_append]); (try simp only [List.cons_append]))
          refine Reg.pass_minor (by rfl) (fun wz hI hF => ?_) (fun x5 => ?_)
          · unfold Reg.One
            have a0 := (hI.cell (p := ⟨b, _, none⟩) hbw).trans c0
            have a1 := (hI.cell (p := ⟨b, _, none⟩) hbw).trans c1
            have a2 := (hI.cell (p := ⟨b, _, none⟩) hbw).trans c2
            have a3 := (hI.cell (p := ⟨b, _, none⟩) hbw).trans c3
            go_wp2_with fail
            exact ⟨_, rfl, ⟨(), rfl, trivial⟩, Reg.Ext.refl _⟩
          simp only [Act.put, List.setIfInBounds_toArray, List.set_cons_zero, List.set_cons_succ]; (try simp only [List.nil_append]); (try simp only [List.cons_append]); (try simp only [id])
          refine Reg.pass_major (by rfl) (fun wz hI hS hF => ?_) (fun x6 => ?_)
          · unfold Reg.One
            have hS1 : Below wr.heap.size wr wz := hS
            have hstp := step_any sk sa sb sn hlt3 (hX.kept hS1)
            have hd := hdone.out wz
            go_wp2_with (go_at_call 9; go_must (refine hstp.mono ?_); intro e w9 hsp; obtain ⟨he9, hs9, hb9⟩ := hd w9 e hS1 hsp; subst he9)
            exact ⟨_, rfl, ⟨⟨(), rfl⟩, hs9⟩, hb9⟩
          simp only [Act.put, List.setIfInBounds_toArray, List.set_cons_zero, List.set_cons_succ]; (try simp only [List.nil_append]); (try simp only [List.cons_append]); (try simp only [id])
          repeat (refine' Reg.pass_is _ (by rfl) (fun wz => ?_) ?_; rotate_left; (go_simp; first | rfl | rw [if_neg (by omega)]); simp only [Act.put, List.setIfInBounds_toArray, List.set_cons_zero, List.set_cons_succ]; (try simp only [List.nil_append]); (try simp only [List.cons_append]))
          refine Reg.pass_pinned (by rfl) (fun wz hI hS hF => ?_) (fun x10 => ?_)
          · unfold Reg.One
            obtain ⟨g9, L9, E9, hx9, hf9⟩ := (show SPl w wr p q k fr now1 ver1 f1 [.bool true] wz from hS)
            have hnx := Now_any hx9.x hx9.can.sm.pos
            rw [hx9.can.sm.hd] at hnx
            clear hx9 hf9
            go_wp2_with (go_at_call 10; go_must (refine hnx.mono ?_); rintro e w9 ⟨rfl, rfl⟩)
            exact ⟨_, rfl, ⟨(), rfl, trivial⟩, Reg.Ext.refl _⟩
          simp only [Act.put, List.setIfInBounds_toArray, List.set_cons_zero, List.set_cons_succ]; (try simp only [List.nil_append]); (try simp only [List.cons_append]); (try simp only [id])
          repeat (refine' Reg.pass_is _ (by rfl) (fun wz => ?_) ?_; rotate_left; (go_simp; first | rfl | rw [if_neg (by omega)]); simp only [Act.put, List.setIfInBounds_toArray, List.set_cons_zero, List.set_cons_succ]; (try simp only [List.nil_append]); (try simp only [List.cons_append]))
          refine Reg.pass_pinned (by rfl) (fun wz hI hS hF => ?_) (fun x14 => ?_)
          · unfold Reg.One
            obtain ⟨g9, L9, E9, hx9, hf9⟩ := (show SPl w wr p q k fr now1 ver1 f1 [.bool true] wz from hS)
            obtain ⟨ao9, cp9, Q9⟩ := hx9.y.facts
            have d9 := Q9.c1
            clear Q9 hx9 hf9
            go_wp2_with fail
            exact ⟨_, rfl, ⟨(), rfl, trivial⟩, Reg.Ext.refl _⟩
          simp only [Act.put, List.setIfInBounds_toArray, List.set_cons_zero, List.set_cons_succ]; (try simp only [List.nil_append]); (try simp only [List.cons_append]); (try simp only [id])
          repeat (refine' Reg.pass_is _ (by rfl) (fun wz => ?_) ?_; rotate_left; (go_simp; first | rfl | rw [if_neg (by omega)]); simp only [Act.put, List.setIfInBounds_toArray, List.set_cons_zero, List.set_cons_succ]; (try simp only [List.nil_append]); (try simp only [List.cons_append]))
          refine Reg.pass_pinned (by rfl) (fun wz hI hS hF => ?_) (fun x19 => ?_)
          · unfold Reg.One
            obtain ⟨g9, L9, E9, hx9, hf9⟩ := (show SPl w wr p q k fr now1 ver1 f1 [.bool true] wz from hS)
            have hnx := Version_any hx9.x hx9.can.sm.pos
            clear hx9 hf9
            go_wp2_with (go_at_call 11; go_must (refine hnx.mono ?_); rintro e w9 ⟨rfl, rfl⟩)
            exact ⟨_, rfl, ⟨(), rfl, trivial⟩, Reg.Ext.refl _⟩
          simp only [Act.put, List.setIfInBounds_toArray, List.set_cons_zero, List.set_cons_succ]; (try simp only [List.nil_append]); (try simp only [List.cons_append]); (try simp only [id])
          repeat (refine' Reg.pass_is _ (by rfl) (fun wz => ?_) ?_; rotate_left; (go_simp; first | rfl | rw [if_neg (by omega)]); simp only [Act.put, List.setIfInBounds_toArray, List.set_cons_zero, List.set_cons_succ]; (try simp only [List.nil_append]); (try simp only [List.cons_append]))
          refine Reg.pass_pinned (by rfl) (fun wz hI hS hF => ?_) (fun x23 => ?_)
          · unfold Reg.One
            obtain ⟨g9, L9, E9, hx9, hf9⟩ := (show SPl w wr p q k fr now1 ver1 f1 [.bool true] wz from hS)
            obtain ⟨ao9, cp9, Q9⟩ := hx9.y.facts
            have d9 := Q9.c3
            clear Q9 hx9 hf9
            go_wp2_with fail
            exact ⟨_, rfl, ⟨(), rfl, trivial⟩, Reg.Ext.refl _⟩
          simp only [Act.put, List.setIfInBounds_toArray, List.set_cons_zero, List.set_cons_succ]; (try simp only [List.nil_append]); (try simp only [List.cons_append]); (try simp only [id])
          repeat (refine' Reg.pass_is _ (by rfl) (fun wz => ?_) ?_; rotate_left; (go_simp; first | rfl | rw [if_neg (by omega)]); simp only [Act.put, List.setIfInBounds_toArray, List.set_cons_zero, List.set_cons_succ]; (try simp only [List.nil_append]); (try simp only [List.cons_append]))
          refine Reg.pass_major (by rfl) (fun wz hI hS hF => ?_) (fun x28 => ?_)
          · unfold Reg.One
            obtain ⟨g9, L9, E9, hx9, hf9⟩ := (show SPl w wr p q k fr now1 ver1 f1 [.bool true] wz from hS)
            have hst := Steps_any hx9.x hx9.can.sm.pos (by have := hx9.ll; omega)
            go_wp2_with (go_at_call 13; go_must (refine hst.mono ?_); rintro e w9 ⟨gs, cs, rfl, h91, h92, h93⟩)
            exact ⟨_, rfl, ⟨⟨(gs, L9.length, cs), rfl⟩, ⟨g9, L9, E9, ⟨hx9.kept h93, hf9⟩, gs, cs, rfl, h92⟩⟩, h93.mono (by have := hI.size; omega)⟩
          simp only [Act.put, List.setIfInBounds_toArray, List.set_cons_zero, List.set_cons_succ]; (try simp only [List.nil_append]); (try simp only [List.cons_append]); (try simp only [id])
          repeat (refine' Reg.pass_is _ (by rfl) (fun wz => ?_) ?_; rotate_left; (go_simp; first | rfl | rw [if_neg (by omega)]); simp only [Act.put, List.setIfInBounds_toArray, List.set_cons_zero, List.set_cons_succ]; (try simp only [List.nil_append]); (try simp only [List.cons_append]))
          refine Reg.pass_end ?_
          intro w3 HI3 HS3 _
          obtain ⟨gs, nn, cs⟩ := x28
          obtain ⟨g9, L9, E9, ⟨hx9, hf9⟩, gs2, cs2, hse, hso⟩ := (show SPl w wr p q k fr now1 ver1 f1 [.bool true, .slice (some ⟨gs, 0, none⟩) nn cs] w3 from HS3)
          injection hse with hse1 hse2 hse3
          injection hse1 with hse1
          injection hse1 with hse1
          subst hse1; subst hse2; subst hse3
          have hps := PSteps_any hx9.y hx9.ok (by have := hx9.el; omega) hx9.F (by have := hx9.now; omega)
          clear HS3 hX
          have hl9 : L9.length ≤ 1000 := by have := hx9.ll; omega
          dsimp only [List.drop]
          go_wp2_with fail
          go_at_call 14
          refine hps.mono ?_
          clear hps
          rintro e w6 ⟨g6, c6, L6, rfl, ho6, hC6, hb6⟩
          obtain rfl : L6 = L9 := hC6.uniq hx9.can (fun _ _ => rfl)
          have hsm := same_any (own_kept hso hb6) (ownsRow_mono ho6 (Nat.zero_le _)) hl9
          have hbw6 := HI3.trans (hb6.mono HI3.size)
          have hx6 := hx9.kept hb6
          clear hso ho6 hx9 hC6 hf9
          go_wp2_with fail
          go_at_call 12
          refine hsm.mono ?_
          clear hsm
          rintro e w7 ⟨rfl, hb7⟩
          have hx7 := hx6.kept hb7
          have hbw7 := hbw6.trans (hb7.mono hbw6.size)
          clear hx6
          go_wp2_with fail
          go_roundw
          case rel => exact ⟨k + 1, g9, L6, now1, E9, ver1, by omega, by omega, by go_num, hx7, hbw7⟩
          case measure => simp [intOf]; omega
        · have e2 : decide ((k : Int) < 30) = false := decide_eq_false (by omega)
          clear hX hcells
          go_wp2_with (go_at_call 8; go_must (refine (awake_any _).mono ?_); rintro e w5 ⟨rfl, hb5⟩)
          go_ret
          exact ⟨rfl, hb.trans (hb5.mono hb.size)⟩
      · have e1 : decide ((k : Int) < (l.length : Int)) = false := decide_eq_false (by omega)
        clear hX hcells
        go_wp2_with (go_at_call 8; go_must (refine (awake_any _).mono ?_); rintro e w5 ⟨rfl, hb5⟩)
        go_ret
        exact ⟨rfl, hb.trans (hb5.mono hb.size)⟩

end Go.Proofs.Ytnfnkojcoeonnaa
