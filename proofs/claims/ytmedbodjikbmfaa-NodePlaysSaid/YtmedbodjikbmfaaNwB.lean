/-
  Own walks: one call of both tables, by Claim, Drain and Resume; any call.
-/
import Derived.Test.YtmedbodjikbmfaaNwA
namespace Go.Proofs.Ytmedbodjikbmfaa
open Go.RowKit Go.Lib Go.Sort

theorem mixed : Try.prog.follows .mixedOrders = true := by kernel_rfl

section
variable {B : Nat} {w w' : World} {p q h : Nat} {l : List Int}

set_option maxRecDepth 100000 in
set_option maxHeartbeats 4000000 in
theorem step_claim (n : Int) (u : Nat) (hu : u < 18446744073709551616) (s : BS B w p q h l) :
    Calls Try.prog 9 #[.pointer (some ⟨p, 0, none⟩), .pointer (some ⟨q, 0, none⟩), .agg #[.int .i64 2, .int .i64 n, .int .u64 u]] w (StepPost B w p q h l) := by
  have hmix := mixed
  have hb1 : Below w.heap.size w (w.alloc (.cells #[.int .i64 2, .int .i64 n, .int .u64 u] 36)) := (Below.refl _ _).alloc (Nat.le_refl _) _
  have ho1 : OpAt (w.alloc (.cells #[.int .i64 2, .int .i64 n, .int .u64 u] 36)) w.heap.size 2 n u := heap_alloc_new w _
  have h1 := s.kept hb1
  have hsz := s.size
  obtain ⟨w1, hw1⟩ : ∃ w1, w1 = (w.alloc (.cells #[.int .i64 2, .int .i64 n, .int .u64 u] 36)) := ⟨_, rfl⟩
  go_enter Try.func9, Try.ntmps9
  go_wp2_with fail
  rw [← hw1] at hb1 ho1 h1 ⊢
  clear s hw1
  refine Reg.region_mk 7 98 [[], [false], [false, true], [true, true, true], [false, false, false, false], [false, false, false, false, false], [false, false, false, false, false, true]] [0, 0, 1, 3, 0, 0, 1]
    [.pure, .pure, .minor Unit () (fun _ => .int .u64 u) (fun _ _ => True), .major Int 0 (fun r => .int .i64 r), .pure, .pure, .minor Unit () (fun _ => .int .u64 u) (fun _ _ => True)]
    (fun W => OpAt W w.heap.size 2 n u) (SS w1 p l (fun v l2 => ∃ r, v = .int .i64 r ∧ ClaimR l u r l2)) (fun W W' => OffB p W W' ∧ TW W p l) (by kernel_rfl) (by kernel_rfl) rfl rfl SS.ext ?_ ?_ ?_ ?_ ?_ ?_
  · intro x y he hb; exact OpAt.kept hb he
  · intro x y hg hb; exact OpAt.off hb hg.2 hg.1
  · refine ⟨trivial, trivial, ⟨?_, ?_⟩, trivial, trivial, trivial, ⟨?_, ?_⟩, trivial⟩
    all_goals (intro x y z hk hx; exact trivial)
  · exact ho1
  · exact (Below.refl _ _).drew
  dsimp only [Reg.mk, List.zip, List.zipWith, List.take]
  repeat (refine' Reg.pass_is _ (by rfl) (fun wz => ?_) ?_; rotate_left; (go_simp; first | rfl | rw [if_neg (by omega)]); simp only [Act.put, List.setIfInBounds_toArray, List.set_cons_zero, List.set_cons_succ]; (try simp only [List.nil_append]); (try simp only [List.cons_append]))
  refine Reg.pass_minor (by rfl) (fun wz hI hF => ?_) (fun x2 => ?_)
  · unfold Reg.One
    obtain ⟨r0, r1, r2⟩ := OpAt.cells (show OpAt wz w.heap.size 2 n u from hI)
    go_wp2_with fail
    exact ⟨_, rfl, ⟨(), rfl, trivial⟩, Reg.Ext.refl _⟩
  simp only [Act.put, List.setIfInBounds_toArray, List.set_cons_zero, List.set_cons_succ]; (try simp only [List.nil_append]); (try simp only [List.cons_append]); (try simp only [id])
  refine Reg.pass_major (by rfl) (fun wz hI hS hF => ?_) (fun x3 => ?_)
  · unfold Reg.One
    have hS1 : Below w1.heap.size w1 wz := hS
    have hx : TW wz p l := T3.kept h1.x hS1
    go_wp2_with (go_at_call 20; go_must (refine (Claim_any u hu hx h1.ok).mono ?_); rintro e w5 ⟨hO5, x5, l5, rfl, hR5, hT5, hk5, hl5⟩)
    exact ⟨_, rfl, ⟨⟨x5, rfl⟩, (OffG.of_below hS1).trans (OffG.of_off hO5), l5, ⟨x5, rfl, hR5⟩, hT5, hk5, hl5⟩, ⟨hO5, hx⟩⟩
  simp only [Act.put, List.setIfInBounds_toArray, List.set_cons_zero, List.set_cons_succ]; (try simp only [List.nil_append]); (try simp only [List.cons_append]); (try simp only [id])
  repeat (refine' Reg.pass_is _ (by rfl) (fun wz => ?_) ?_; rotate_left; (go_simp; first | rfl | rw [if_neg (by omega)]); simp only [Act.put, List.setIfInBounds_toArray, List.set_cons_zero, List.set_cons_succ]; (try simp only [List.nil_append]); (try simp only [List.cons_append]))
  refine Reg.pass_minor (by rfl) (fun wz hI hF => ?_) (fun x6 => ?_)
  · unfold Reg.One
    obtain ⟨r0, r1, r2⟩ := OpAt.cells (show OpAt wz w.heap.size 2 n u from hI)
    go_wp2_with fail
    exact ⟨_, rfl, ⟨(), rfl, trivial⟩, Reg.Ext.refl _⟩
  simp only [Act.put, List.setIfInBounds_toArray, List.set_cons_zero, List.set_cons_succ]; (try simp only [List.nil_append]); (try simp only [List.cons_append]); (try simp only [id])
  refine Reg.pass_end ?_
  intro w3 HI3 HS3 _
  obtain ⟨hO3, l3, ⟨r3, hr3, hR3⟩, hT3, hk3, hl3⟩ := HS3
  have hr3' : x3 = r3 := by injection hr3
  subst hr3'
  have hN3 := h1.y.offG hO3 h1.apart.1 h1.apart.2
  have hd := claim_any u hu hN3 h1.ok.few
  clear HI3 hr3
  dsimp only [List.drop]
  go_wp2_with fail
  go_at_call 25
  refine hd.mono ?_
  clear hd
  rintro e w6 ⟨hO6, x6, l6, rfl, hR6, hN6⟩
  obtain ⟨rfl, rfl⟩ := hR3.uniq hR6
  have hfin : Hid (StepPost B w p q h l (.returned (.bool true)) w6) := by
    obtain ⟨a1, a2⟩ := h1.both hsz hb1 hO3 hT3 hk3 (OffG.of_off hO6) hN6
    exact ⟨rfl, l3, a1, hl3, a2⟩
  have z1 : (x3 == x3) = true := by simp
  clear hb1 h1 hN3 hO3 hO6 hR3 hR6 hN6 hT3 hk3 hl3 ho1
  go_wp2_with fail
  go_ret
  exact hfin.out

set_option maxRecDepth 100000 in
set_option maxHeartbeats 4000000 in
theorem step_drain (n : Int) (u : Nat) (hn : -9223372036854775808 ≤ n ∧ n ≤ 9223372036854775807) (s : BS B w p q h l) :
    Calls Try.prog 9 #[.pointer (some ⟨p, 0, none⟩), .pointer (some ⟨q, 0, none⟩), .agg #[.int .i64 5, .int .i64 n, .int .u64 u]] w (StepPost B w p q h l) := by
  have hmix := mixed
  have hb1 : Below w.heap.size w (w.alloc (.cells #[.int .i64 5, .int .i64 n, .int .u64 u] 36)) := (Below.refl _ _).alloc (Nat.le_refl _) _
  have ho1 : OpAt (w.alloc (.cells #[.int .i64 5, .int .i64 n, .int .u64 u] 36)) w.heap.size 5 n u := heap_alloc_new w _
  have h1 := s.kept hb1
  have hsz := s.size
  obtain ⟨w1, hw1⟩ : ∃ w1, w1 = (w.alloc (.cells #[.int .i64 5, .int .i64 n, .int .u64 u] 36)) := ⟨_, rfl⟩
  go_enter Try.func9, Try.ntmps9
  go_wp2_with fail
  rw [← hw1] at hb1 ho1 h1 ⊢
  clear s hw1
  refine Reg.region_mk 7 98 [[], [false], [false, true], [true, true, true], [false, false, false, false], [false, false, false, false, false], [false, false, false, false, false, true]] [0, 0, 1, 3, 0, 0, 1]
    [.pure, .pure, .minor Unit () (fun _ => .int .i64 n) (fun _ _ => True), .major Int 0 (fun r => .int .i64 r), .pure, .pure, .minor Unit () (fun _ => .int .i64 n) (fun _ _ => True)]
    (fun W => OpAt W w.heap.size 5 n u) (SS w1 p l (fun v l2 => ∃ r, v = .int .i64 r ∧ TurnR l n true r l2)) (fun W W' => OffB p W W' ∧ TW W p l) (by kernel_rfl) (by kernel_rfl) rfl rfl SS.ext ?_ ?_ ?_ ?_ ?_ ?_
  · intro x y he hb; exact OpAt.kept hb he
  · intro x y hg hb; exact OpAt.off hb hg.2 hg.1
  · refine ⟨trivial, trivial, ⟨?_, ?_⟩, trivial, trivial, trivial, ⟨?_, ?_⟩, trivial⟩
    all_goals (intro x y z hk hx; exact trivial)
  · exact ho1
  · exact (Below.refl _ _).drew
  dsimp only [Reg.mk, List.zip, List.zipWith, List.take]
  repeat (refine' Reg.pass_is _ (by rfl) (fun wz => ?_) ?_; rotate_left; (go_simp; first | rfl | rw [if_neg (by omega)]); simp only [Act.put, List.setIfInBounds_toArray, List.set_cons_zero, List.set_cons_succ]; (try simp only [List.nil_append]); (try simp only [List.cons_append]))
  refine Reg.pass_minor (by rfl) (fun wz hI hF => ?_) (fun x2 => ?_)
  · unfold Reg.One
    obtain ⟨r0, r1, r2⟩ := OpAt.cells (show OpAt wz w.heap.size 5 n u from hI)
    go_wp2_with fail
    exact ⟨_, rfl, ⟨(), rfl, trivial⟩, Reg.Ext.refl _⟩
  simp only [Act.put, List.setIfInBounds_toArray, List.set_cons_zero, List.set_cons_succ]; (try simp only [List.nil_append]); (try simp only [List.cons_append]); (try simp only [id])
  refine Reg.pass_major (by rfl) (fun wz hI hS hF => ?_) (fun x3 => ?_)
  · unfold Reg.One
    have hS1 : Below w1.heap.size w1 wz := hS
    have hx : TW wz p l := T3.kept h1.x hS1
    go_wp2_with (go_at_call 11; go_must (refine (Drain_any n hn hx h1.ok).mono ?_); rintro e w5 ⟨hO5, x5, l5, rfl, hR5, hT5, hk5, hl5⟩)
    exact ⟨_, rfl, ⟨⟨x5, rfl⟩, (OffG.of_below hS1).trans (OffG.of_off hO5), l5, ⟨x5, rfl, hR5⟩, hT5, hk5, hl5⟩, ⟨hO5, hx⟩⟩
  simp only [Act.put, List.setIfInBounds_toArray, List.set_cons_zero, List.set_cons_succ]; (try simp only [List.nil_append]); (try simp only [List.cons_append]); (try simp only [id])
  repeat (refine' Reg.pass_is _ (by rfl) (fun wz => ?_) ?_; rotate_left; (go_simp; first | rfl | rw [if_neg (by omega)]); simp only [Act.put, List.setIfInBounds_toArray, List.set_cons_zero, List.set_cons_succ]; (try simp only [List.nil_append]); (try simp only [List.cons_append]))
  refine Reg.pass_minor (by rfl) (fun wz hI hF => ?_) (fun x6 => ?_)
  · unfold Reg.One
    obtain ⟨r0, r1, r2⟩ := OpAt.cells (show OpAt wz w.heap.size 5 n u from hI)
    go_wp2_with fail
    exact ⟨_, rfl, ⟨(), rfl, trivial⟩, Reg.Ext.refl _⟩
  simp only [Act.put, List.setIfInBounds_toArray, List.set_cons_zero, List.set_cons_succ]; (try simp only [List.nil_append]); (try simp only [List.cons_append]); (try simp only [id])
  refine Reg.pass_end ?_
  intro w3 HI3 HS3 _
  obtain ⟨hO3, l3, ⟨r3, hr3, hR3⟩, hT3, hk3, hl3⟩ := HS3
  have hr3' : x3 = r3 := by injection hr3
  subst hr3'
  have hN3 := h1.y.offG hO3 h1.apart.1 h1.apart.2
  have hd := turn_any n true hn hN3
  clear HI3 hr3
  dsimp only [List.drop]
  go_wp2_with fail
  go_at_call 27
  refine hd.mono ?_
  clear hd
  rintro e w6 ⟨hO6, x6, l6, rfl, hR6, hN6⟩
  obtain ⟨rfl, rfl⟩ := hR3.uniq hR6
  have hfin : Hid (StepPost B w p q h l (.returned (.bool true)) w6) := by
    obtain ⟨a1, a2⟩ := h1.both hsz hb1 hO3 hT3 hk3 (OffG.of_off hO6) hN6
    exact ⟨rfl, l3, a1, hl3, a2⟩
  have z1 : (x3 == x3) = true := by simp
  clear hb1 h1 hN3 hO3 hO6 hR3 hR6 hN6 hT3 hk3 hl3 ho1
  go_wp2_with fail
  go_ret
  exact hfin.out

set_option maxRecDepth 100000 in
set_option maxHeartbeats 4000000 in
theorem step_resume (kd : Int) (hkd : kd ≠ 0 ∧ kd ≠ 1 ∧ kd ≠ 2 ∧ kd ≠ 3 ∧ kd ≠ 4 ∧ kd ≠ 5) (n : Int) (u : Nat) (hn : -9223372036854775808 ≤ n ∧ n ≤ 9223372036854775807) (s : BS B w p q h l) :
    Calls Try.prog 9 #[.pointer (some ⟨p, 0, none⟩), .pointer (some ⟨q, 0, none⟩), .agg #[.int .i64 kd, .int .i64 n, .int .u64 u]] w (StepPost B w p q h l) := by
  have hmix := mixed
  have hb1 : Below w.heap.size w (w.alloc (.cells #[.int .i64 kd, .int .i64 n, .int .u64 u] 36)) := (Below.refl _ _).alloc (Nat.le_refl _) _
  have ho1 : OpAt (w.alloc (.cells #[.int .i64 kd, .int .i64 n, .int .u64 u] 36)) w.heap.size kd n u := heap_alloc_new w _
  have h1 := s.kept hb1
  have hsz := s.size
  have k0 : (kd == 0) = false := by simpa using hkd.1
  have k1 : (kd == 1) = false := by simpa using hkd.2.1
  have k2 : (kd == 2) = false := by simpa using hkd.2.2.1
  have k3 : (kd == 3) = false := by simpa using hkd.2.2.2.1
  have k4 : (kd == 4) = false := by simpa using hkd.2.2.2.2.1
  have k5 : (kd == 5) = false := by simpa using hkd.2.2.2.2.2
  clear hkd
  obtain ⟨w1, hw1⟩ : ∃ w1, w1 = (w.alloc (.cells #[.int .i64 kd, .int .i64 n, .int .u64 u] 36)) := ⟨_, rfl⟩
  go_enter Try.func9, Try.ntmps9
  go_wp2_with fail
  rw [← hw1] at hb1 ho1 h1 ⊢
  clear s hw1
  refine Reg.region_mk 7 98 [[], [false], [false, true], [true, true, true], [false, false, false, false], [false, false, false, false, false], [false, false, false, false, false, true]] [0, 0, 1, 3, 0, 0, 1]
    [.pure, .pure, .minor Unit () (fun _ => .int .i64 n) (fun _ _ => True), .major Int 0 (fun r => .int .i64 r), .pure, .pure, .minor Unit () (fun _ => .int .i64 n) (fun _ _ => True)]
    (fun W => OpAt W w.heap.size kd n u) (SS w1 p l (fun v l2 => ∃ r, v = .int .i64 r ∧ TurnR l n false r l2)) (fun W W' => OffB p W W' ∧ TW W p l) (by kernel_rfl) (by kernel_rfl) rfl rfl SS.ext ?_ ?_ ?_ ?_ ?_ ?_
  · intro x y he hb; exact OpAt.kept hb he
  · intro x y hg hb; exact OpAt.off hb hg.2 hg.1
  · refine ⟨trivial, trivial, ⟨?_, ?_⟩, trivial, trivial, trivial, ⟨?_, ?_⟩, trivial⟩
    all_goals (intro x y z hk hx; exact trivial)
  · exact ho1
  · exact (Below.refl _ _).drew
  dsimp only [Reg.mk, List.zip, List.zipWith, List.take]
  repeat (refine' Reg.pass_is _ (by rfl) (fun wz => ?_) ?_; rotate_left; (go_simp; first | rfl | rw [if_neg (by omega)]); simp only [Act.put, List.setIfInBounds_toArray, List.set_cons_zero, List.set_cons_succ]; (try simp only [List.nil_append]); (try simp only [List.cons_append]))
  refine Reg.pass_minor (by rfl) (fun wz hI hF => ?_) (fun x2 => ?_)
  · unfold Reg.One
    obtain ⟨r0, r1, r2⟩ := OpAt.cells (show OpAt wz w.heap.size kd n u from hI)
    go_wp2_with fail
    exact ⟨_, rfl, ⟨(), rfl, trivial⟩, Reg.Ext.refl _⟩
  simp only [Act.put, List.setIfInBounds_toArray, List.set_cons_zero, List.set_cons_succ]; (try simp only [List.nil_append]); (try simp only [List.cons_append]); (try simp only [id])
  refine Reg.pass_major (by rfl) (fun wz hI hS hF => ?_) (fun x3 => ?_)
  · unfold Reg.One
    have hS1 : Below w1.heap.size w1 wz := hS
    have hx : TW wz p l := T3.kept h1.x hS1
    go_wp2_with (go_at_call 12; go_must (refine (Resume_any n hn hx h1.ok).mono ?_); rintro e w5 ⟨hO5, x5, l5, rfl, hR5, hT5, hk5, hl5⟩)
    exact ⟨_, rfl, ⟨⟨x5, rfl⟩, (OffG.of_below hS1).trans (OffG.of_off hO5), l5, ⟨x5, rfl, hR5⟩, hT5, hk5, hl5⟩, ⟨hO5, hx⟩⟩
  simp only [Act.put, List.setIfInBounds_toArray, List.set_cons_zero, List.set_cons_succ]; (try simp only [List.nil_append]); (try simp only [List.cons_append]); (try simp only [id])
  repeat (refine' Reg.pass_is _ (by rfl) (fun wz => ?_) ?_; rotate_left; (go_simp; first | rfl | rw [if_neg (by omega)]); simp only [Act.put, List.setIfInBounds_toArray, List.set_cons_zero, List.set_cons_succ]; (try simp only [List.nil_append]); (try simp only [List.cons_append]))
  refine Reg.pass_minor (by rfl) (fun wz hI hF => ?_) (fun x6 => ?_)
  · unfold Reg.One
    obtain ⟨r0, r1, r2⟩ := OpAt.cells (show OpAt wz w.heap.size kd n u from hI)
    go_wp2_with fail
    exact ⟨_, rfl, ⟨(), rfl, trivial⟩, Reg.Ext.refl _⟩
  simp only [Act.put, List.setIfInBounds_toArray, List.set_cons_zero, List.set_cons_succ]; (try simp only [List.nil_append]); (try simp only [List.cons_append]); (try simp only [id])
  refine Reg.pass_end ?_
  intro w3 HI3 HS3 _
  obtain ⟨hO3, l3, ⟨r3, hr3, hR3⟩, hT3, hk3, hl3⟩ := HS3
  have hr3' : x3 = r3 := by injection hr3
  subst hr3'
  have hN3 := h1.y.offG hO3 h1.apart.1 h1.apart.2
  have hd := turn_any n false hn hN3
  clear HI3 hr3
  dsimp only [List.drop]
  go_wp2_with fail
  go_at_call 27
  refine hd.mono ?_
  clear hd
  rintro e w6 ⟨hO6, x6, l6, rfl, hR6, hN6⟩
  obtain ⟨rfl, rfl⟩ := hR3.uniq hR6
  have hfin : Hid (StepPost B w p q h l (.returned (.bool true)) w6) := by
    obtain ⟨a1, a2⟩ := h1.both hsz hb1 hO3 hT3 hk3 (OffG.of_off hO6) hN6
    exact ⟨rfl, l3, a1, hl3, a2⟩
  have z1 : (x3 == x3) = true := by simp
  clear hb1 h1 hN3 hO3 hO6 hR3 hR6 hN6 hT3 hk3 hl3 ho1
  go_wp2_with fail
  go_ret
  exact hfin.out

theorem step_any (kd n : Int) (u : Nat) (hn : -9223372036854775808 ≤ n ∧ n ≤ 9223372036854775807) (hu : u < 18446744073709551616) (s : BS B w p q h l) :
    Calls Try.prog 9 #[.pointer (some ⟨p, 0, none⟩), .pointer (some ⟨q, 0, none⟩), .agg #[.int .i64 kd, .int .i64 n, .int .u64 u]] w (StepPost B w p q h l) := by
  by_cases k0 : kd = 0
  · subst k0; exact step_take0 n u hn s
  · by_cases k1 : kd = 1
    · subst k1; exact step_take1 n u hn s
    · by_cases k2 : kd = 2
      · subst k2; exact step_claim n u hu s
      · by_cases k3 : kd = 3
        · subst k3; exact step_give3 n u hu s
        · by_cases k4 : kd = 4
          · subst k4; exact step_give4 n u hu s
          · by_cases k5 : kd = 5
            · subst k5; exact step_drain n u hn s
            · exact step_resume kd ⟨k0, k1, k2, k3, k4, k5⟩ n u hn s
end

end Go.Proofs.Ytmedbodjikbmfaa
