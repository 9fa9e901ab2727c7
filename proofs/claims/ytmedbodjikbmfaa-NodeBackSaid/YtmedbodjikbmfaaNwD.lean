/-
  Own walk: the comparison of both tables.
-/
import Derived.Test.YtmedbodjikbmfaaNwC
namespace Go.Proofs.Ytmedbodjikbmfaa
open Go.RowKit Go.Lib Go.Sort

section
variable {w : World} {p q h : Nat} {l : List Int}

set_option maxRecDepth 100000 in
set_option maxHeartbeats 8000000 in
theorem like_any (t : TW w p l) (y : NW w q h l) (k0 : Lok l) :
    Calls Try.prog 10 #[.pointer (some ⟨p, 0, none⟩), .pointer (some ⟨q, 0, none⟩)] w fun e w' => e = .returned (.bool true) ∧ Below w.heap.size w w' := by
  obtain ⟨i0, hi0, hz0, hz1, hz2⟩ := info_parts infoInt
  have hmix := mixed
  go_enter Try.func10, Try.ntmps10
  go_wp2_with fail
  go_loopw [6, 7, 8] (fun gi gu kk wr => ∃ (k : Nat), k ≤ l.length ∧ kk = .int .i64 k ∧ LS w w.heap.size (idleL l k) (useL l k) (cN l 1 k) (cN l 2 k) (cN l 3 k) (cN l 4 k) gi gu wr) (fun _ _ kk _ => 64 - (intOf kk).toNat)
  case atStart =>
    refine ⟨0, Nat.zero_le _, rfl, ?_⟩
    exact ⟨World.ownsRow_nil _ _ _ _, World.ownsRow_nil _ _ _ _, fun _ => rfl, fun _ => rfl, fun x hx => by simp [idleL] at hx, heap_alloc_new w _, (Below.refl _ _).alloc (Nat.le_refl _) _, Nat.le_refl _⟩
  case round =>
    obtain ⟨k, hk, rfl, hL⟩ := hrel
    have hy := NW_kept y hL.b
    have ht : TW wr p l := T3.kept t hL.b
    obtain ⟨cap, F⟩ := hy.facts
    have c0 := F.c0
    have hfew := k0.few
    by_cases hlt : k < l.length
    · have hst : ∀ n, Calls Try.prog 21 #[.pointer (some ⟨p, 0, none⟩), .int .i64 k] (wr.drewN n) fun e w' => e = .returned (.int .i64 (l.getD k 0)) ∧ ∃ m, w' = (wr.drewN n).drewN m := fun n => by
        have := State_any (w := wr.drewN n) (k : Int) (by omega) ht k0
        rw [stO_in hlt] at this
        exact this
      have cc := F.cell hlt
      have hxr := k0.st k hlt
      obtain ⟨x, hx⟩ : ∃ x, x = l.getD k 0 := ⟨_, rfl⟩
      rw [← hx] at hst cc hxr
      have hw2 : IntKind.i64.wrap ((k : Int) + 1) = (k : Int) + 1 := IntWalk.i64_in _ (by omega)
      have b1 : (0 : Int) ≤ k := by omega
      have b2 : (k : Int) < (l.length : Int) := by omega
      have n1 := cN_le l 1 k
      have n2 := cN_le l 2 k
      have n3 := cN_le l 3 k
      have n4 := cN_le l 4 k
      have m1 := idleL_few l k
      have m2 := useL_length l k
      have hnu : ((k : Int)) ∉ useL l k := fun hh => by obtain ⟨j, h1, h2, _⟩ := (useL_mem l k _).1 hh; omega
      have hni : ((k : Int)) ∉ idleL l k := fun hh => by obtain ⟨j, h1, h2, _⟩ := (idleL_mem l k _).1 hh; omega
      have nn : (x != x) = false := by simp
      clear F hk
      rcases (by omega : x = 1 ∨ x = 2 ∨ x = 3 ∨ x = 4) with e | e | e | e
      · subst e
        have e1 : cN l 1 (k + 1) = cN l 1 k + 1 := cN_yes hx.symm
        have e2 : cN l 2 (k + 1) = cN l 2 k := cN_no (by rw [← hx]; decide)
        have e3 : cN l 3 (k + 1) = cN l 3 k := cN_no (by rw [← hx]; decide)
        have e4 : cN l 4 (k + 1) = cN l 4 k := cN_no (by rw [← hx]; decide)
        have ei : idleL l (k + 1) = idleL l k ++ [(k : Int)] := idleL_yes hx.symm
        have eu : useL l (k + 1) = useL l k := useL_no (by unfold useB; rw [← hx]; rfl)
        replace e1 := Lib.hid e1
        replace e2 := Lib.hid e2
        replace e3 := Lib.hid e3
        replace e4 := Lib.hid e4
        replace ei := Lib.hid ei
        replace eu := Lib.hid eu
        replace hx := Lib.hid hx
        clear hxr
        go_wp2_with fail
        go_quiet ((go_at_call 21; exact Calls.quiet_of (hst _)))
        have hL5 := hL.drewN nq
        obtain ⟨w5, hw5⟩ : ∃ w5, w5 = wr.drewN nq := ⟨_, rfl⟩
        have c05 : w5.cell? ⟨q, 0, none⟩ = some (.slice (some ⟨h, 0, none⟩) l.length cap) := by rw [hw5]; exact c0
        have cc5 : w5.cell? ⟨h, k, none⟩ = some (.int .i64 1) := by rw [hw5]; exact cc
        have ht5 : TW w5 p l := by rw [hw5]; exact ht
        rw [← hw5] at hL5 ⊢
        clear hst c0 cc ht hy hw5 hL
        obtain ⟨a1, a2, a3, a4, fz⟩ := hL5.a.facts
        have hwc : IntKind.i64.wrap ((cN l 1 k : Int) + 1) = (cN l 1 k : Int) + 1 := IntWalk.i64_in _ (by omega)
        have fz1 := fz 1
        clear a2
        clear a3
        clear a4
        clear fz
        have hL6 : LS w w.heap.size (idleL l k) (useL l k) (cN l 1 (k + 1)) (cN l 2 (k + 1)) (cN l 3 (k + 1)) (cN l 4 (k + 1)) u6 u7 (w5.setCell ⟨w.heap.size, 1, none⟩ (.int .i64 ((cN l 1 k : Int) + 1))).drew := by
          rw [e1.out, e2.out, e3.out, e4.out]
          push_cast
          exact (hL5.store 1 _ rfl).drew
        have hy6 := NW_kept y hL6.b
        obtain ⟨cap6, F6⟩ := hy6.facts
        have c06 := F6.c0
        have cc6 := F6.cell hlt
        rw [← hx.out] at cc6
        obtain ⟨c, hc⟩ : ∃ c, c = cN l 1 k := ⟨_, rfl⟩
        rw [← hc] at hwc hL6 c06 cc6 a1
        replace hc := Lib.hid hc
        obtain ⟨w6, hw6⟩ : ∃ w6, w6 = (w5.setCell ⟨w.heap.size, 1, none⟩ (.int .i64 ((c : Int) + 1))).drew := ⟨_, rfl⟩
        rw [← hw6] at hL6 c06 cc6
        replace hL6 := Lib.hid hL6
        clear F6 hy6 hL5
        go_wp2_with fail
        go_region
        rw [← hw6]
        clear hw6 a1 fz1 c05 cc5 ht5 hwc hc
        go_wp2_with (at_builtin; go_must (refine wpList_append_own _ rfl (.tmp 58) (.tmp 60) 30 rfl w.heap.size 3 i0 (.int .i64 0) 1 8 Try.underlying30 hi0 hz0 hz1 hz2 rfl (by decide) u6 (idleL l k).length (nV (idleL l k)) rfl (hL6.out.i.alloc _) ⟨w6.heap.size, 0, none⟩ 1 1 [.int .i64 k] rfl rfl ?c0 ?c1 ?c2 ?c3 ?c4 ?c5))
        case c0 => exact cells_new rfl
        case c1 => simp [Value.oneCell']
        case c2 => unfold maxLen; omega
        case c3 => omega
        case c4 => have := hL6.out.b.size; simp; omega
        case c5 =>
          intro v6 w7 ho7 hg7 _
          have hL7 := hL6.out.app_i hnu ho7 hg7
          rw [← ei.out] at hL7
          replace hL7 := Lib.hid hL7
          have hy7 := NW_kept y hL7.out.b
          obtain ⟨cap7, F7⟩ := hy7.facts
          have c07 := F7.c0
          have cc7 := F7.cell hlt
          rw [← hx.out] at cc7
          clear F7 hy7 ho7 hg7 c06 cc6 hL6
          go_wp2_with fail
          go_roundw
          case rel => exact ⟨k + 1, by omega, by go_num, by rw [eu.out]; exact hL7.out⟩
          case measure => simp [intOf]; omega
      · subst e
        have e1 : cN l 1 (k + 1) = cN l 1 k := cN_no (by rw [← hx]; decide)
        have e2 : cN l 2 (k + 1) = cN l 2 k + 1 := cN_yes hx.symm
        have e3 : cN l 3 (k + 1) = cN l 3 k := cN_no (by rw [← hx]; decide)
        have e4 : cN l 4 (k + 1) = cN l 4 k := cN_no (by rw [← hx]; decide)
        have ei : idleL l (k + 1) = idleL l k := idleL_no (by rw [← hx]; decide)
        have eu : useL l (k + 1) = useL l k ++ [(k : Int)] := useL_yes (by unfold useB; rw [← hx]; rfl)
        replace e1 := Lib.hid e1
        replace e2 := Lib.hid e2
        replace e3 := Lib.hid e3
        replace e4 := Lib.hid e4
        replace ei := Lib.hid ei
        replace eu := Lib.hid eu
        replace hx := Lib.hid hx
        clear hxr
        go_wp2_with fail
        go_quiet ((go_at_call 21; exact Calls.quiet_of (hst _)))
        have hL5 := hL.drewN nq
        obtain ⟨w5, hw5⟩ : ∃ w5, w5 = wr.drewN nq := ⟨_, rfl⟩
        have c05 : w5.cell? ⟨q, 0, none⟩ = some (.slice (some ⟨h, 0, none⟩) l.length cap) := by rw [hw5]; exact c0
        have cc5 : w5.cell? ⟨h, k, none⟩ = some (.int .i64 2) := by rw [hw5]; exact cc
        have ht5 : TW w5 p l := by rw [hw5]; exact ht
        rw [← hw5] at hL5 ⊢
        clear hst c0 cc ht hy hw5 hL
        obtain ⟨a1, a2, a3, a4, fz⟩ := hL5.a.facts
        have hwc : IntKind.i64.wrap ((cN l 2 k : Int) + 1) = (cN l 2 k : Int) + 1 := IntWalk.i64_in _ (by omega)
        have fz1 := fz 2
        clear a1
        clear a3
        clear a4
        clear fz
        have hL6 : LS w w.heap.size (idleL l k) (useL l k) (cN l 1 (k + 1)) (cN l 2 (k + 1)) (cN l 3 (k + 1)) (cN l 4 (k + 1)) u6 u7 (w5.setCell ⟨w.heap.size, 2, none⟩ (.int .i64 ((cN l 2 k : Int) + 1))).drew := by
          rw [e1.out, e2.out, e3.out, e4.out]
          push_cast
          exact (hL5.store 2 _ rfl).drew
        have hy6 := NW_kept y hL6.b
        obtain ⟨cap6, F6⟩ := hy6.facts
        have c06 := F6.c0
        have cc6 := F6.cell hlt
        rw [← hx.out] at cc6
        obtain ⟨c, hc⟩ : ∃ c, c = cN l 2 k := ⟨_, rfl⟩
        rw [← hc] at hwc hL6 c06 cc6 a2
        replace hc := Lib.hid hc
        obtain ⟨w6, hw6⟩ : ∃ w6, w6 = (w5.setCell ⟨w.heap.size, 2, none⟩ (.int .i64 ((c : Int) + 1))).drew := ⟨_, rfl⟩
        rw [← hw6] at hL6 c06 cc6
        replace hL6 := Lib.hid hL6
        clear F6 hy6 hL5
        go_wp2_with fail
        go_region
        rw [← hw6]
        clear hw6 a2 fz1 c05 cc5 ht5 hwc hc
        go_wp2_with (at_builtin; go_must (refine wpList_append_own _ rfl (.tmp 80) (.tmp 82) 30 rfl w.heap.size 3 i0 (.int .i64 0) 1 8 Try.underlying30 hi0 hz0 hz1 hz2 rfl (by decide) u7 (useL l k).length (nV (useL l k)) rfl (hL6.out.u.alloc _) ⟨w6.heap.size, 0, none⟩ 1 1 [.int .i64 k] rfl rfl ?c0 ?c1 ?c2 ?c3 ?c4 ?c5))
        case c0 => exact cells_new rfl
        case c1 => simp [Value.oneCell']
        case c2 => unfold maxLen; omega
        case c3 => omega
        case c4 => have := hL6.out.b.size; simp; omega
        case c5 =>
          intro v6 w7 ho7 hg7 _
          have hL7 := hL6.out.app_u hni ho7 hg7
          rw [← eu.out] at hL7
          replace hL7 := Lib.hid hL7
          have hy7 := NW_kept y hL7.out.b
          obtain ⟨cap7, F7⟩ := hy7.facts
          have c07 := F7.c0
          have cc7 := F7.cell hlt
          rw [← hx.out] at cc7
          clear F7 hy7 ho7 hg7 c06 cc6 hL6
          go_wp2_with fail
          go_roundw
          case rel => exact ⟨k + 1, by omega, by go_num, by rw [ei.out]; exact hL7.out⟩
          case measure => simp [intOf]; omega
      · subst e
        have e1 : cN l 1 (k + 1) = cN l 1 k := cN_no (by rw [← hx]; decide)
        have e2 : cN l 2 (k + 1) = cN l 2 k := cN_no (by rw [← hx]; decide)
        have e3 : cN l 3 (k + 1) = cN l 3 k + 1 := cN_yes hx.symm
        have e4 : cN l 4 (k + 1) = cN l 4 k := cN_no (by rw [← hx]; decide)
        have ei : idleL l (k + 1) = idleL l k := idleL_no (by rw [← hx]; decide)
        have eu : useL l (k + 1) = useL l k ++ [(k : Int)] := useL_yes (by unfold useB; rw [← hx]; rfl)
        replace e1 := Lib.hid e1
        replace e2 := Lib.hid e2
        replace e3 := Lib.hid e3
        replace e4 := Lib.hid e4
        replace ei := Lib.hid ei
        replace eu := Lib.hid eu
        replace hx := Lib.hid hx
        clear hxr
        go_wp2_with fail
        go_quiet ((go_at_call 21; exact Calls.quiet_of (hst _)))
        have hL5 := hL.drewN nq
        obtain ⟨w5, hw5⟩ : ∃ w5, w5 = wr.drewN nq := ⟨_, rfl⟩
        have c05 : w5.cell? ⟨q, 0, none⟩ = some (.slice (some ⟨h, 0, none⟩) l.length cap) := by rw [hw5]; exact c0
        have cc5 : w5.cell? ⟨h, k, none⟩ = some (.int .i64 3) := by rw [hw5]; exact cc
        have ht5 : TW w5 p l := by rw [hw5]; exact ht
        rw [← hw5] at hL5 ⊢
        clear hst c0 cc ht hy hw5 hL
        obtain ⟨a1, a2, a3, a4, fz⟩ := hL5.a.facts
        have hwc : IntKind.i64.wrap ((cN l 3 k : Int) + 1) = (cN l 3 k : Int) + 1 := IntWalk.i64_in _ (by omega)
        have fz1 := fz 3
        clear a1
        clear a2
        clear a4
        clear fz
        have hL6 : LS w w.heap.size (idleL l k) (useL l k) (cN l 1 (k + 1)) (cN l 2 (k + 1)) (cN l 3 (k + 1)) (cN l 4 (k + 1)) u6 u7 (w5.setCell ⟨w.heap.size, 3, none⟩ (.int .i64 ((cN l 3 k : Int) + 1))).drew := by
          rw [e1.out, e2.out, e3.out, e4.out]
          push_cast
          exact (hL5.store 3 _ rfl).drew
        have hy6 := NW_kept y hL6.b
        obtain ⟨cap6, F6⟩ := hy6.facts
        have c06 := F6.c0
        have cc6 := F6.cell hlt
        rw [← hx.out] at cc6
        obtain ⟨c, hc⟩ : ∃ c, c = cN l 3 k := ⟨_, rfl⟩
        rw [← hc] at hwc hL6 c06 cc6 a3
        replace hc := Lib.hid hc
        obtain ⟨w6, hw6⟩ : ∃ w6, w6 = (w5.setCell ⟨w.heap.size, 3, none⟩ (.int .i64 ((c : Int) + 1))).drew := ⟨_, rfl⟩
        rw [← hw6] at hL6 c06 cc6
        replace hL6 := Lib.hid hL6
        clear F6 hy6 hL5
        go_wp2_with fail
        go_region
        rw [← hw6]
        clear hw6 a3 fz1 c05 cc5 ht5 hwc hc
        go_wp2_with (at_builtin; go_must (refine wpList_append_own _ rfl (.tmp 80) (.tmp 82) 30 rfl w.heap.size 3 i0 (.int .i64 0) 1 8 Try.underlying30 hi0 hz0 hz1 hz2 rfl (by decide) u7 (useL l k).length (nV (useL l k)) rfl (hL6.out.u.alloc _) ⟨w6.heap.size, 0, none⟩ 1 1 [.int .i64 k] rfl rfl ?c0 ?c1 ?c2 ?c3 ?c4 ?c5))
        case c0 => exact cells_new rfl
        case c1 => simp [Value.oneCell']
        case c2 => unfold maxLen; omega
        case c3 => omega
        case c4 => have := hL6.out.b.size; simp; omega
        case c5 =>
          intro v6 w7 ho7 hg7 _
          have hL7 := hL6.out.app_u hni ho7 hg7
          rw [← eu.out] at hL7
          replace hL7 := Lib.hid hL7
          have hy7 := NW_kept y hL7.out.b
          obtain ⟨cap7, F7⟩ := hy7.facts
          have c07 := F7.c0
          have cc7 := F7.cell hlt
          rw [← hx.out] at cc7
          clear F7 hy7 ho7 hg7 c06 cc6 hL6
          go_wp2_with fail
          go_roundw
          case rel => exact ⟨k + 1, by omega, by go_num, by rw [ei.out]; exact hL7.out⟩
          case measure => simp [intOf]; omega
      · subst e
        have e1 : cN l 1 (k + 1) = cN l 1 k := cN_no (by rw [← hx]; decide)
        have e2 : cN l 2 (k + 1) = cN l 2 k := cN_no (by rw [← hx]; decide)
        have e3 : cN l 3 (k + 1) = cN l 3 k := cN_no (by rw [← hx]; decide)
        have e4 : cN l 4 (k + 1) = cN l 4 k + 1 := cN_yes hx.symm
        have ei : idleL l (k + 1) = idleL l k := idleL_no (by rw [← hx]; decide)
        have eu : useL l (k + 1) = useL l k := useL_no (by unfold useB; rw [← hx]; rfl)
        replace e1 := Lib.hid e1
        replace e2 := Lib.hid e2
        replace e3 := Lib.hid e3
        replace e4 := Lib.hid e4
        replace ei := Lib.hid ei
        replace eu := Lib.hid eu
        replace hx := Lib.hid hx
        clear hxr
        go_wp2_with fail
        go_quiet ((go_at_call 21; exact Calls.quiet_of (hst _)))
        have hL5 := hL.drewN nq
        obtain ⟨w5, hw5⟩ : ∃ w5, w5 = wr.drewN nq := ⟨_, rfl⟩
        have c05 : w5.cell? ⟨q, 0, none⟩ = some (.slice (some ⟨h, 0, none⟩) l.length cap) := by rw [hw5]; exact c0
        have cc5 : w5.cell? ⟨h, k, none⟩ = some (.int .i64 4) := by rw [hw5]; exact cc
        have ht5 : TW w5 p l := by rw [hw5]; exact ht
        rw [← hw5] at hL5 ⊢
        clear hst c0 cc ht hy hw5 hL
        obtain ⟨a1, a2, a3, a4, fz⟩ := hL5.a.facts
        have hwc : IntKind.i64.wrap ((cN l 4 k : Int) + 1) = (cN l 4 k : Int) + 1 := IntWalk.i64_in _ (by omega)
        have fz1 := fz 4
        clear a1
        clear a2
        clear a3
        clear fz
        have hL6 : LS w w.heap.size (idleL l k) (useL l k) (cN l 1 (k + 1)) (cN l 2 (k + 1)) (cN l 3 (k + 1)) (cN l 4 (k + 1)) u6 u7 (w5.setCell ⟨w.heap.size, 4, none⟩ (.int .i64 ((cN l 4 k : Int) + 1))).drew := by
          rw [e1.out, e2.out, e3.out, e4.out]
          push_cast
          exact (hL5.store 4 _ rfl).drew
        have hy6 := NW_kept y hL6.b
        obtain ⟨cap6, F6⟩ := hy6.facts
        have c06 := F6.c0
        have cc6 := F6.cell hlt
        rw [← hx.out] at cc6
        obtain ⟨c, hc⟩ : ∃ c, c = cN l 4 k := ⟨_, rfl⟩
        rw [← hc] at hwc hL6 c06 cc6 a4
        replace hc := Lib.hid hc
        obtain ⟨w6, hw6⟩ : ∃ w6, w6 = (w5.setCell ⟨w.heap.size, 4, none⟩ (.int .i64 ((c : Int) + 1))).drew := ⟨_, rfl⟩
        rw [← hw6] at hL6 c06 cc6
        replace hL6 := Lib.hid hL6
        clear F6 hy6 hL5
        go_wp2_with fail
        go_region
        rw [← hw6]
        clear hw6 a4 fz1 c05 cc5 ht5 hwc hc
        go_wp2_with fail
        go_roundw
        case rel => exact ⟨k + 1, by omega, by go_num, by rw [ei.out, eu.out]; exact hL6.out⟩
        case measure => simp [intOf]; omega
    · obtain rfl : k = l.length := by omega
      have hgi : IntsAt wr u6 (idleL l l.length) := ints_row hL.i rfl (fun z hz => by obtain ⟨j, h1, h2, _⟩ := (idleL_mem l _ z).1 hz; omega)
      have hgu : IntsAt wr u7 (useL l l.length) := ints_row hL.u rfl (fun z hz => by obtain ⟨j, h1, h2, _⟩ := (useL_mem l _ z).1 hz; omega)
      have hc := Counts_any ht k0
      rw [cnt_1 k0, cnt_23 k0, cnt_4 k0] at hc
      push_cast at hc
      obtain ⟨a1, a2, a3, a4, _⟩ := hL.a.facts
      have n1 := cN_le l 1 l.length
      have n2 := cN_le l 2 l.length
      have n3 := cN_le l 3 l.length
      have hlb := hL.b
      clear F hk hL
      generalize cN l 1 l.length = c1 at *
      generalize cN l 2 l.length = c2 at *
      generalize cN l 3 l.length = c3 at *
      generalize cN l 4 l.length = c4 at *
      go_wp2_with fail
      go_at_call 19
      refine hc.mono ?_
      clear hc
      rintro e w5 ⟨rfl, m5, hw5⟩
      have b1 : w5.cell? ⟨w.heap.size, 1, none⟩ = some (.int .i64 c1) := by rw [hw5]; exact a1
      have b2 : w5.cell? ⟨w.heap.size, 2, none⟩ = some (.int .i64 c2) := by rw [hw5]; exact a2
      have b3 : w5.cell? ⟨w.heap.size, 3, none⟩ = some (.int .i64 c3) := by rw [hw5]; exact a3
      have b4 : w5.cell? ⟨w.heap.size, 4, none⟩ = some (.int .i64 c4) := by rw [hw5]; exact a4
      have hb5 : Below wr.heap.size wr w5 := by rw [hw5]; exact below_drewN (Below.refl _ _) _
      have ht5 : TW w5 p l := T3.kept ht hb5
      have hid := Idle_any ht5 k0
      have hof1 : Calls Try.prog 28 #[u6] w5.drew fun e w' => e = .returned (.int .u64 (ofN (isI l))) ∧ w5.drew = w' := by
        have := of_fn u6 (idleL l l.length) w5.drew (by rw [hw5]; exact ⟨hgi.1, hgi.2⟩)
        rw [memS_idle] at this
        exact this
      have hof2 : Calls Try.prog 28 #[u7] w5.drew fun e w' => e = .returned (.int .u64 (ofN (useB l))) ∧ w5.drew = w' := by
        have := of_fn u7 (useL l l.length) w5.drew (by rw [hw5]; exact ⟨hgu.1, hgu.2⟩)
        rw [memS_use] at this
        exact this
      have hus := Used_any (T3.drew ht5) k0
      have hs1 := State_any (-1) (by omega) (T3.drew ht5) k0
      rw [(stO_out l).1] at hs1
      have hs2 := fun n => State_any (w := w5.drew.drewN n) (l.length : Int) (by omega) ht5 k0
      rw [(stO_out l).2] at hs2
      have hwf : Below w.heap.size w w5.drew := hlb.trans ((hb5.mono hlb.size).trans (below_drewN (Below.refl _ _) 1))
      have c5 : ∀ n, (w5.drew.drewN n).cell? ⟨q, 0, none⟩ = some (.slice (some ⟨h, 0, none⟩) l.length cap) := fun n => by rw [hw5]; exact c0
      have hws : IntKind.i64.wrap ((c2 : Int) + (c3 : Int)) = (c2 : Int) + (c3 : Int) := IntWalk.i64_in _ (by omega)
      clear hb5 hw5 a1 a2 a3 a4 c0 hgi hgu ht ht5 hy hlb n1 n2 n3
      generalize ofN (isI l) = I at *
      generalize ofN (useB l) = U at *
      have z1 : ((c1 : Int) == (c1 : Int)) = true := by simp
      have z2 : ((c2 : Int) + (c3 : Int) == (c2 : Int) + (c3 : Int)) = true := by simp
      have z4 : ((c4 : Int) == (c4 : Int)) = true := by simp
      have zI : ((I : Int) == (I : Int)) = true := by simp
      have zU : ((U : Int) == (U : Int)) = true := by simp
      go_wp2_with fail
      go_at_call 14
      refine hid.mono ?_
      clear hid b1 b2 b3 b4
      rintro e w6 ⟨rfl, rfl⟩
      go_wp2_with fail
      go_at_call 28
      refine hof1.mono ?_
      clear hof1
      rintro e w6 ⟨rfl, rfl⟩
      go_wp2_with fail
      go_at_call 15
      refine hus.mono ?_
      clear hus
      rintro e w6 ⟨rfl, rfl⟩
      go_wp2_with fail
      go_at_call 28
      refine hof2.mono ?_
      clear hof2
      rintro e w6 ⟨rfl, rfl⟩
      go_wp2_with fail
      go_at_call 21
      refine hs1.mono ?_
      clear hs1
      rintro e w6 ⟨rfl, m6, hw6⟩
      have c6 := c5 m6
      have hs6 := hs2 m6
      rw [← hw6] at c6 hs6
      have hwf6 : Below w.heap.size w w6 := by rw [hw6]; exact below_drewN hwf _
      clear c5 hs2 hw6
      go_wp2_with fail
      go_at_call 21
      refine hs6.mono ?_
      clear hs6
      rintro e w7 ⟨rfl, m7, hw7⟩
      have hwf7 : Below w.heap.size w w7 := by rw [hw7]; exact below_drewN hwf6 _
      clear hw7 c6
      go_wp2_with fail
      go_ret
      exact ⟨rfl, hwf7⟩
end

end Go.Proofs.Ytmedbodjikbmfaa
