/-
  Own walk: in whatever parts items are planned, the choices are the same, and the profile is as it was.
-/
import Derived.Test.YtbnpeicmbbgboaaPgL
import Derived.Test.YtbnpeicmbbgboaaInts
namespace Go.Proofs.Ytbnpeicmbbgboaa
set_option maxRecDepth 8000
open Go.RowKit Go.Sort Go.Lib

set_option maxRecDepth 1000000 in
set_option maxHeartbeats 8000000 in
theorem parts14_walk (n : Int) (vs : Value) (ls : List Sp) (v : Value) (l : List It) (zs : List Int) (vp : Value) (w : World) (hs : RowAt enc3 3 w vs ls) (hv : RowAt encI 4 w v l) (hz : IntsAt w vp zs) :
    Calls Try.prog 4 #[.int .i64 n, vs, v, vp] w fun e w' => e = .returned (.bool true) ∧ Below w.heap.size w w' := by
  have haw := Lib.hid (fun W => awake14_fn W)
  have hmix := pf_mixed
  have hgd := step_guard
  have hfew := few_fn hv
  obtain ⟨as0, cs0, rfl, -⟩ := id hs
  obtain ⟨av0, cv0, rfl, -⟩ := id hv
  obtain ⟨⟨ap, cp, rfl, z1, z2, z3⟩, zfit⟩ := hz
  replace z3 := Lib.hid z3
  replace zfit := Lib.hid zfit
  by_cases hn : n < 0 ∨ 64 < n
  · have hmd := made14_bad n (.slice as0 ls.length cs0) w hn
    clear hs hv hn
    go_enter Try.func4, Try.ntmps4
    go_wp2_with fail
    go_at_call 7
    refine hfew.mono ?_
    clear hfew
    rintro e w1 ⟨v', rfl, hv', rfl⟩
    obtain ⟨a1, c1, rfl, -⟩ := hv'
    go_wp2_with (go_at_call 8; go_must (refine hmd.mono ?_); rintro e w' ⟨rfl, rfl⟩)
    go_at_call 9
    refine (haw.out _).mono ?_
    rintro e w5 ⟨rfl, hb5⟩
    go_wp2_with fail
    go_ret
    exact ⟨rfl, hb5⟩
  · have hmd := made14_fn n (.slice as0 ls.length cs0) ls w (by omega) hs
    clear hs hv hn
    go_enter Try.func4, Try.ntmps4
    go_wp2_with fail
    go_at_call 7
    refine hfew.mono ?_
    clear hfew
    rintro e w1 ⟨v', rfl, hv', rfl⟩
    obtain ⟨r, hr⟩ : ∃ r, r = l.take 12 := ⟨_, rfl⟩
    have hrl : r.length ≤ 12 := by rw [hr, List.length_take]; omega
    rw [← hr] at hv'
    clear hr
    have hvv := Lib.hid hv'
    obtain ⟨a1, c1, rfl, q1, q2, -⟩ := hv'
    go_wp2_with fail
    go_at_call 8
    refine hmd.mono ?_
    clear hmd
    rintro e w2 ⟨p, g, q, k, L, E, ver, rfl, hk, hX, hb2⟩
    have hall := All_fn 64 (PfOk.of_xs hX hk) (by omega) (by omega) (by omega) (hvv.out.below hb2) (by omega)
    have hsz2 := hb2.size
    replace hX := Lib.hid hX
    go_wp2_with fail
    go_at_call 10
    refine hall.mono ?_
    clear hall
    rintro e w3 ⟨hb3, hr3⟩
    rw [show (64 : Int).toNat = 64 from rfl, List.take_of_length_le (by omega)] at hr3
    have hbw3 := Lib.hid (hb2.trans (hb3.mono hsz2))
    have hX3 := Lib.hid (hX.out.below hb3)
    have hnew := planNew_fn 64 (PfOk.of_xs hX3.out hk) (by omega) (hvv.out.below hbw3.out) (by omega)
    obtain ⟨e3v, e3, rfl, hsh, hbad, hgood⟩ : ∃ (v3 : Value) (e3 : Int), e = .returned (.tuple #[v3, .int .i64 e3]) ∧ (∃ a n c, v3 = .slice a n c) ∧ ((∃ x ∈ r, ¬ x.ok) → e3 = 5) ∧ ((∀ x ∈ r, x.ok) → e3 = 0 ∧ ∃ c f', w3.ownsRow w2.heap.size 53 2 v3 c.length (prV c) ∧ PlansR 0 r (raw n E) f' c) := by
      rcases hr3 with ⟨h, _⟩ | ⟨_, h, rfl⟩ | ⟨_, h, v3, c, f', rfl, ho, hR⟩
      · omega
      · exact ⟨_, _, rfl, ⟨_, _, _, rfl⟩, fun _ => rfl, fun h2 => by obtain ⟨x, hx, hn⟩ := h; exact absurd (h2 x hx) hn⟩
      · obtain ⟨ao, cap, rfl, _⟩ := own_shape ho
        exact ⟨_, _, rfl, ⟨_, _, _, rfl⟩, fun h2 => by (obtain ⟨x, hx, hn⟩ := h2; exact absurd (h x hx) hn), fun _ => ⟨rfl, c, f', ho, hR⟩⟩
    obtain ⟨a3, n3, c3, rfl⟩ := hsh
    replace hbad := Lib.hid hbad
    replace hgood := Lib.hid hgood
    clear hX hb3 hb2
    go_wp2_with fail
    go_at_call 15
    refine hnew.mono ?_
    clear hnew
    rintro e w4 ⟨hb4, hr4⟩
    rw [show (64 : Int).toNat = 64 from rfl, List.take_of_length_le (by omega)] at hr4
    have hsz3 := hbw3.out.size
    rcases hr4 with ⟨h, _⟩ | ⟨_, hb, rfl⟩ | ⟨_, hok, z, py, gy, lv, rfl, hP, hL⟩
    · omega
    · obtain rfl := hbad.out hb
      have hbw4 := Lib.hid (hbw3.out.trans (hb4.mono hsz3))
      clear hb4 hb hbad hgood
      go_wp2_with fail
      go_at_call 9
      refine (haw.out _).mono ?_
      rintro e w5 ⟨rfl, hb5⟩
      have hbw5 := Lib.hid (hbw4.out.trans (hb5.mono hbw4.out.size))
      clear hb5
      go_wp2_with fail
      go_ret
      exact ⟨rfl, hbw5.out⟩
    · obtain ⟨rfl, c, f', ho, hR⟩ := hgood.out hok
      replace hok := Lib.hid hok
      replace ho := Lib.hid ho
      replace hR := Lib.hid hR
      have hP0 := Lib.hid hP
      have hL0 := Lib.hid hL
      have hb40 := Lib.hid hb4
      clear hbad hgood hP hL hb4
      go_wp2_with fail
      go_loopw [15, 16, 17, 18, 19] (fun dd ii _ _ _ wr => ∃ (i D : Nat) (g' : Nat) (lv' cv' : Value) (L' : List (Int × Int)) (ver' : Int) (f2 : Int → Int) (c2 : List (Int × Int)), i ≤ zs.length ∧ i ≤ 30 ∧ D ≤ r.length ∧ ii = .int .i64 i ∧ dd = .int .i64 D ∧ Hid (PlW w3.heap.size wr z py g' lv' cv' L' ver' 0 f2 c2 (31 + 4 * D) (15 + 2 * D)) ∧ Hid (LeftAt wr lv' (r.drop D)) ∧ Hid (PlansR 0 (r.take D) (raw n E) f2 c2) ∧ Hid (Below w3.heap.size w3 wr)) (fun _ ii _ _ _ _ => zs.length - (intOf ii).toNat)
      case atStart => exact ⟨0, 0, gy, lv, _, L, ver, raw n E, [], Nat.zero_le _, Nat.zero_le _, Nat.zero_le _, rfl, rfl, hP0, hL0, ⟨rfl, rfl⟩, hb40⟩
      case round =>
        obtain ⟨i, D, g1, lv1, cv1, L1, ver1, f1, c1', hi, hi30, hD, rfl, rfl, hP1, hL1, hR1, hb1⟩ := hrel
        clear hP0 hL0 hb40
        by_cases hgo : i < zs.length ∧ i < 30
        · obtain ⟨hlt, hlt3⟩ := hgo
          have d1 : decide ((i : Int) < (zs.length : Int)) = true := decide_eq_true (by omega)
          have d2 : decide ((i : Int) < 30) = true := decide_eq_true (by omega)
          obtain ⟨b, off, rfl, hbw, hcell⟩ := z3.out (by intro e; subst e; simp at hlt)
          have t0 := hcell i hlt
          have hlow : b < w3.heap.size := by omega
          rw [← hbw3.out.cell (p := ⟨b, _, none⟩) hbw, ← hb1.out.cell (p := ⟨b, _, none⟩) hlow] at t0
          obtain ⟨x, hx⟩ : ∃ x, x = zs.getD i 0 := ⟨_, rfl⟩
          have hxf : -9223372036854775808 ≤ x ∧ x ≤ 9223372036854775807 := by rw [hx, getD_of hlt]; exact zfit.out _ (List.getElem_mem _)
          rw [← hx] at t0
          have g1' : (0 : Int) ≤ i := by omega
          have g2 : (i : Int) < (zs.length : Int) := by omega
          have wi : IntKind.i64.wrap ((i : Int) + 1) = (i : Int) + 1 := IntWalk.i64_in _ (by omega)
          obtain ⟨rem, hrem⟩ : ∃ rem : Nat, rem = r.length - D := ⟨_, rfl⟩
          have hrem1 : (r.length : Int) - (D : Int) = (rem : Int) := by omega
          have hremd : Hid ((r.drop D).length = rem) := by show _ = _; rw [List.length_drop, hrem]
          have hc1 : Hid (c1'.length ≤ 12) := by have := PlansR.len _ hR1.out; rw [List.length_take] at this; show _ ≤ 12; omega
          have hnx := Next_fn x hP1.out hL1.out (fun y hy => hok.out y (List.mem_of_mem_drop hy)) (by rw [hremd.out]; omega) (by rw [hremd.out]; omega) (by omega) (by rw [hremd.out]; have := hc1.out; omega)
          have wr1 : IntKind.i64.wrap (rem : Int) = rem := IntWalk.i64_in _ (by omega)
          clear hcell hx
          go_wp2_with fail
          go_at_call 16
          refine hnx.mono ?_
          clear hnx t0
          rintro e w5 ⟨K, hK, rfl, g5, lv5, cv5, L5, ver5, f5, c5, hP5, hL5, hR5, hb5⟩
          rw [hremd.out] at hK
          have hKl : D + K ≤ r.length := by omega
          have hwD : IntKind.i64.wrap ((D : Int) + (K : Int)) = (D : Int) + (K : Int) := IntWalk.i64_in _ (by omega)
          obtain ⟨rem2, hrem2⟩ : ∃ rem2 : Nat, rem2 = r.length - (D + K) := ⟨_, rfl⟩
          have hrem3 : (r.length : Int) - ((D : Int) + (K : Int)) = (rem2 : Int) := by omega
          have wr2 : IntKind.i64.wrap (rem2 : Int) = rem2 := IntWalk.i64_in _ (by omega)
          have hdd : (r.drop D).drop K = r.drop (D + K) := by rw [List.drop_drop]
          rw [hdd] at hL5
          have hlf := Left_fn hP5 hL5
          rw [show (r.drop (D + K)).length = rem2 by rw [List.length_drop, hrem2]] at hlf
          have hP6 : Hid (PlW w3.heap.size w5 z py g5 lv5 cv5 L5 ver5 0 f5 (c1' ++ c5) (31 + 4 * (D + K)) (15 + 2 * ((D + K : Nat) : Int))) := by
            rw [show 31 + 4 * D + 4 * K = 31 + 4 * (D + K) by omega, show (15 : Int) + 2 * D + 2 * K = 15 + 2 * ((D + K : Nat) : Int) by omega] at hP5
            exact hP5
          have hR6 : Hid (PlansR 0 (r.take (D + K)) (raw n E) f5 (c1' ++ c5)) := by
            have h1 := hR1.out.app _ _ hR5
            rw [show r.take D ++ (r.drop D).take K = r.take (D + K) by rw [List.take_add]] at h1
            exact h1
          have hb6 := Lib.hid (hb1.out.trans hb5)
          replace hL5 := Lib.hid hL5
          have ekk : ((K : Int) == (K : Int)) = true := by simp
          have err : ((rem2 : Int) == (rem2 : Int)) = true := by simp
          replace hrem := Lib.hid hrem
          replace hrem2 := Lib.hid hrem2
          clear hP5 hR5 hb5 hP1 hL1 hR1 hb1 hdd hc1 hremd
          by_cases hx0 : x < 0
          · obtain rfl : K = 0 := by omega
            have hxr : x < (rem : Int) := by omega
            clear hxf
            replace hK := Lib.hid hK
            go_wp2_with (go_at_call 17; go_must (refine hlf.mono ?_); rintro e w' ⟨rfl, rfl⟩)
            clear hlf
            go_roundw
            case rel => exact ⟨i + 1, D + 0, g5, lv5, cv5, L5, ver5, f5, c1' ++ c5, by omega, by omega, hKl, by go_num, by go_num, hP6, hL5, hR6, hb6⟩
            case measure => simp [intOf]; omega
          · by_cases hxr : x < (rem : Int)
            · obtain rfl : x = (K : Int) := by omega
              clear hxf
              replace hK := Lib.hid hK
              go_wp2_with (go_at_call 17; go_must (refine hlf.mono ?_); rintro e w' ⟨rfl, rfl⟩)
              clear hlf
              go_roundw
              case rel => exact ⟨i + 1, D + K, g5, lv5, cv5, L5, ver5, f5, c1' ++ c5, by omega, by omega, hKl, by go_num, by go_num, hP6, hL5, hR6, hb6⟩
              case measure => simp [intOf]; omega
            · obtain rfl : K = rem := by omega
              clear hxf
              replace hK := Lib.hid hK
              go_wp2_with (go_at_call 17; go_must (refine hlf.mono ?_); rintro e w' ⟨rfl, rfl⟩)
              clear hlf
              go_roundw
              case rel => exact ⟨i + 1, D + K, g5, lv5, cv5, L5, ver5, f5, c1' ++ c5, by omega, by omega, hKl, by go_num, by go_num, hP6, hL5, hR6, hb6⟩
              case measure => simp [intOf]; omega
        · obtain ⟨rem, hrem⟩ : ∃ rem : Nat, rem = r.length - D := ⟨_, rfl⟩
          have hremd : Hid ((r.drop D).length = rem) := by show _ = _; rw [List.length_drop, hrem]
          have hc1 : Hid (c1'.length ≤ 12) := by have := PlansR.len _ hR1.out; rw [List.length_take] at this; show _ ≤ 12; omega
          have hnx := Next_fn (r.length : Int) hP1.out hL1.out (fun y hy => hok.out y (List.mem_of_mem_drop hy)) (by rw [hremd.out]; omega) (by rw [hremd.out]; omega) (by omega) (by rw [hremd.out]; have := hc1.out; omega)
          replace hnx := Lib.hid hnx
          go_upto_region 13 with fail
          go_cut [70] from 63 to 104 (fun u wd => u = .bool false ∧ wr = wd)
          case first =>
            by_cases h1 : i < zs.length
            · have h2 : ¬ (i < 30) := fun h => hgo ⟨h1, h⟩
              have d1 : decide ((i : Int) < (zs.length : Int)) = true := decide_eq_true (by omega)
              have d2 : decide ((i : Int) < 30) = false := decide_eq_false (by omega)
              clear hgo
              go_wp2_with fail
              go_meet
              case rel => exact ⟨rfl, rfl⟩
            · have d1 : decide ((i : Int) < (zs.length : Int)) = false := decide_eq_false (by omega)
              clear hgo
              go_wp2_with fail
              go_meet
              case rel => exact ⟨rfl, rfl⟩
          case rest =>
            obtain ⟨rfl, rfl⟩ := hcut
            clear hgo
            go_wp2_with fail
            go_at_call 16
            refine hnx.out.mono ?_
            clear hnx
            rintro e w5 ⟨K, hK, rfl, g5, lv5, cv5, L5, ver5, f5, c5, hP5, hL5, hR5, hb5⟩
            rw [hremd.out] at hK
            obtain rfl : K = rem := by omega
            have hdd : (r.drop D).drop K = [] := by rw [List.drop_drop]; exact List.drop_of_length_le (by omega)
            rw [hdd] at hL5
            have hR6 : PlansR 0 r (raw n E) f5 (c1' ++ c5) := by
              have h1 := hR1.out.app _ _ hR5
              rw [show r.take D ++ (r.drop D).take K = r.take (D + K) by rw [List.take_add], show D + K = r.length by omega, List.take_length] at h1
              exact h1
            obtain ⟨hcc, -⟩ := PlansR.uniq _ hR6 hR.out (fun _ _ => rfl)
            rw [hcc] at hP5
            have hb6 := hb1.out.trans hb5
            have hX5 := hX3.out.kept hb6
            have hst := pf_Steps_any hX5.x hX5.can.sm.pos (by have := hX5.ll; omega)
            have hcl := PlansR.len _ hR.out
            have hX5' := Lib.hid hX5
            have hP5' := Lib.hid hP5
            have hL5' := Lib.hid hL5
            have hb6' := Lib.hid hb6
            clear hcc hK hR6 hR5 hb5 hP1 hL1 hR1 hb1 hX5 hP5 hL5 hb6 hdd hremd hc1
            go_wp2_with fail
            go_at_call 18
            refine hst.mono ?_
            clear hst
            rintro e w6 ⟨gs, caps, rfl, hgs, hos, hb7⟩
            have hX6 := hX5'.out.kept hb7
            have hps := PSteps_any hX6.y hX6.ok (by have := hX6.el; omega) hX6.F (by omega)
            replace hos := Lib.hid hos
            replace hb7 := Lib.hid hb7
            have hcan := Lib.hid hX6.can
            clear hX6
            go_wp2_with fail
            go_at_call 19
            refine hps.mono ?_
            clear hps
            rintro e w7 ⟨gt, capt, L7, rfl, hot, hC7, hb8⟩
            obtain rfl := hC7.uniq hcan.out (fun _ _ => rfl)
            have hos7 := pf_own_kept hos.out hb8
            have hot7 : w7.ownsRow 0 49 2 (.slice (some ⟨gt, 0, none⟩) L7.length capt) L7.length (prV L7) := ownsRow_mono hot (Nat.zero_le _)
            have hb57 : Below w5.heap.size w5 w7 := hb7.out.trans (hb8.mono hb7.out.size)
            have hP7 := Lib.hid (hP5'.out.kept hb57)
            have hL7 := Lib.hid (hL5'.out.kept (.of_below hb57))
            have hb37 : Below w3.heap.size w3 w7 := hb6'.out.trans (hb57.mono (by have := hb6'.out.size; exact this))
            have hw7 := Lib.hid (pf_own_kept ho.out hb37)
            have hbw7 := Lib.hid (hbw3.out.trans (hb37.mono hsz3))
            have hlm : L7.length ≤ 1000 := by have := hX5'.out.ll; omega
            replace hos7 := Lib.hid hos7
            replace hot7 := Lib.hid hot7
            clear hot hC7 hcan hos hb57 hb37 hP5' hL5' hb6' hX5' hb7 hb8 hX3
            go_wp2_with fail
            go_loopw [22] (fun ii ws => ∃ (j : Nat), j ≤ L7.length ∧ ii = .int .i64 j ∧ Hid (Below w7.heap.size w7 ws)) (fun ii _ => L7.length - (intOf ii).toNat)
            case atStart => exact ⟨0, Nat.zero_le _, rfl, Below.refl _ _⟩
            case round =>
              obtain ⟨j, hj, rfl, hbs⟩ := hrel
              by_cases hltj : j < L7.length
              · obtain ⟨s0, s1⟩ := step_cells (pf_own_kept hos7.out hbs.out) hltj
                obtain ⟨t0, t1⟩ := step_cells (pf_own_kept hot7.out hbs.out) hltj
                obtain ⟨x, hx⟩ : ∃ x, x = tA L7 j := ⟨_, rfl⟩
                obtain ⟨y, hy⟩ : ∃ y, y = tV L7 j := ⟨_, rfl⟩
                rw [← hx] at s0 t0
                rw [← hy] at s1 t1
                clear hx hy
                have hne := fun W => step_neq_same x y W
                have d1 : decide ((j : Int) < (L7.length : Int)) = true := decide_eq_true (by omega)
                have wj : IntKind.i64.wrap ((j : Int) + 1) = (j : Int) + 1 := IntWalk.i64_in _ (by omega)
                have b1 : (0 : Int) ≤ j := by omega
                have b2 : (j : Int) < (L7.length : Int) := by omega
                go_wp2_with fail
                go_quiet (fail)
                have hb2 := Lib.hid (below_drewN hbs.out nq)
                obtain ⟨w8, hw8⟩ : ∃ w8, w8 = wr.drewN nq := ⟨_, rfl⟩
                rw [← hw8] at hb2 ⊢
                clear hw8 hbs s0 s1 t0 t1 hne
                go_wp2_with fail
                go_roundw
                case rel => exact ⟨j + 1, by omega, by go_num, hb2⟩
                case measure => simp [intOf]; omega
              · obtain rfl : j = L7.length := by omega
                have d1 : decide ((L7.length : Int) < (L7.length : Int)) = false := decide_eq_false (by omega)
                have hP8 := hP7.out.kept hbs.out
                have hL8 := hL7.out.kept (.of_below hbs.out)
                have hch := Choices_fn hP8 (by omega)
                have hw8 := Lib.hid (pf_own_kept hw7.out hbs.out)
                have hbw8 := Lib.hid (hbw7.out.trans (hbs.out.mono hbw7.out.size))
                replace hP8 := Lib.hid hP8
                replace hL8 := Lib.hid hL8
                clear hbs hP7 hL7 hw7 hbw7
                go_wp2_with fail
                go_at_call 20
                refine hch.mono ?_
                clear hch
                rintro e w9 ⟨v9, rfl, ho9, hb9⟩
                have hsm := same14_fn (RowAt.of_own (enc := enc2) ho9 (fun _ => rfl) rfl rfl) (RowAt.of_own (enc := enc2) (pf_own_kept hw8.out hb9) (fun _ => rfl) rfl rfl)
                have hP9 := Lib.hid (hP8.out.kept hb9)
                have hL9 := Lib.hid (hL8.out.kept (.of_below hb9))
                have hbw9 := Lib.hid (hbw8.out.trans (hb9.mono hbw8.out.size))
                obtain ⟨ao9, cap9, rfl, -⟩ := own_shape ho9
                clear ho9 hb9 hP8 hL8
                go_wp2_with fail
                go_at_call 13
                refine hsm.mono ?_
                clear hsm
                rintro e w10 ⟨rfl, hb10⟩
                have hlf := Left_fn (hP9.out.kept hb10) (hL9.out.kept (.of_below hb10))
                rw [List.length_nil] at hlf
                have hbw10 := Lib.hid (hbw9.out.trans (hb10.mono hbw9.out.size))
                clear hb10 hP9 hL9
                go_wp2_with (go_at_call 17; go_must (refine hlf.mono ?_); rintro e w' ⟨rfl, rfl⟩)
                go_at_call 9
                refine (haw.out _).mono ?_
                rintro e w11 ⟨rfl, hb11⟩
                have hbw11 := Lib.hid (hbw10.out.trans (hb11.mono hbw10.out.size))
                clear hb11
                go_wp2_with fail
                go_ret
                exact ⟨rfl, hbw11.out⟩

end Go.Proofs.Ytbnpeicmbbgboaa
