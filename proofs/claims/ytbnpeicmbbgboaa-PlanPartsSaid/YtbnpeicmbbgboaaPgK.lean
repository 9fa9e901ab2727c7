/-
  Own walk: no choice is above the item's plan.
-/
import Derived.Test.YtbnpeicmbbgboaaPgJ
namespace Go.Proofs.Ytbnpeicmbbgboaa
set_option maxRecDepth 8000
open Go.RowKit Go.Sort Go.Lib

theorem PfOk.of_xs {B : Nat} {w : World} {p g q k : Nat} {L : List (Int × Int)} {F : Int} {E : List Sp} {ver : Int} (h : XS B w p g q k L 0 F E ver) (hk : k ≤ 15) : PfOk w p g L ver 0 (raw F E) 31 15 :=
  ⟨h.x, h.can, h.fr, h.now, by have := h.ll; omega, by have := h.v; omega⟩

set_option maxRecDepth 1000000 in
set_option maxHeartbeats 8000000 in
theorem lower14_walk (n : Int) (vs : Value) (ls : List Sp) (v : Value) (l : List It) (w : World) (hs : RowAt enc3 3 w vs ls) (hv : RowAt encI 4 w v l) :
    Calls Try.prog 5 #[.int .i64 n, vs, v] w fun e w' => e = .returned (.bool true) ∧ Below w.heap.size w w' := by
  have haw := Lib.hid (fun W => awake14_fn W)
  have hmix := pf_mixed
  have hfew := few_fn hv
  obtain ⟨as0, cs0, rfl, -⟩ := id hs
  obtain ⟨av0, cv0, rfl, -⟩ := id hv
  by_cases hn : n < 0 ∨ 64 < n
  · have hmd := made14_bad n (.slice as0 ls.length cs0) w hn
    clear hs hv
    go_enter Try.func5, Try.ntmps5
    go_wp2_with fail
    go_at_call 7
    refine hfew.mono ?_
    clear hfew
    rintro e w1 ⟨v', rfl, hv', rfl⟩
    obtain ⟨a1, c1, rfl, _⟩ := hv'
    go_wp2_with (go_at_call 8; go_must (refine hmd.mono ?_); rintro e w' ⟨rfl, rfl⟩)
    go_at_call 9
    refine (haw.out _).mono ?_
    rintro e w5 ⟨rfl, hb5⟩
    go_wp2_with fail
    go_ret
    exact ⟨rfl, hb5⟩
  · have hmd := made14_fn n (.slice as0 ls.length cs0) ls w (by omega) hs
    clear hs hv hn
    go_enter Try.func5, Try.ntmps5
    go_wp2_with fail
    go_at_call 7
    refine hfew.mono ?_
    clear hfew
    rintro e w1 ⟨v', rfl, hv', rfl⟩
    obtain ⟨r, hr⟩ : ∃ r, r = l.take 12 := ⟨_, rfl⟩
    have hrl : r.length ≤ 12 := by rw [hr, List.length_take]; omega
    rw [← hr] at hv'
    clear hr
    have hvv := Lib.hid hv'
    obtain ⟨a1, c1, rfl, q1, q2, q3⟩ := hv'
    go_wp2_with fail
    go_at_call 8
    refine hmd.mono ?_
    clear hmd
    rintro e w2 ⟨p, g, q, k, L, E, ver, rfl, hk, hX, hb2⟩
    have hv2 := hvv.out.below hb2
    have hall := All_fn 64 (PfOk.of_xs hX hk) (by omega) (by omega) (by omega) hv2 (by omega)
    have hsz2 := hb2.size
    replace hv2 := Lib.hid hv2
    replace q3 := Lib.hid q3
    clear hX
    go_wp2_with fail
    go_at_call 10
    refine hall.mono ?_
    clear hall
    rintro e w3 ⟨hb3, hr3⟩
    have hbw3 := Lib.hid (hb2.trans (hb3.mono hsz2))
    rw [show (64 : Int).toNat = 64 from rfl, List.take_of_length_le (by omega)] at hr3
    rcases hr3 with ⟨h1, _⟩ | ⟨_, _, rfl⟩ | ⟨_, _, v3, c, f', rfl, ho, hR⟩
    · omega
    · clear hb3 hb2
      go_wp2_with fail
      go_at_call 9
      refine (haw.out _).mono ?_
      rintro e w5 ⟨rfl, hb5⟩
      have hbw5 := Lib.hid (hbw3.out.trans (hb5.mono hbw3.out.size))
      clear hb5
      go_wp2_with fail
      go_ret
      exact ⟨rfl, hbw5.out⟩
    · have hsub := Lib.hid (hR.sub (Int.le_refl _))
      have hcl := PlansR.len _ hR
      have hrc : RowAt enc2 2 w3 v3 c := RowAt.of_own ho (fun _ => rfl) rfl rfl
      have hr3 := hv2.out.below hb3
      obtain ⟨a3, c3, rfl, p1, p2, p3⟩ := hrc
      obtain ⟨_, _, e1, _, _, u3⟩ := hr3
      injection e1 with e1
      subst e1
      replace p3 := Lib.hid p3
      replace u3 := Lib.hid u3
      have hsz3 := hbw3.out.size
      clear hR ho hb3 hb2 hv2 q3
      go_wp2_with fail
      go_loopw [11, 12] (fun kk ii wr => ∃ (i k : Nat), i ≤ r.length ∧ k ≤ c.length ∧ ii = .int .i64 i ∧ kk = .int .i64 k ∧ Hid (SubI (r.drop i) (c.drop k)) ∧ Hid (Below w3.heap.size w3 wr)) (fun _ ii _ => r.length - (intOf ii).toNat)
      case atStart => exact ⟨0, 0, Nat.zero_le _, Nat.zero_le _, rfl, rfl, hsub, Below.refl _ _⟩
      case round =>
        obtain ⟨i, k, hi, hk, rfl, rfl, hS, hb⟩ := hrel
        by_cases hlt : i < r.length
        · have d1 : decide ((i : Int) < (r.length : Int)) = true := decide_eq_true (by omega)
          by_cases hlk : k < c.length
          · have d2 : decide ((k : Int) < (c.length : Int)) = true := decide_eq_true (by omega)
            obtain ⟨x, hx⟩ : ∃ x, r[i]? = some x := ⟨_, List.getElem?_eq_getElem hlt⟩
            obtain ⟨⟨y1, y2⟩, hy⟩ : ∃ y, c[k]? = some y := ⟨_, List.getElem?_eq_getElem hlk⟩
            obtain ⟨b, off, rfl, hbw, hcell⟩ := u3.out (by omega)
            obtain ⟨b2, off2, rfl, hbw2, hcell2⟩ := p3.out (by omega)
            obtain ⟨c0, _, _, t3⟩ := item_at hcell hx
            have t0 := hcell2 k _ 0 _ hy rfl
            have t1 := hcell2 k _ 1 _ hy rfl
            rw [← hb.out.cell (p := ⟨b, _, none⟩) hbw] at c0 t3
            rw [← hb.out.cell (p := ⟨b2, _, none⟩) hbw2] at t0 t1
            rw [Nat.add_zero] at t0
            rw [← Nat.add_assoc] at t1
            have hr1 : r.drop i = x :: r.drop (i + 1) := by
              obtain ⟨h1, rfl⟩ := List.getElem?_eq_some_iff.1 hx
              exact List.drop_eq_getElem_cons h1
            have hr2 : c.drop k = (y1, y2) :: c.drop (k + 1) := by
              obtain ⟨h1, h2⟩ := List.getElem?_eq_some_iff.1 hy
              rw [← h2]
              exact List.drop_eq_getElem_cons h1
            have hS1 := hS.out
            rw [hr1, hr2] at hS1
            have hhit : Hid (ForI x (y1, y2) → SubI (r.drop (i + 1)) (c.drop (k + 1))) := fun _ => hS1.hit
            have hmiss : Hid (¬ ForI x (y1, y2) → SubI (r.drop (i + 1)) (c.drop k)) := fun h => by rw [hr2]; exact hS1.miss h
            have wi : IntKind.i64.wrap ((i : Int) + 1) = (i : Int) + 1 := IntWalk.i64_in _ (by omega)
            have wk : IntKind.i64.wrap ((k : Int) + 1) = (k : Int) + 1 := IntWalk.i64_in _ (by omega)
            have g1 : (0 : Int) ≤ i := by omega
            have g2 : (i : Int) < (r.length : Int) := by omega
            have g3 : (0 : Int) ≤ k := by omega
            have g4 : (k : Int) < (c.length : Int) := by omega
            obtain ⟨xi, xw, xl, xp⟩ := x
            dsimp only at c0 t3 t0 t1
            clear hcell hcell2 hx hy hr1 hr2 hS1 hS u3 p3
            by_cases f1 : xi = y1
            · subst f1
              have e1 : (xi == xi) = true := by simp
              by_cases f4 : 0 ≤ y2
              · by_cases f2 : xp < 0
                · have hnew : Hid (SubI (r.drop (i + 1)) (c.drop (k + 1))) := hhit.out ⟨rfl, .inl f2, f4⟩
                  clear hhit hmiss
                  go_upto_region 12 with fail
                  go_quiet (fail)
                  have hb2 := Lib.hid (below_drewN hb.out nq)
                  obtain ⟨w5, hw5⟩ : ∃ w5, w5 = wr.drewN nq := ⟨_, rfl⟩
                  rw [← hw5] at hb2 ⊢
                  clear hw5 hb c0 t3 t0 t1
                  go_wp2_with fail
                  go_roundw
                  case rel => exact ⟨i + 1, k + 1, by omega, by omega, by go_num, by go_num, hnew, hb2⟩
                  case measure => simp [intOf]; omega
                · by_cases f3 : y2 < xp
                  · have hnew : Hid (SubI (r.drop (i + 1)) (c.drop (k + 1))) := hhit.out ⟨rfl, .inr f3, f4⟩
                    clear hhit hmiss
                    go_upto_region 12 with fail
                    go_quiet (fail)
                    have hb2 := Lib.hid (below_drewN hb.out nq)
                    obtain ⟨w5, hw5⟩ : ∃ w5, w5 = wr.drewN nq := ⟨_, rfl⟩
                    rw [← hw5] at hb2 ⊢
                    clear hw5 hb c0 t3 t0 t1
                    go_wp2_with fail
                    go_roundw
                    case rel => exact ⟨i + 1, k + 1, by omega, by omega, by go_num, by go_num, hnew, hb2⟩
                    case measure => simp [intOf]; omega
                  · have hnew : Hid (SubI (r.drop (i + 1)) (c.drop k)) := hmiss.out fun h => h.2.1.elim f2 f3
                    clear hhit hmiss
                    go_upto_region 12 with fail
                    go_quiet (fail)
                    have hb2 := Lib.hid (below_drewN hb.out nq)
                    obtain ⟨w5, hw5⟩ : ∃ w5, w5 = wr.drewN nq := ⟨_, rfl⟩
                    rw [← hw5] at hb2 ⊢
                    clear hw5 hb c0 t3 t0 t1
                    go_wp2_with fail
                    go_roundw
                    case rel => exact ⟨i + 1, k, by omega, by omega, by go_num, rfl, hnew, hb2⟩
                    case measure => simp [intOf]; omega
              · by_cases f2 : xp < 0
                · have hnew : Hid (SubI (r.drop (i + 1)) (c.drop k)) := hmiss.out fun h => f4 h.2.2
                  clear hhit hmiss
                  go_upto_region 12 with fail
                  go_quiet (fail)
                  have hb2 := Lib.hid (below_drewN hb.out nq)
                  obtain ⟨w5, hw5⟩ : ∃ w5, w5 = wr.drewN nq := ⟨_, rfl⟩
                  rw [← hw5] at hb2 ⊢
                  clear hw5 hb c0 t3 t0 t1
                  go_wp2_with fail
                  go_roundw
                  case rel => exact ⟨i + 1, k, by omega, by omega, by go_num, rfl, hnew, hb2⟩
                  case measure => simp [intOf]; omega
                · by_cases f3 : y2 < xp
                  · have hnew : Hid (SubI (r.drop (i + 1)) (c.drop k)) := hmiss.out fun h => f4 h.2.2
                    clear hhit hmiss
                    go_upto_region 12 with fail
                    go_quiet (fail)
                    have hb2 := Lib.hid (below_drewN hb.out nq)
                    obtain ⟨w5, hw5⟩ : ∃ w5, w5 = wr.drewN nq := ⟨_, rfl⟩
                    rw [← hw5] at hb2 ⊢
                    clear hw5 hb c0 t3 t0 t1
                    go_wp2_with fail
                    go_roundw
                    case rel => exact ⟨i + 1, k, by omega, by omega, by go_num, rfl, hnew, hb2⟩
                    case measure => simp [intOf]; omega
                  · have hnew : Hid (SubI (r.drop (i + 1)) (c.drop k)) := hmiss.out fun h => f4 h.2.2
                    clear hhit hmiss
                    go_upto_region 12 with fail
                    go_quiet (fail)
                    have hb2 := Lib.hid (below_drewN hb.out nq)
                    obtain ⟨w5, hw5⟩ : ∃ w5, w5 = wr.drewN nq := ⟨_, rfl⟩
                    rw [← hw5] at hb2 ⊢
                    clear hw5 hb c0 t3 t0 t1
                    go_wp2_with fail
                    go_roundw
                    case rel => exact ⟨i + 1, k, by omega, by omega, by go_num, rfl, hnew, hb2⟩
                    case measure => simp [intOf]; omega
            · have e1 : (xi == y1) = false := by simp [f1]
              have hnew : Hid (SubI (r.drop (i + 1)) (c.drop k)) := hmiss.out fun h => f1 h.1
              clear hhit hmiss
              go_upto_region 12 with fail
              go_quiet (fail)
              have hb2 := Lib.hid (below_drewN hb.out nq)
              obtain ⟨w5, hw5⟩ : ∃ w5, w5 = wr.drewN nq := ⟨_, rfl⟩
              rw [← hw5] at hb2 ⊢
              clear hw5 hb c0 t3 t0 t1
              go_wp2_with fail
              go_roundw
              case rel => exact ⟨i + 1, k, by omega, by omega, by go_num, rfl, hnew, hb2⟩
              case measure => simp [intOf]; omega
          · obtain rfl : k = c.length := by omega
            have hbw := Lib.hid (hbw3.out.trans (hb.out.mono hsz3))
            clear hb hS p3 u3
            go_wp2_with fail
            go_at_call 9
            refine (haw.out _).mono ?_
            rintro e w5 ⟨rfl, hb5⟩
            have hbw5 := Lib.hid (hbw.out.trans (hb5.mono hbw.out.size))
            clear hb5
            go_wp2_with fail
            go_ret
            exact ⟨rfl, hbw5.out⟩
        · obtain rfl : i = r.length := by omega
          have hz := hS.out
          rw [List.drop_length] at hz
          have hz2 := hz.none
          have hkc : k = c.length := by
            have := congrArg List.length hz2
            rw [List.length_drop, List.length_nil] at this
            omega
          subst hkc
          have hbw := Lib.hid (hbw3.out.trans (hb.out.mono hsz3))
          clear hb hS p3 u3 hz hz2
          go_wp2_with fail
          go_at_call 9
          refine (haw.out _).mono ?_
          rintro e w5 ⟨rfl, hb5⟩
          have hbw5 := Lib.hid (hbw.out.trans (hb5.mono hbw.out.size))
          clear hb5
          go_wp2_with fail
          go_ret
          exact ⟨rfl, hbw5.out⟩

end Go.Proofs.Ytbnpeicmbbgboaa
