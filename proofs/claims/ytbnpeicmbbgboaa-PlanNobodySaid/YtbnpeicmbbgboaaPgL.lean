/-
  Own walk: the choices for items, or why there are none.
-/
import Derived.Test.YtbnpeicmbbgboaaPgK
import Derived.Deep.CutRange
namespace Go.Proofs.Ytbnpeicmbbgboaa
set_option maxRecDepth 8000
open Go.RowKit Go.Sort Go.Lib

theorem QO.of_xs {B : Nat} {w : World} {p g q k : Nat} {L : List (Int × Int)} {F : Int} {E : List Sp} {ver : Int} (h : XS B w p g q k L 0 F E ver) (hk : k ≤ 15) : QO B w q F E ver 15 :=
  ⟨h.y, h.ok, h.fr, h.F, by have := h.el; omega, by have := h.v; omega⟩
theorem XS.below {B : Nat} {w w' : World} {p g q k : Nat} {L : List (Int × Int)} {now F : Int} {E : List Sp} {ver : Int} (h : XS B w p g q k L now F E ver) (hb : Below w.heap.size w w') : XS B w' p g q k L now F E ver := h.kept hb

set_option maxRecDepth 1000000 in
set_option maxHeartbeats 8000000 in
theorem choices14_walk (n : Int) (vs : Value) (ls : List Sp) (depth : Int) (v : Value) (l : List It) (w : World) (hs : RowAt enc3 3 w vs ls) (hv : RowAt encI 4 w v l) :
    Calls Try.prog 3 #[.int .i64 n, vs, .int .i64 depth, v] w fun e w' => e = .returned (.bool true) ∧ Below w.heap.size w w' := by
  have haw := Lib.hid (fun W => awake14_fn W)
  have hmix := pf_mixed
  have hfew := few_fn hv
  obtain ⟨as0, cs0, rfl, -⟩ := id hs
  obtain ⟨av0, cv0, rfl, -⟩ := id hv
  by_cases hn : n < 0 ∨ 64 < n
  · have hmd := made14_bad n (.slice as0 ls.length cs0) w hn
    clear hs hv
    go_enter Try.func3, Try.ntmps3
    go_wp2_with fail
    go_at_call 7
    refine hfew.mono ?_
    clear hfew
    rintro e w1 ⟨v', rfl, hv', rfl⟩
    obtain ⟨a1, c1, rfl, -⟩ := hv'
    go_upto_region 4 with (go_at_call 8; go_must (refine hmd.mono ?_); rintro e w' ⟨rfl, rfl⟩)
    clear hmd
    rcases hn with hn | hn
    · go_wp2_with fail
      go_at_call 9
      refine (haw.out _).mono ?_
      rintro e w5 ⟨rfl, hb5⟩
      go_wp2_with fail
      go_ret
      exact ⟨rfl, hb5⟩
    · have hn2 : ¬ n < 0 := by omega
      go_wp2_with fail
      go_at_call 9
      refine (haw.out _).mono ?_
      rintro e w5 ⟨rfl, hb5⟩
      go_wp2_with fail
      go_ret
      exact ⟨rfl, hb5⟩
  · have hmd := made14_fn n (.slice as0 ls.length cs0) ls w (by omega) hs
    clear hs hv hn
    go_enter Try.func3, Try.ntmps3
    go_wp2_with fail
    go_at_call 7
    refine hfew.mono ?_
    clear hfew
    rintro e w1 ⟨v', rfl, hv', rfl⟩
    obtain ⟨r, hr⟩ : ∃ r, r = l.take 12 := ⟨_, rfl⟩
    have hrl : r.length ≤ 12 := by rw [hr, List.length_take]; omega
    rw [← hr] at hv'
    clear hr
    have hvv := Lib.hid hv'
    obtain ⟨a1, c1, rfl, q1, q2, -⟩ := hv'
    go_wp2_with fail
    go_at_call 8
    refine hmd.mono ?_
    clear hmd
    rintro e w2 ⟨p, g, q, k, L, E, ver, rfl, hk, hX, hb2⟩
    have hall := All_fn depth (PfOk.of_xs hX hk) (by omega) (by omega) (by omega) (hvv.out.below hb2) (by omega)
    have hsz2 := hb2.size
    replace hX := Lib.hid hX
    go_wp2_with fail
    go_at_call 10
    refine hall.mono ?_
    clear hall
    rintro e w3 ⟨hb3, hr3⟩
    have hbw3 := Lib.hid (hb2.trans (hb3.mono hsz2))
    have hQ3 := Lib.hid (QO.of_xs (hX.out.below hb3) hk)
    clear hX hb3 hb2
    by_cases hd : depth < 1 ∨ 64 < depth
    · obtain rfl : e = .returned (.tuple #[.slice none 0 0, .int .i64 1]) := by
        rcases hr3 with ⟨_, h⟩ | ⟨h, _⟩ | ⟨h, _⟩
        · exact h
        · omega
        · omega
      clear hr3 hQ3
      rcases hd with hd | hd
      · go_wp2_with fail
        go_at_call 9
        refine (haw.out _).mono ?_
        rintro e w5 ⟨rfl, hb5⟩
        have hbw5 := Lib.hid (hbw3.out.trans (hb5.mono hbw3.out.size))
        clear hb5
        go_wp2_with fail
        go_ret
        exact ⟨rfl, hbw5.out⟩
      · have hd0 : ¬ depth < 1 := by omega
        go_wp2_with fail
        go_at_call 9
        refine (haw.out _).mono ?_
        rintro e w5 ⟨rfl, hb5⟩
        have hbw5 := Lib.hid (hbw3.out.trans (hb5.mono hbw3.out.size))
        clear hb5
        go_wp2_with fail
        go_ret
        exact ⟨rfl, hbw5.out⟩
    · obtain ⟨K, rfl⟩ : ∃ K : Nat, depth = (K : Int) := ⟨depth.toNat, by omega⟩
      rw [Int.toNat_natCast] at hr3
      have hd1 : ¬ ((K : Int) < 1) := by omega
      have hd2 : ¬ (64 < (K : Int)) := by omega
      obtain ⟨v3, e3, rfl, hbad, hgood⟩ : ∃ (v3 : Value) (e3 : Int), e = .returned (.tuple #[v3, .int .i64 e3]) ∧ ((∃ x ∈ r.take K, ¬ x.ok) → v3 = .slice none 0 0 ∧ e3 = 5) ∧ ((∀ x ∈ r.take K, x.ok) → e3 = 0 ∧ ∃ c f', w3.ownsRow w2.heap.size 53 2 v3 c.length (prV c) ∧ PlansR 0 (r.take K) (raw n E) f' c) := by
        rcases hr3 with ⟨h, _⟩ | ⟨_, h, rfl⟩ | ⟨_, h, v3, c, f', rfl, ho, hR⟩
        · omega
        · exact ⟨_, _, rfl, fun _ => ⟨rfl, rfl⟩, fun h2 => by obtain ⟨x, hx, hn⟩ := h; exact absurd (h2 x hx) hn⟩
        · exact ⟨_, _, rfl, fun h2 => by (obtain ⟨x, hx, hn⟩ := h2; exact absurd (h x hx) hn), fun _ => ⟨rfl, c, f', ho, hR⟩⟩
      replace hbad := Lib.hid hbad
      replace hgood := Lib.hid hgood
      obtain ⟨a3, n3, c3, rfl⟩ : ∃ a n c, v3 = .slice a n c := by
        by_cases hg : ∀ x ∈ r.take K, x.ok
        · obtain ⟨_, c, _, ho, _⟩ := hgood.out hg
          obtain ⟨ao, cap, rfl, _⟩ := own_shape ho
          exact ⟨_, _, _, rfl⟩
        · have : ∃ x ∈ r.take K, ¬ x.ok := by
            rcases Classical.em (∃ x ∈ r.take K, ¬ x.ok) with h | h
            · exact h
            · exact absurd (fun x hx => Classical.byContradiction fun hn => h ⟨x, hx, hn⟩) hg
          obtain ⟨rfl, _⟩ := hbad.out this
          exact ⟨_, _, _, rfl⟩
      obtain ⟨r2, hr2⟩ : ∃ r2, r2 = r.take K := ⟨_, rfl⟩
      have hr2l : r2.length ≤ 12 := by rw [hr2, List.length_take]; omega
      rw [← hr2] at hbad hgood
      clear hd
      go_upto_if 64 with fail
      go_cut [3] from 65 (fun u wd => ∃ a5 c5, u = .slice a5 r2.length c5 ∧ Hid (RowAt encI 4 w (.slice a5 r2.length c5) r2) ∧ w3 = wd)
      case first =>
        by_cases hlt : K < r.length
        · have hc := hvv.out.cut (n := K) (by omega)
          have hl2 : r2.length = K := by rw [hr2, List.length_take]; omega
          rw [← hr2] at hc
          have hfin : Hid (RowAt encI 4 w (.slice a1 r2.length c1) r2) := by rw [hl2]; exact hc
          have hl3 := Lib.hid hl2
          have b1 : K ≤ c1 := by omega
          have b2 : (K : Int) < (r.length : Int) := by omega
          clear hc hl2 hr2 hlt
          go_wp2_with fail
          go_meet
          case rel => exact ⟨a1, c1, by rw [hl3.out], hfin, rfl⟩
        · have e2 : r2 = r := by rw [hr2]; exact List.take_of_length_le (by omega)
          have hfin : Hid (RowAt encI 4 w (.slice a1 r2.length c1) r2) := by rw [e2]; exact hvv.out
          have hl3 : Hid (r2.length = r.length) := by show _ = _; rw [e2]
          clear e2 hr2
          go_wp2_with fail
          go_meet
          case rel => exact ⟨a1, c1, by rw [hl3.out], hfin, rfl⟩
      case rest =>
        obtain ⟨a5, c5, rfl, hv5, rfl⟩ := hcut
        clear hr2
        obtain ⟨_, _, e1, x1, x2, x3⟩ := hv5.out
        injection e1 with e1 _ e2
        subst e1
        subst e2
        have hrow : Hid (0 < r2.length → ∃ b off, a5 = some ⟨b, off, none⟩ ∧ b < w3.heap.size ∧ ∀ i s j u, r2[i]? = some s → (encI s)[j]? = some u → w3.cell? ⟨b, off + (i * 4 + j), none⟩ = some u) := fun hp => by
          obtain ⟨b, off, rfl, hlt, hc⟩ := x3 hp
          refine ⟨b, off, rfl, by have := hbw3.out.size; omega, fun i s j u hi hj => ?_⟩
          rw [hbw3.out.cell (p := ⟨b, _, none⟩) hlt]
          exact hc i s j u hi hj
        clear x3
        have hlm : r2.length ≤ 9223372036854775807 := by omega
        have hsz3 := hbw3.out.size
        go_upto_region 11 with fail
        go_loopw [13] (fun ii wr => ∃ (i : Nat), i ≤ r2.length ∧ ii = .int .i64 i ∧ Hid (Below w3.heap.size w3 wr)) (fun ii _ => r2.length - (intOf ii).toNat)
        case atStart => exact ⟨0, Nat.zero_le _, rfl, Below.refl _ _⟩
        case round =>
          obtain ⟨i, hi, rfl, hb⟩ := hrel
          by_cases hlt : i < r2.length
          · obtain ⟨x, hx⟩ : ∃ x, r2[i]? = some x := ⟨_, List.getElem?_eq_getElem hlt⟩
            obtain ⟨b, off, rfl, hbw, hcell⟩ := hrow.out (by omega)
            have hc4 : Hid (∀ W, Below wr.heap.size wr W → W.cell? ⟨b, off + i * 4, none⟩ = some (.int .i64 x.id) ∧ W.cell? ⟨b, off + i * 4 + 1, none⟩ = some (.int .i64 x.wd) ∧ W.cell? ⟨b, off + i * 4 + 2, none⟩ = some (.int .i64 x.lim) ∧ W.cell? ⟨b, off + i * 4 + 3, none⟩ = some (.int .i64 x.pl)) := fun W hW => by
              have hbW := hb.out.trans (hW.mono hb.out.size)
              have h4 := item_at hcell hx
              rw [← hbW.cell (p := ⟨b, _, none⟩) hbw, ← hbW.cell (p := ⟨b, off + i * 4 + 1, none⟩) hbw, ← hbW.cell (p := ⟨b, off + i * 4 + 2, none⟩) hbw, ← hbW.cell (p := ⟨b, off + i * 4 + 3, none⟩) hbw] at h4
              exact h4
            obtain ⟨gb, hgb⟩ : ∃ gb, gb = okI x := ⟨_, rfl⟩
            have hR1 : Hid (∀ W, Calls Try.prog 11 #[.agg #[.int .i64 x.id, .int .i64 x.wd, .int .i64 x.lim, .int .i64 x.pl]] W fun e w' => e = .returned (.bool gb) ∧ Below W.heap.size W w') := fun W => (plan_Right_fn x W).mono fun e w' h => ⟨by rw [hgb]; exact h.1, by rw [h.2]; exact (Below.refl _ _).alloc (Nat.le_refl _) _⟩
            have hR2 : Hid (∀ W, Calls Try.prog 12 #[.agg #[.int .i64 x.id, .int .i64 x.wd, .int .i64 x.lim, .int .i64 x.pl]] W fun e w' => e = .returned (.bool gb) ∧ Below W.heap.size W w') := fun W => (law_right_fn x W).mono fun e w' h => ⟨by rw [hgb]; exact h.1, by rw [h.2]; exact (Below.refl _ _).alloc (Nat.le_refl _) _⟩
            have hgg : (gb != gb) = false := by simp
            have g1 : (0 : Int) ≤ i := by omega
            have g2 : (i : Int) < (r2.length : Int) := by omega
            have wi : IntKind.i64.wrap ((i : Int) + 1) = (i : Int) + 1 := IntWalk.i64_in _ (by omega)
            clear hcell hx hgb
            go_upto_region 13 with fail
            refine Reg.region_mk 9 119 [[], [false], [true, true], [true, true, true], [true, true, true, true], [false, false, false, false, false], [false, false, false, false, false, false], [false, false, false, false, false, true, true], [false, false, false, false, false, true, true, true]] [0, 0, 0, 1, 1, 0, 0, 0, 1]
              [.pure, .pure, .pure, .minor Unit () (fun _ => .agg #[.int .i64 x.id, .int .i64 x.wd, .int .i64 x.lim, .int .i64 x.pl]) (fun _ _ => True), .minor Unit () (fun _ => .bool gb) (fun _ _ => True), .pure, .pure, .pure, .minor Unit () (fun _ => .agg #[.int .i64 x.id, .int .i64 x.wd, .int .i64 x.lim, .int .i64 x.pl]) (fun _ _ => True)]
              (fun W => Below wr.heap.size wr W) (fun _ _ => True) (fun a b => Below a.heap.size a b) (by kernel_rfl) (by kernel_rfl) rfl rfl (fun vs a b h hs => trivial) ?_ ?_ ?_ ?_ ?_ ?_
            · intro a b he hb; exact hb.trans (Below.mono he hb.size)
            · intro a b he hb; exact hb.trans (Below.mono he hb.size)
            · exact ⟨trivial, trivial, trivial, ⟨fun _ _ _ _ _ => trivial, fun _ _ _ _ _ => trivial⟩, ⟨fun _ _ _ _ _ => trivial, fun _ _ _ _ _ => trivial⟩, trivial, trivial, trivial, ⟨fun _ _ _ _ _ => trivial, fun _ _ _ _ _ => trivial⟩, trivial⟩
            · exact ⟨rfl, rfl, rfl, Nat.le_refl _, fun _ _ => rfl⟩
            · trivial
            dsimp only [Reg.mk, List.zip, List.zipWith, List.take]
            repeat (refine' Reg.pass_is _ (by rfl) (fun wz => ?_) ?_; rotate_left; (go_simp; first | rfl | rw [if_neg (by omega)]); simp only [Act.put, List.setIfInBounds_toArray, List.set_cons_zero, List.set_cons_succ]; (try simp only [List.nil_append]); (try simp only [List.cons_append]); (try simp only [id]))
            refine Reg.pass_minor (by rfl) (fun wz hI hF => ?_) (fun r3 => ?_)
            · unfold Reg.One
              obtain ⟨s0, s1, s2, s3⟩ := hc4.out wz hI
              go_wp2_with fail
              first | exact ⟨_, rfl, rfl, Reg.Ext.refl _⟩ | exact ⟨_, rfl, ⟨(), rfl, trivial⟩, Reg.Ext.refl _⟩
            simp only [Act.put, List.setIfInBounds_toArray, List.set_cons_zero, List.set_cons_succ]; (try simp only [List.nil_append]); (try simp only [List.cons_append]); (try simp only [id])
            refine Reg.pass_minor (by rfl) (fun wz hI hF => ?_) (fun r4 => ?_)
            · unfold Reg.One
              have hs2 := hR1.out wz
              go_wp2_with (go_at_call 11; go_must (refine hs2.mono ?_); rintro e w5 ⟨rfl, hb5⟩)
              first | exact ⟨_, rfl, ⟨(), rfl, trivial⟩, hb5⟩ | exact ⟨_, rfl, rfl, hb5⟩
            simp only [Act.put, List.setIfInBounds_toArray, List.set_cons_zero, List.set_cons_succ]; (try simp only [List.nil_append]); (try simp only [List.cons_append]); (try simp only [id])
            repeat (refine' Reg.pass_is _ (by rfl) (fun wz => ?_) ?_; rotate_left; (go_simp; first | rfl | rw [if_neg (by omega)]); simp only [Act.put, List.setIfInBounds_toArray, List.set_cons_zero, List.set_cons_succ]; (try simp only [List.nil_append]); (try simp only [List.cons_append]); (try simp only [id]))
            refine Reg.pass_minor (by rfl) (fun wz hI hF => ?_) (fun r8 => ?_)
            · unfold Reg.One
              obtain ⟨s0, s1, s2, s3⟩ := hc4.out wz hI
              go_wp2_with fail
              first | exact ⟨_, rfl, rfl, Reg.Ext.refl _⟩ | exact ⟨_, rfl, ⟨(), rfl, trivial⟩, Reg.Ext.refl _⟩
            simp only [Act.put, List.setIfInBounds_toArray, List.set_cons_zero, List.set_cons_succ]; (try simp only [List.nil_append]); (try simp only [List.cons_append]); (try simp only [id])
            refine Reg.pass_end ?_
            intro w6 HI _ HFx
            clear HFx
            dsimp only [List.drop]
            have hb6 := Lib.hid (hb.out.trans (HI.mono hb.out.size))
            have hs2 := hR2.out w6
            clear HI hb hc4 hR1 hR2
            go_wp2_with fail
            go_at_call 12
            refine hs2.mono ?_
            clear hs2
            rintro e w7 ⟨rfl, hb7⟩
            have hb8 := Lib.hid (hb6.out.trans (hb7.mono hb6.out.size))
            clear hb7 hb6
            go_wp2_with fail
            go_roundw
            case rel => exact ⟨i + 1, by omega, by go_num, hb8⟩
            case measure => simp [intOf]; omega
          · obtain rfl : i = r2.length := by omega
            go_wp2_with fail
            go_loopw [14] (fun ii ws => ∃ (j : Nat), j ≤ r2.length ∧ ii = .int .i64 j ∧ Hid (∀ x ∈ r2.take j, x.ok) ∧ Hid (Below w3.heap.size w3 ws)) (fun ii _ => r2.length - (intOf ii).toNat)
            case atStart => exact ⟨0, Nat.zero_le _, rfl, fun x hx => by simp at hx, hb⟩
            case round =>
              obtain ⟨j, hj, rfl, hok, hbs⟩ := hrel
              clear hb
              by_cases hltj : j < r2.length
              · obtain ⟨x, hx⟩ : ∃ x, r2[j]? = some x := ⟨_, List.getElem?_eq_getElem hltj⟩
                obtain ⟨b, off, rfl, hbw, hcell⟩ := hrow.out (by omega)
                obtain ⟨s0, s1, s2, s3⟩ := item_at hcell hx
                rw [← hbs.out.cell (p := ⟨b, _, none⟩) hbw] at s0 s1 s2 s3
                have hR2 : ∀ W, Calls Try.prog 12 #[.agg #[.int .i64 x.id, .int .i64 x.wd, .int .i64 x.lim, .int .i64 x.pl]] W fun e w' => e = .returned (.bool (okI x)) ∧ Below W.heap.size W w' := fun W => (law_right_fn x W).mono fun e w' h => ⟨h.1, by rw [h.2]; exact (Below.refl _ _).alloc (Nat.le_refl _) _⟩
                have g1 : (0 : Int) ≤ j := by omega
                have g2 : (j : Int) < (r2.length : Int) := by omega
                have wi : IntKind.i64.wrap ((j : Int) + 1) = (j : Int) + 1 := IntWalk.i64_in _ (by omega)
                have htk := take_snoc hx
                have hmem := List.mem_of_getElem? hx
                clear hcell hx
                by_cases hg : x.ok
                · have hok' : Hid (∀ y ∈ r2.take (j + 1), y.ok) := by
                    rw [htk]
                    intro y hy
                    rcases List.mem_append.1 hy with h1 | h1
                    · exact hok.out y h1
                    · have : y = x := by simpa using h1
                      rw [this]; exact hg
                  rw [(okI_iff x).2 hg] at hR2
                  clear htk hmem hg
                  go_wp2_with fail
                  go_at_call 12
                  refine (hR2 _).mono ?_
                  clear hR2 s0 s1 s2 s3
                  rintro e w7 ⟨rfl, hb7⟩
                  have hb8 := Lib.hid (hbs.out.trans (hb7.mono hbs.out.size))
                  clear hb7 hbs
                  go_wp2_with fail
                  go_roundw
                  case rel => exact ⟨j + 1, by omega, by go_num, hok', hb8⟩
                  case measure => simp [intOf]; omega
                · obtain ⟨e1, rfl⟩ := hbad.out ⟨x, hmem, hg⟩
                  injection e1 with e1 e2 e3'
                  subst e1
                  subst e2
                  subst e3'
                  rw [okI_no hg] at hR2
                  clear htk hmem hg hgood hbad
                  go_wp2_with fail
                  go_at_call 12
                  refine (hR2 _).mono ?_
                  clear hR2 s0 s1 s2 s3
                  rintro e w7 ⟨rfl, hb7⟩
                  have hb8 := Lib.hid (hbw3.out.trans ((hbs.out.trans (hb7.mono hbs.out.size)).mono hsz3))
                  clear hb7 hbs
                  go_wp2_with fail
                  go_at_call 9
                  refine (haw.out _).mono ?_
                  rintro e w5 ⟨rfl, hb5⟩
                  have hbw5 := Lib.hid (hb8.out.trans (hb5.mono hb8.out.size))
                  clear hb5
                  go_wp2_with fail
                  go_ret
                  exact ⟨rfl, hbw5.out⟩
              · obtain rfl : j = r2.length := by omega
                have hok2 := hok.out
                rw [List.take_length] at hok2
                obtain ⟨rfl, c, f', ho, hR⟩ := hgood.out hok2
                have hbws := hbw3.out.trans (hbs.out.mono hsz3)
                have hpl := planned_fn (B := w.heap.size) (hQ3.out.kept hbs.out) (v := .slice a5 r2.length c5) (fun W hW => hv5.out.below (hbws.trans hW)) hok2 hr2l
                have hos := Lib.hid (pf_own_kept ho hbs.out)
                replace hR := Lib.hid hR
                replace hbws := Lib.hid hbws
                clear hbad hgood hok hok2 ho hQ3
                go_wp2_with fail
                go_at_call 14
                refine hpl.mono ?_
                clear hpl
                rintro e w5 ⟨v5, c5', E5, rfl, ho5, hR5, hb5, hT5⟩
                obtain ⟨rfl, _⟩ := PlansR.uniq _ hR.out hR5 (fun _ _ => rfl)
                have hsm := same14_fn (RowAt.of_own (enc := enc2) (hT5.own hos.out (by decide) (by decide)) (fun _ => rfl) rfl rfl) (RowAt.of_own (enc := enc2) ho5 (fun _ => rfl) rfl rfl)
                have hbw5 := Lib.hid (hbws.out.trans hb5)
                obtain ⟨ao5, cap5, rfl, _⟩ := own_shape ho5
                clear ho5 hR5 hb5 hT5 hos hR
                go_wp2_with fail
                go_at_call 13
                refine hsm.mono ?_
                clear hsm
                rintro e w6 ⟨rfl, hb6⟩
                have hbw6 := Lib.hid (hbw5.out.trans (hb6.mono hbw5.out.size))
                clear hb6
                go_wp2_with fail
                go_at_call 9
                refine (haw.out _).mono ?_
                rintro e w7 ⟨rfl, hb7⟩
                have hbw7 := Lib.hid (hbw6.out.trans (hb7.mono hbw6.out.size))
                clear hb7
                go_wp2_with fail
                go_ret
                exact ⟨rfl, hbw7.out⟩

end Go.Proofs.Ytbnpeicmbbgboaa
