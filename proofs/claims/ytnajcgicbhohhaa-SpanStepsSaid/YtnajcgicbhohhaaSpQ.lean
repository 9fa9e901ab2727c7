/-
  The statement on steps: its walk.
-/
import Derived.Test.YtnajcgicbhohhaaSpP
namespace Go.Proofs.Ytnajcgicbhohhaa
open Go.RowKit Go.Sort Go.Lib

theorem at_grown (t : Int) (v : Value) (l : List Sp) (w : World) (h : RowAt enc3 3 w v l) (hlen : l.length ≤ 30) :
    Calls Try.prog 13 #[.int .i64 t, v] w fun e w' => e = .returned (.int .i64 (usedF l t)) ∧ ∃ q os', w' = grow (w.drewN q) os' :=
  (at_gr t v l w h hlen).mono fun _ _ ⟨he, os, hw⟩ => ⟨he, 0, os, by rw [hw]; rfl⟩
theorem outF_head (all f : Int) (l : List Sp) (r : List Int) : (outF all f l r)[0]? = some (f, all - usedF l f) := by
  obtain ⟨s, hs⟩ := keptK_prefix (stepsR all f l r) 1 (stepsR all f l r).length (by rw [stepsR_len]; omega) (Nat.le_refl _)
  rw [keptK_one (stepsR all f l r) (f, all - usedF l f) rfl] at hs
  rw [outF, compF_keptK, hs]
  rfl
theorem step_neq_same (x y : Int) (w : World) : (binOp .neq 41 (.agg #[.int .i64 x, .int .i64 y]) (.agg #[.int .i64 x, .int .i64 y])).run Try.prog w = .ok (.bool false) w := by
  have := step_neq (x, y) (x, y) w
  simpa using this
theorem cutF_at {f : Int} {l : List Sp} {k : Nat} {s : Sp} (hs : l[k]? = some s) (h : rightB s = true ∧ f < s.b) : (cutF f l)[(cutF f (l.take k)).length]? = some (cutS f s) := by
  obtain ⟨hk, rfl⟩ := List.getElem?_eq_some_iff.1 hs
  have hd : l = l.take k ++ l[k] :: l.drop (k + 1) := by rw [← List.drop_eq_getElem_cons hk, List.take_append_drop]
  have e : cutF f l = cutF f (l.take k) ++ (cutS f l[k] :: cutF f (l.drop (k + 1))) := by
    conv => lhs; rw [hd]
    simp only [cutF, List.flatMap_append, List.flatMap_cons]
    rw [if_pos h]
    rfl
  rw [e, List.getElem?_append_right (Nat.le_refl _), Nat.sub_self]
  rfl

set_option maxRecDepth 100000 in
set_option maxHeartbeats 4000000 in
theorem steps_in (all f : Int) (v : Value) (l : List Sp) (w : World) (h : RowAt enc3 3 w v l) (ha0 : -1048576 ≤ all) (ha1 : all ≤ 1048576) :
    Calls Try.prog 6 #[.int .i64 all, .int .i64 f, v] w fun e w' => e = .returned (.bool true) ∧ Below w.heap.size w w' := by
  have hmix := mixed
  have hfew := few_any v l w h
  have hlen : (l.take 30).length ≤ 30 := by rw [List.length_take]; omega
  obtain ⟨m, hm⟩ : ∃ m, m = l.take 30 := ⟨_, rfl⟩
  rw [← hm] at hfew hlen
  have hT := compact_sort m
  obtain ⟨r, hr⟩ : ∃ r, r = compact ((allT m).mergeSort fun x y => decide (x ≤ y)) := ⟨_, rfl⟩
  rw [← hr] at hT
  clear hm h hr
  obtain ⟨D, hD⟩ : ∃ D, D = outF all f m r := ⟨_, rfl⟩
  have cS := fun v' W hW => StepsR_any all f v' m r W hW hlen ⟨ha0, ha1⟩ hT
  rw [← hD] at cS
  have hg1 : decide (all < -1048576) = false := decide_eq_false (by omega)
  have hg2 : decide (1048576 < all) = false := decide_eq_false (by omega)
  go_enter Try.func6, Try.ntmps6
  replace hD := Lib.hid hD
  replace hT := Lib.hid hT
  go_wp2_with (first | (go_at_call 7; go_must (refine hfew.mono ?_); rintro e w' ⟨v', rfl, h, rfl⟩) | (go_at_call 18; go_must (refine (cS v' _ h).mono ?_); rintro e w2 ⟨g, cap, rfl, hS, hb2⟩))
  have h2 := h.below hb2
  have hSl := own_len hS
  have hpos : 0 < D.length := by rw [hD.out]; exact outF_pos all f m r
  have hhead : D[0]? = some (f, all - usedF m f) := by rw [hD.out]; exact outF_head all f m r
  obtain ⟨a0, a1⟩ := pair_of hS hhead
  dsimp only at a0 a1
  rw [Nat.zero_mul] at a0 a1
  have hgw := (hS.lt g rfl).2
  have A0 := fun (q : Nat) (os : Array Obj) => cell_grown (a := ⟨g, _, none⟩) hgw a0 q os
  have A1 := fun (q : Nat) (os : Array Obj) => cell_grown (a := ⟨g, _, none⟩) hgw a1 q os
  have hu := usedF_range m f
  obtain ⟨U, hU⟩ : ∃ U, U = usedF m f := ⟨_, rfl⟩
  have cat := fun (q : Nat) (os : Array Obj) (hW : RowAt enc3 3 (grow (w2.drewN q) os) v' m) => at_grown f v' m _ hW hlen
  have hrow2 := fun (q : Nat) (os : Array Obj) => h2.below (below_grow (below_drewN (Below.refl w2.heap.size w2) q) (Nat.le_refl _) os)
  rw [← hU] at A1 hu cat
  replace hU := Lib.hid hU
  replace hhead := Lib.hid hhead
  have hz : decide ((D.length : Int) = 0) = false := decide_eq_false (by omega)
  have hz2 : ((D.length : Int) == 0) = false := by rw [beq_eq_false_iff_ne]; omega
  have hq0 : (0 : Int) < (D.length : Int) := by omega
  have hsub : IntKind.i64.wrap (all - U) = all - U := IntWalk.i64_in _ (by omega)
  have hgd := step_guard
  have hne := fun W => step_neq_same f (all - U) W
  clear a0 a1 cS hfew
  go_wp2_with fail
  go_quiet_grown ((go_at_call 13; exact Calls.grown_of (cat _ _ (hrow2 _ _))))
  have hb3 : Below w2.heap.size w2 (grow (w2.drewN nq) osq) := below_grow (below_drewN (Below.refl _ _) nq) (Nat.le_refl _) osq
  have hS3 := own_kept hS hb3
  have h3 := h2.below hb3
  have hbw3 : Below w.heap.size w (grow (w2.drewN nq) osq) := hb2.trans (hb3.mono hb2.size)
  obtain ⟨wq, hwq⟩ : ∃ wq, wq = grow (w2.drewN nq) osq := ⟨_, rfl⟩
  rw [← hwq] at hS3 h3 hbw3 ⊢
  clear hwq hb3 hS h2 h hb2 A0 A1 cat hrow2 hne hsub hgw hz hz2
  have ct := fun W hW => times_any v' m W hW hlen
  go_wp2_with (go_at_call 11; go_must (refine (ct _ h3).mono ?_); rintro e w4 ⟨vx, r', rfl, hT', hx, hb4⟩; obtain ⟨ax, capx, rfl, hax⟩ := own_shape hx)
  have hrr := hT.out.unique hT'
  subst hrr
  have hS4 := own_kept hS3 hb4
  have h4 := h3.below hb4
  have hxl := own_len hx
  have hbw4 : Below w.heap.size w w4 := hbw3.trans (hb4.mono hbw3.size)
  have hat0 : Hid (atK all f m r 0 = 0) := atK_zero all f m r
  clear hT' ct hS3 h3 hb4 hbw3
  go_loopw [9, 10] (fun kk i wr => ∃ (j : Nat), j ≤ r.length ∧ i = .int .i64 j ∧ kk = .int .i64 (atK all f m r j) ∧ Below w4.heap.size w4 wr) (fun _ i _ => r.length - (intOf i).toNat)
  case atStart => exact ⟨0, Nat.zero_le _, rfl, by rw [hat0.out]; rfl, Below.refl _ _⟩
  case round =>
    obtain ⟨j, hj, rfl, rfl, hb⟩ := hrel
    by_cases hlt : j < r.length
    · obtain ⟨gx, rfl⟩ := hax (by omega)
      obtain ⟨x, hxj⟩ : ∃ x, r[j]? = some x := ⟨_, List.getElem?_eq_getElem hlt⟩
      obtain ⟨hKl, y, hy, -⟩ := atK_get all f m r j
      rw [← hD.out] at hKl hy
      have hx0 : (0 : Int) ≤ (j : Int) := by omega
      have hx1 : (j : Int) < (r.length : Int) := by omega
      have hat := fun W hW => at_gr x v' m W hW hlen
      have hux := usedF_range m x
      have hsame := fun (h1 : f < x) (he : all - usedF m x = y.2) => atK_same (all := all) (l := m) hxj h1 (by rw [← hD.out]; exact hy) he
      have hnext := fun (h1 : f < x) (he : ¬ all - usedF m x = y.2) => atK_next (all := all) (l := m) hxj h1 (by rw [← hD.out]; exact hy) he
      have hskip := fun (h1 : ¬ f < x) => atK_skip (all := all) (l := m) hxj h1
      obtain ⟨u, hu'⟩ : ∃ u, u = usedF m x := ⟨_, rfl⟩
      rw [← hu'] at hat hux hsame hnext
      obtain ⟨K, hK⟩ : ∃ K, K = atK all f m r j := ⟨_, rfl⟩
      rw [← hK] at hKl hy hsame hnext hskip ⊢
      have hxc := int_of (own_kept hx hb) hxj
      have hgx := (hx.lt gx rfl).2
      have hsz := hb.size
      have hgxr : gx < wr.heap.size := by omega
      have hKi : (K : Int) < (D.length : Int) := by omega
      have hrow := h4.below hb
      replace hxj := Lib.hid hxj
      replace hy := Lib.hid hy
      clear hu' hK
      have hfr : IntKind.i64.wrap (all - u) = all - u := IntWalk.i64_in _ (by omega)
      clear hfr
      have hut : -9223372036854775808 ≤ all - u ∧ all - u ≤ 9223372036854775807 := by omega
      by_cases h1 : f < x
      · by_cases he : all - u = y.2
        · have HN : Hid (atK all f m r (j + 1) = K) := hsame h1 he
          clear hsame hnext hskip
          replace he := Lib.hid he
          go_wp2_with fail
          refine (hat _ hrow).mono ?_
          rintro e w5 ⟨rfl, hg5⟩
          have hb5 := hg5.below
          have hxc5 := (hb5.cell (p := ⟨gx, _, none⟩) hgxr).trans hxc
          have hbd : Below w4.heap.size w4 w5 := hb.trans (hb5.mono hsz)
          obtain ⟨y0, y1⟩ := pair_of (own_kept hS4 hbd) hy.out
          rw [← he.out] at y1
          clear hxc
          go_wp2_with fail
          go_roundw
          case rel => exact ⟨j + 1, by omega, by go_num, by rw [HN.out], hbd⟩
          case measure => simp [intOf]; omega
        · obtain ⟨hn1, hn2⟩ := hnext h1 he
          have HN : Hid (atK all f m r (j + 1) = K + 1) := hn1
          rw [← hD.out] at hn2
          have hK1 : K + 1 < D.length := (List.getElem?_eq_some_iff.1 hn2).1
          have hK1i : (K : Int) + 1 < (D.length : Int) := by omega
          have hnn := fun W => step_neq_same x (all - u) W
          replace hn2 := Lib.hid hn2
          clear hsame hnext hskip hn1
          go_wp2_with fail
          refine (hat _ hrow).mono ?_
          rintro e w5 ⟨rfl, hg5⟩
          have hb5 := hg5.below
          have hxc5 := (hb5.cell (p := ⟨gx, _, none⟩) hgxr).trans hxc
          have hbd : Below w4.heap.size w4 w5 := hb.trans (hb5.mono hsz)
          obtain ⟨y0, y1⟩ := pair_of (own_kept hS4 hbd) hy.out
          obtain ⟨z0, z1⟩ := pair_of (own_kept hS4 hbd) hn2.out
          dsimp only at z0 z1
          have hi3 : ((K : Int) + 1).toNat = K + 1 := by omega
          have hi4 : (0 : Int) ≤ (K : Int) + 1 := by omega
          have hd4 : decide ((D.length : Int) ≤ (K : Int) + 1) = false := decide_eq_false (by omega)
          clear hxc
          go_wp2_with fail
          go_quiet (fail)
          have hbd2 := below_drewN hbd nq
          go_wp2_with fail
          go_roundw
          case rel => exact ⟨j + 1, by omega, by go_num, by rw [HN.out]; go_num, hbd2⟩
          case measure => simp [intOf]; omega
      · have HN : Hid (atK all f m r (j + 1) = K) := hskip h1
        have h1' : x ≤ f := by omega
        clear hsame hnext hskip
        go_wp2_with fail
        refine (hat _ hrow).mono ?_
        rintro e w5 ⟨rfl, hg5⟩
        have hb5 := hg5.below
        have hxc5 := (hb5.cell (p := ⟨gx, _, none⟩) hgxr).trans hxc
        have hbd : Below w4.heap.size w4 w5 := hb.trans (hb5.mono hsz)
        clear hxc
        go_wp2_with fail
        go_roundw
        case rel => exact ⟨j + 1, by omega, by go_num, by rw [HN.out], hbd⟩
        case measure => simp [intOf]; omega
    · obtain rfl : j = r.length := by omega
      have hend : atK all f m r r.length = D.length - 1 := by rw [hD.out]; exact atK_end all f m r
      rw [hend]
      have h5 := h4.below hb
      have hbw5 : Below w.heap.size w wr := hbw4.trans (hb.mono hbw4.size)
      have cC := fun W hW => Cut_any f v' m W hW hlen
      have hk1 : ((D.length - 1 : Nat) : Int) = (D.length : Int) - 1 := by omega
      rw [hk1]
      replace hk1 := Lib.hid hk1
      clear hend hx hax hS4 h4 hb hbw4 hD hT hhead hU
      go_wp2_with (go_at_call 19; go_must (refine (cC _ h5).mono ?_); rintro e w6 ⟨vc, rfl, hC, hb6⟩; obtain ⟨ac, capc, rfl, hac⟩ := own_shape hC)
      have h6 := h5.below hb6
      have hbw6 : Below w.heap.size w w6 := hbw5.trans (hb6.mono hbw5.size)
      have hcl := own_len hC
      clear cC h5 hb6 hbw5
      obtain ⟨am, capm, rfl, hlm, hcm, hcells⟩ := id h6
      clear hcm
      go_loopw [13, 14] (fun n i wr => ∃ (j : Nat), j ≤ m.length ∧ i = .int .i64 j ∧ n = .int .i64 (cutF f (m.take j)).length ∧ Below w6.heap.size w6 wr) (fun _ i _ => m.length - (intOf i).toNat)
      case atStart => exact ⟨0, Nat.zero_le _, rfl, rfl, Below.refl _ _⟩
      case round =>
        obtain ⟨j, hj, rfl, rfl, hb⟩ := hrel
        by_cases hlt : j < m.length
        · obtain ⟨b, off, rfl, hbw, hcell⟩ := hcells (by omega)
          obtain ⟨s, hs⟩ : ∃ s, m[j]? = some s := ⟨_, List.getElem?_eq_getElem hlt⟩
          obtain ⟨c0, c1, c2⟩ := span_at hcell hs
          rw [← hb.cell (p := ⟨b, _, none⟩) hbw] at c0 c1 c2
          have hsz := hb.size
          have hx1 : (j : Int) < (m.length : Int) := by omega
          have hbr : b < wr.heap.size := by omega
          clear hcell hcells
          have hcn := fun (h : rightB s = true ∧ f < s.b) => cutF_yes (l := m.take j) h
          have hcz := fun (h : ¬ (rightB s = true ∧ f < s.b)) => cutF_no (l := m.take j) h
          have hct := fun (h : rightB s = true ∧ f < s.b) => cutF_at hs h
          have htk := take_snoc hs
          rw [← htk] at hcn hcz
          clear htk
          obtain ⟨N, hN⟩ : ∃ N, N = (cutF f (m.take j)).length := ⟨_, rfl⟩
          rw [← hN] at hct
          replace hs := Lib.hid hs
          have hbd2 : Below w6.heap.size w6 ((wr.alloc (.cells #[.int .i64 s.a, .int .i64 s.b, .int .i64 s.n] 26)).alloc (.cells #[.int .i64 s.a, .int .i64 s.b, .int .i64 s.n] 26)) := (hb.alloc hb.size _).alloc (Nat.le_trans hb.size (by simp)) _
          have hbd3 : Below w6.heap.size w6 ((wr.alloc (.cells #[.int .i64 f, .int .i64 s.b, .int .i64 s.n] 26)).alloc (.cells #[.int .i64 s.a, .int .i64 s.b, .int .i64 s.n] 26)) := (hb.alloc hb.size _).alloc (Nat.le_trans hb.size (by simp)) _
          by_cases hr : rightB s = true
          · by_cases h1 : f < s.b
            · have hNx : Hid ((cutF f (m.take (j + 1))).length = N + 1) := by show _ = _; rw [hcn ⟨hr, h1⟩, List.length_append, ← hN]; rfl
              have hcx := hct ⟨hr, h1⟩
              have hNlt : N < (cutF f m).length := (List.getElem?_eq_some_iff.1 hcx).1
              obtain ⟨gc, rfl⟩ := hac (by omega)
              have hCr := own_kept hC hb
              have hgc := (hCr.lt gc rfl).2
              have hNi : (N : Int) < ((cutF f m).length : Int) := by omega
              have hNd : decide (((cutF f m).length : Int) ≤ (N : Int)) = false := decide_eq_false (by omega)
              have hgs := span_guard
              rw [← hN]
              clear hcn hcz hct hN
              by_cases h2 : s.a < f
              · have hcut : cutS f s = ⟨f, s.b, s.n⟩ := by unfold cutS; rw [Int.max_eq_right (by omega)]
                rw [hcut] at hcx
                obtain ⟨d0, d1, d2⟩ := span_of hCr hcx
                dsimp only at d0 d1 d2
                have hnn := fun W => span_neq_same ⟨f, s.b, s.n⟩ W
                dsimp only at hnn
                replace hcx := Lib.hid hcx
                replace hCr := Lib.hid hCr
                clear hcut
                obtain ⟨L, hL⟩ : ∃ L, L = (cutF f m).length := ⟨_, rfl⟩
                go_wp2_with (go_at_call 9; go_must (refine (right_any s _).mono ?_); rintro e w' ⟨rfl, rfl⟩; rw [hr])
                go_quiet (fail)
                go_wp2_with fail
                go_roundw
                case rel => exact ⟨j + 1, by omega, by go_num, by rw [hNx.out]; go_num, below_drewN hbd3 _⟩
                case measure => simp [intOf]; omega
              · have h2' : f ≤ s.a := by omega
                have hcut : cutS f s = ⟨s.a, s.b, s.n⟩ := by unfold cutS; rw [Int.max_eq_left (by omega)]
                rw [hcut] at hcx
                obtain ⟨d0, d1, d2⟩ := span_of hCr hcx
                dsimp only at d0 d1 d2
                have hnn := fun W => span_neq_same ⟨s.a, s.b, s.n⟩ W
                dsimp only at hnn
                replace hcx := Lib.hid hcx
                replace hCr := Lib.hid hCr
                clear hcut
                go_wp2_with (go_at_call 9; go_must (refine (right_any s _).mono ?_); rintro e w' ⟨rfl, rfl⟩; rw [hr])
                go_quiet (fail)
                go_wp2_with fail
                go_roundw
                case rel => exact ⟨j + 1, by omega, by go_num, by rw [hNx.out]; go_num, below_drewN hbd2 _⟩
                case measure => simp [intOf]; omega
            · have h1' : s.b ≤ f := by omega
              have HN : Hid (cutF f (m.take (j + 1)) = cutF f (m.take j)) := hcz (fun h => h1 h.2)
              clear hcn hcz hct hN
              go_wp2_with (go_at_call 9; go_must (refine (right_any s _).mono ?_); rintro e w' ⟨rfl, rfl⟩; rw [hr])
              go_roundw
              case rel => exact ⟨j + 1, by omega, by go_num, by rw [HN.out], hbd2⟩
              case measure => simp [intOf]; omega
          · have hr' : rightB s = false := by simpa using hr
            have HN : Hid (cutF f (m.take (j + 1)) = cutF f (m.take j)) := hcz (fun h => hr h.1)
            clear hcn hcz hct hN hr
            go_wp2_with (go_at_call 9; go_must (refine (right_any s _).mono ?_); rintro e w' ⟨rfl, rfl⟩; rw [hr'])
            go_roundw
            case rel => exact ⟨j + 1, by omega, by go_num, by rw [HN.out], hbd2⟩
            case measure => simp [intOf]; omega
        · obtain rfl : j = m.length := by omega
          rw [List.take_of_length_le (Nat.le_refl _)]
          have hbb := hbw6.trans (hb.mono hbw6.size)
          clear hcells hC hac
          go_wp2_with (go_at_call 15; go_must (refine (awake_any _).mono ?_); rintro e w8 ⟨rfl, hb8⟩)
          go_ret
          exact ⟨rfl, hbb.trans (hb8.mono hbb.size)⟩

set_option maxHeartbeats 1000000 in
theorem steps_out (all f : Int) (v : Value) (l : List Sp) (w : World) (h : RowAt enc3 3 w v l) (h1 : all < -1048576 ∨ 1048576 < all) :
    Calls Try.prog 6 #[.int .i64 all, .int .i64 f, v] w fun e w' => e = .returned (.bool true) ∧ Below w.heap.size w w' := by
  have hfew := few_any v l w h
  clear h
  rcases h1 with h1 | h1
  · go_enter Try.func6, Try.ntmps6
    go_wp2_with (first | (go_at_call 7; go_must (refine hfew.mono ?_); rintro e w' ⟨v', rfl, h, rfl⟩) | (go_at_call 15; go_must (refine (awake_any _).mono ?_); rintro e w4 ⟨rfl, hb4⟩))
    go_ret
    exact ⟨rfl, hb4⟩
  · have h2 : -1048576 ≤ all := by omega
    go_enter Try.func6, Try.ntmps6
    go_wp2_with (first | (go_at_call 7; go_must (refine hfew.mono ?_); rintro e w' ⟨v', rfl, h, rfl⟩) | (go_at_call 15; go_must (refine (awake_any _).mono ?_); rintro e w4 ⟨rfl, hb4⟩))
    go_ret
    exact ⟨rfl, hb4⟩

theorem steps_law (all f : Int) (v : Value) (l : List Sp) (w : World) (_ : -9223372036854775808 ≤ all ∧ all ≤ 9223372036854775807) (_ : -9223372036854775808 ≤ f ∧ f ≤ 9223372036854775807) (h : RowAt enc3 3 w v l) (_ : ∀ s ∈ l, s.fits) :
    Calls Try.prog 6 #[.int .i64 all, .int .i64 f, v] w fun e w' => e = .returned (.bool true) ∧ Below w.heap.size w w' := by
  by_cases h0 : -1048576 ≤ all ∧ all ≤ 1048576
  · exact steps_in all f v l w h h0.1 h0.2
  · exact steps_out all f v l w h (by omega)

end Go.Proofs.Ytnajcgicbhohhaa
