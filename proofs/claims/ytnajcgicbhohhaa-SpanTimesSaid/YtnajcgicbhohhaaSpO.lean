/-
  The statement on times: its walk.
-/
import Derived.Test.YtnajcgicbhohhaaSpM
import Derived.Deep.QuietTactic
import Derived.BigQuiet
namespace Go.Proofs.Ytnajcgicbhohhaa
open Go.RowKit Go.Sort Go.Lib

theorem Right_grown (s : Sp) (W : World) : Calls Try.prog 8 #[.agg #[.int .i64 s.a, .int .i64 s.b, .int .i64 s.n]] W fun e w' => e = .returned (.bool (rightB s)) ∧ ∃ q os', w' = grow (W.drewN q) os' :=
  (Right_any s W).mono fun _ _ ⟨he, hw⟩ => by subst hw; exact ⟨he, 0, _, by rw [alloc_eq_grow]; rfl⟩
theorem right_grown (s : Sp) (W : World) : Calls Try.prog 9 #[.agg #[.int .i64 s.a, .int .i64 s.b, .int .i64 s.n]] W fun e w' => e = .returned (.bool (rightB s)) ∧ ∃ q os', w' = grow (W.drewN q) os' :=
  (right_any s W).mono fun _ _ ⟨he, hw⟩ => by subst hw; exact ⟨he, 0, _, by rw [alloc_eq_grow]; rfl⟩

set_option maxRecDepth 100000 in
set_option maxHeartbeats 4000000 in
theorem times_walk (t : Int) (v : Value) (l : List Sp) (w : World) (h : RowAt enc3 3 w v l) :
    Calls Try.prog 3 #[.int .i64 t, v] w fun e w' => e = .returned (.bool true) ∧ Below w.heap.size w w' := by
  have hmix := mixed
  have hfew := few_any v l w h
  have hlen : (l.take 30).length ≤ 30 := by rw [List.length_take]; omega
  obtain ⟨m, hm⟩ : ∃ m, m = l.take 30 := ⟨_, rfl⟩
  rw [← hm] at hfew hlen
  clear hm h
  go_enter Try.func3, Try.ntmps3
  go_wp2_with (go_at_call 7; go_must (refine hfew.mono ?_); rintro e w' ⟨v', rfl, h, rfl⟩)
  have h0 := h
  obtain ⟨ao, cap, rfl, hlc, hcm, hcells⟩ := h0
  clear hcm hfew
  go_loopw [5, 6] (fun u i wr => ∃ (k : Nat), k ≤ m.length ∧ i = .int .i64 k ∧ u = .int .i64 (lastF (m.take k)) ∧ Below w.heap.size w wr) (fun _ i _ => m.length - (intOf i).toNat)
  case atStart => exact ⟨0, Nat.zero_le _, rfl, rfl, Below.refl _ _⟩
  case round =>
    obtain ⟨k, hk, rfl, rfl, hb⟩ := hrel
    by_cases hlt : k < m.length
    · obtain ⟨b, off, rfl, hbw, hcell⟩ := hcells (by omega)
      obtain ⟨s, hs⟩ : ∃ s, m[k]? = some s := ⟨_, List.getElem?_eq_getElem hlt⟩
      obtain ⟨c0, c1, c2⟩ := span_at hcell hs
      rw [← hb.cell (p := ⟨b, _, none⟩) hbw] at c0 c1 c2
      have hsz := hb.size
      have hbr : b < wr.heap.size := by omega
      have hx0 : (0 : Int) ≤ (k : Int) := by omega
      have hx1 : (k : Int) < (m.length : Int) := by omega
      have A0 := fun (q : Nat) (os : Array Obj) => cell_grown (a := ⟨b, _, none⟩) hbr c0 q os
      have A1 := fun (q : Nat) (os : Array Obj) => cell_grown (a := ⟨b, _, none⟩) hbr c1 q os
      have A2 := fun (q : Nat) (os : Array Obj) => cell_grown (a := ⟨b, _, none⟩) hbr c2 q os
      have hn : lastF (m.take (k + 1)) = if rightB s then max (lastF (m.take k)) s.b else lastF (m.take k) := by rw [take_snoc hs, lastF_snoc]
      obtain ⟨M, hM⟩ : ∃ M, M = lastF (m.take k) := ⟨_, rfl⟩
      rw [← hM] at hn ⊢
      have hRg := fun W => Right_grown s W
      have hrg := fun W => right_grown s W
      replace hs := Lib.hid hs
      clear hM c0 c1 c2 hcell hcells
      by_cases hr : rightB s = true
      · rw [hr] at hRg hrg
        rw [if_pos hr] at hn
        go_wp2_with fail
        go_quiet_grown (first | (go_at_call 8; exact Calls.grown_of (hRg _)) | (go_at_call 9; exact Calls.grown_of (hrg _)))
        have a0 := A0 nq osq
        have a1 := A1 nq osq
        have a2 := A2 nq osq
        have hb2 : Below w.heap.size w (grow (wr.drewN nq) osq) := below_grow (below_drewN hb nq) hsz osq
        have hbr2 : b < (grow (wr.drewN nq) osq).heap.size := by have := hb2.size; omega
        clear A0 A1 A2 hRg hrg
        obtain ⟨wq, hwq⟩ : ∃ wq, wq = grow (wr.drewN nq) osq := ⟨_, rfl⟩
        rw [← hwq] at hb2 hbr2 a0 a1 a2 ⊢
        clear hwq hb hbr hsz
        have hbd : Below w.heap.size w (wq.alloc (.cells #[.int .i64 s.a, .int .i64 s.b, .int .i64 s.n] 26)) := hb2.alloc hb2.size _
        by_cases h1 : M < s.b
        · have HN : Hid (lastF (m.take (k + 1)) = s.b) := by show _ = _; rw [hn]; exact Int.max_eq_right (by omega)
          clear hn
          go_wp2_with (go_at_call 9; go_must (refine (right_any s _).mono ?_); rintro e w' ⟨rfl, rfl⟩; rw [hr])
          go_roundw
          case rel => exact ⟨k + 1, by omega, by go_num, by rw [HN.out], hbd⟩
          case measure => simp [intOf]; omega
        · have h1' : s.b ≤ M := by omega
          have HN : Hid (lastF (m.take (k + 1)) = M) := by show _ = _; rw [hn]; exact Int.max_eq_left (by omega)
          clear hn
          go_wp2_with (go_at_call 9; go_must (refine (right_any s _).mono ?_); rintro e w' ⟨rfl, rfl⟩; rw [hr])
          go_roundw
          case rel => exact ⟨k + 1, by omega, by go_num, by rw [HN.out], hbd⟩
          case measure => simp [intOf]; omega
      · have hr' : rightB s = false := by simpa using hr
        rw [hr'] at hRg hrg
        rw [if_neg hr] at hn
        have HN : Hid (lastF (m.take (k + 1)) = M) := hn
        clear hn hr
        go_wp2_with fail
        go_quiet_grown (first | (go_at_call 8; exact Calls.grown_of (hRg _)) | (go_at_call 9; exact Calls.grown_of (hrg _)))
        have a0 := A0 nq osq
        have a1 := A1 nq osq
        have a2 := A2 nq osq
        have hb2 : Below w.heap.size w (grow (wr.drewN nq) osq) := below_grow (below_drewN hb nq) hsz osq
        have hbr2 : b < (grow (wr.drewN nq) osq).heap.size := by have := hb2.size; omega
        clear A0 A1 A2 hRg hrg
        obtain ⟨wq, hwq⟩ : ∃ wq, wq = grow (wr.drewN nq) osq := ⟨_, rfl⟩
        rw [← hwq] at hb2 hbr2 a0 a1 a2 ⊢
        clear hwq hb hbr hsz
        have hbd : Below w.heap.size w (wq.alloc (.cells #[.int .i64 s.a, .int .i64 s.b, .int .i64 s.n] 26)) := hb2.alloc hb2.size _
        go_wp2_with (go_at_call 9; go_must (refine (right_any s _).mono ?_); rintro e w' ⟨rfl, rfl⟩; rw [hr'])
        go_roundw
        case rel => exact ⟨k + 1, by omega, by go_num, by rw [HN.out], hbd⟩
        case measure => simp [intOf]; omega
    · obtain rfl : k = m.length := by omega
      rw [List.take_of_length_le (Nat.le_refl _)]
      have h1 := h.below hb
      have cT := fun W hW => Times_any (.slice ao m.length cap) m W hW hlen
      have ct := fun W hW => times_any (.slice ao m.length cap) m W hW hlen
      have cA := fun W hW => At_any t (.slice ao m.length cap) m W hW hlen
      have ca := fun W hW => at_any t (.slice ao m.length cap) m W hW hlen
      have cL := fun W hW => Last_any (.slice ao m.length cap) m W hW hlen
      obtain ⟨M, hM⟩ : ∃ M, M = lastF m := ⟨_, rfl⟩
      obtain ⟨U, hU⟩ : ∃ U, U = usedF m t := ⟨_, rfl⟩
      rw [← hU] at cA ca
      rw [← hM] at cL ⊢
      clear hM hU hcells
      go_wp2_with (go_at_call 10; go_must (refine (cT _ h1).mono ?_); rintro e w2 ⟨vx, r, rfl, hT, hx, hb2⟩; obtain ⟨ax, capx, rfl, hax⟩ := own_shape hx)
      refine (ct _ (h1.below hb2)).mono ?_
      rintro e w3 ⟨vy, r', rfl, hT', hy, hb3⟩
      obtain ⟨ay, capy, rfl, hay⟩ := own_shape hy
      have hrr := hT.unique hT'
      subst hrr
      have hx3 := own_kept hx hb3
      have hxl := own_len hx
      have hbw : Below w.heap.size w w3 := (hb.trans (hb2.mono hb.size)).trans (hb3.mono (Nat.le_trans hb.size hb2.size))
      have hne0 : decide ((r.length : Int) ≠ (r.length : Int)) = false := by simp
      clear hT hT' cT ct hx hb2 hb3 h1 hb
      go_wp2_with fail
      go_loopw [9] (fun i wr => ∃ (k : Nat), k ≤ r.length ∧ i = .int .i64 k ∧ Below w3.heap.size w3 wr) (fun i _ => r.length - (intOf i).toNat)
      case atStart => exact ⟨0, Nat.zero_le _, rfl, Below.refl _ _⟩
      case round =>
        obtain ⟨k, hk, rfl, hb⟩ := hrel
        by_cases hlt : k < r.length
        · obtain ⟨gx, rfl⟩ := hax (by omega)
          obtain ⟨gy, rfl⟩ := hay (by omega)
          obtain ⟨x, hxk⟩ : ∃ x, r[k]? = some x := ⟨_, List.getElem?_eq_getElem hlt⟩
          have e1 := int_of (own_kept hx3 hb) hxk
          have e2 := int_of (own_kept hy hb) hxk
          have hx0 : (0 : Int) ≤ (k : Int) := by omega
          have hx1 : (k : Int) < (r.length : Int) := by omega
          replace hxk := Lib.hid hxk
          go_wp2_with fail
          go_quiet (fail)
          have hbd := below_drewN hb nq
          go_wp2_with fail
          go_roundw
          case rel => exact ⟨k + 1, by omega, by go_num, hbd⟩
          case measure => simp [intOf]; omega
        · obtain rfl : k = r.length := by omega
          have hbb : Below w.heap.size w wr := hbw.trans (hb.mono hbw.size)
          have h4 := h.below hbb
          clear hax hay hx3 hy
          go_wp2_with (first | (go_at_call 12; go_must (refine (cA _ h4).mono ?_); rintro e w5 ⟨rfl, hb5⟩; have h5 := h4.below hb5) | (go_at_call 13; go_must (refine (ca _ h5).mono ?_); rintro e w6 ⟨rfl, hb6⟩; have h6 := h5.below hb6) | (go_at_call 14; go_must (refine (cL _ h6).mono ?_); rintro e w7 ⟨rfl, hb7⟩) | (go_at_call 15; go_must (refine (awake_any _).mono ?_); rintro e w8 ⟨rfl, hb8⟩))
          go_ret
          have s5 := hbb.size
          have s6 := hb5.size
          have s7 := hb6.size
          have s8 := hb7.size
          exact ⟨rfl, (((hbb.trans (hb5.mono s5)).trans (hb6.mono (by omega))).trans (hb7.mono (by omega))).trans (hb8.mono (by omega))⟩

theorem times_law (t : Int) (v : Value) (l : List Sp) (w : World) (_ : -9223372036854775808 ≤ t ∧ t ≤ 9223372036854775807) (h : RowAt enc3 3 w v l) (_ : ∀ s ∈ l, s.fits) :
    Calls Try.prog 3 #[.int .i64 t, v] w fun e w' => e = .returned (.bool true) ∧ Below w.heap.size w w' := times_walk t v l w h

end Go.Proofs.Ytnajcgicbhohhaa
