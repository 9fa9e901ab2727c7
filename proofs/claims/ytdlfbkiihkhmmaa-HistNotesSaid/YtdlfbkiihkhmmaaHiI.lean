/-
  Own walk: the law of what is early.
-/
import Derived.Test.YtdlfbkiihkhmmaaHiH
import Derived.Deep.Cut
import Derived.Deep.CutRange
namespace Go.Proofs.Ytdlfbkiihkhmmaa
set_option maxRecDepth 8000
open Go.RowKit Go.Lib Put

theorem latN_succ (zs : List Ev) (k t : Int) (i : Nat) : latN zs k t (i + 1) = if isE k t zs[i]! then (i : Int) else latN zs k t i := rfl
theorem early_eq (zs : List Ev) (a b : Int) : earlyF zs a b = (decide (0 ≤ latE zs 3 a) && decide (0 ≤ latE zs 1 b) && decide (latE zs 3 a < latE zs 1 b)) := by
  unfold earlyF
  by_cases h1 : 0 ≤ latE zs 3 a
  · by_cases h2 : latE zs 3 a < latE zs 1 b
    · have h3 : 0 ≤ latE zs 1 b := by omega
      simp [h1, h2, h3]
    · simp [h2]
  · simp [h1]
theorem RowAt.cutE {w : World} {ao : Option Addr} {cap m : Nat} {l : List Ev} (h : RowAt encE 24 w (.slice ao m cap) l) (n : Nat) (hn : n ≤ l.length) : RowAt encE 24 w (.slice ao n cap) (l.take n) := RowAt.cut h hn

set_option maxRecDepth 100000 in
set_option maxHeartbeats 8000000 in
theorem histEarly_walk (v1 : Value) (lx : List Ev) (a b : Int) (w : World) (hr : RowAt encE 24 w v1 lx) :
    Calls Try.prog 5 #[v1, .int .i64 a, .int .i64 b] w fun e w' => e = .returned (.bool true) ∧ Below w.heap.size w w' := by
  have hrH := Lib.hid hr
  obtain ⟨ao, cap, rfl, hlc, hcm, _⟩ := hr
  have hlm : lx.length ≤ 9223372036854775807 := by unfold maxLen at hcm; omega
  have hcM : cap ≤ 9223372036854775807 := by unfold maxLen at hcm; omega
  clear hcm
  go_enter Try.func5, Try.ntmps5
  go_upto_if 15 with fail
  go_cut [0] from 13 (fun u wd => ∃ a5 c5 n5, ∃ r : List Ev, u = .slice a5 n5 c5 ∧ r.length = n5 ∧ n5 ≤ 60 ∧ n5 ≤ c5 ∧ c5 ≤ 9223372036854775807 ∧ Hid (RowAt encE 24 w (.slice a5 n5 c5) r) ∧ w = wd)
  case first =>
    by_cases hlt : 60 < lx.length
    · have hc := hrH.out.cut (n := 60) (by omega)
      have hl2 : Hid ((lx.take 60).length = 60) := by show _ = _; rw [List.length_take]; omega
      replace hc := Lib.hid hc
      have b1 : 60 ≤ cap := by omega
      have b2 : (60 : Int) < (lx.length : Int) := by omega
      clear hlt
      go_wp2_with fail
      go_meet
      case rel => exact ⟨ao, cap, 60, _, rfl, hl2.out, by omega, b1, hcM, hc.out, rfl⟩
    · have hl2 : Hid (lx.length ≤ 60) := by show _ ≤ _; omega
      go_wp2_with fail
      go_meet
      case rel => exact ⟨ao, cap, _, _, rfl, rfl, hl2.out, hlc, hcM, hrH.out, rfl⟩
  case rest =>
    obtain ⟨a5, c5, n, r, rfl, hrn, hn60, hnc5, hc5, hR, rfl⟩ := hcut
    clear hrH hlc hlm hcM
    have HA : Hid (0 < n → ∃ b off, a5 = some ⟨b, off, none⟩) := fun hp => by
      obtain ⟨_, _, e1, _, _, q3⟩ := hR.out
      injection e1 with e1 _ _
      subst e1
      obtain ⟨b, off, e, _⟩ := q3 (by omega)
      exact ⟨b, off, e⟩
    have hE := fun (w2 : World) (h : Below w.heap.size w w2) => Early_fn _ r a b w2 (hR.out.below h)
    have hre : earlyF r a b = (decide (0 ≤ latN r 3 a n) && decide (0 ≤ latN r 1 b n) && decide (latN r 3 a n < latN r 1 b n)) := by
      rw [early_eq]; unfold latE; rw [hrn]
    replace hrn := Lib.hid hrn
    replace hE := Lib.hid hE
    replace hre := Lib.hid hre
    go_wp2_with fail
    go_loopw [7, 8, 9] (fun tt cc ii wr => ∃ (i : Nat), i ≤ n ∧ ii = .int .i64 i ∧ tt = .int .i64 (latN r 3 a i) ∧ cc = .int .i64 (latN r 1 b i) ∧ w = wr) (fun _ _ ii _ => n - (intOf ii).toNat)
    case atStart => exact ⟨0, Nat.zero_le _, rfl, rfl, rfl, rfl⟩
    case round =>
      obtain ⟨i, hi, rfl, rfl, rfl, rfl⟩ := hrel
      have hwi : IntKind.i64.wrap ((i : Int) + 1) = (i : Int) + 1 := IntWalk.i64_in _ (by omega)
      by_cases hlt : i < n
      · obtain ⟨g, off, rfl⟩ := HA.out (by omega)
        have hiL : i < r.length := by rw [hrn.out]; exact hlt
        have c1 : w.cell? ⟨g, off + i * 24 + 1, none⟩ = some (.int .i64 (r[i]!).kd) := by rw [Nat.add_assoc]; exact ev_cell hR.out hiL 1 _ rfl
        have c2 : w.cell? ⟨g, off + i * 24 + 2, none⟩ = some (.int .i64 (r[i]!).tk) := by rw [Nat.add_assoc]; exact ev_cell hR.out hiL 2 _ rfl
        have s3 := latN_succ r 3 a i
        have s1 := latN_succ r 1 b i
        unfold isE at s3 s1
        obtain ⟨y, hy⟩ : ∃ y, y = r[i]! := ⟨_, rfl⟩
        rw [← hy] at c1 c2 s3 s1
        obtain ⟨kd, hkd⟩ : ∃ kd, kd = y.kd := ⟨_, rfl⟩
        obtain ⟨tk, htk⟩ : ∃ tk, tk = y.tk := ⟨_, rfl⟩
        rw [← hkd] at c1 s3 s1
        rw [← htk] at c2 s3 s1
        obtain ⟨p, hp⟩ : ∃ p, latN r 3 a i = p := ⟨_, rfl⟩
        obtain ⟨q, hq⟩ : ∃ q, latN r 1 b i = q := ⟨_, rfl⟩
        rw [hp] at s3 ⊢
        rw [hq] at s1 ⊢
        clear hy hkd htk hp hq
        have b0 : (0 : Int) ≤ i := by omega
        have b3 : (i : Int) < (n : Int) := by omega
        by_cases h3 : kd = 3
        · subst h3
          rw [if_neg (by simp)] at s1
          by_cases ha : tk = a
          · subst ha
            rw [if_pos (by simp)] at s3
            replace s1 := Lib.hid s1
            replace s3 := Lib.hid s3
            go_wp2_with fail
            go_roundw
            case rel => exact ⟨i + 1, by omega, by go_num, by rw [s3.out], by rw [s1.out], trivial⟩
            case measure => simp [intOf]; omega
          · rw [if_neg (by simp [ha])] at s3
            have d : (tk == a) = false := by simp [ha]
            replace s1 := Lib.hid s1
            replace s3 := Lib.hid s3
            replace ha := Lib.hid ha
            go_wp2_with fail
            go_roundw
            case rel => exact ⟨i + 1, by omega, by go_num, by rw [s3.out], by rw [s1.out], trivial⟩
            case measure => simp [intOf]; omega
        · rw [if_neg (by simp [h3])] at s3
          have d3 : (kd == 3) = false := by simp [h3]
          replace h3 := Lib.hid h3
          by_cases h1 : kd = 1
          · subst h1
            by_cases hb : tk = b
            · subst hb
              rw [if_pos (by simp)] at s1
              replace s1 := Lib.hid s1
              replace s3 := Lib.hid s3
              go_wp2_with fail
              go_roundw
              case rel => exact ⟨i + 1, by omega, by go_num, by rw [s3.out], by rw [s1.out], trivial⟩
              case measure => simp [intOf]; omega
            · rw [if_neg (by simp [hb])] at s1
              have d : (tk == b) = false := by simp [hb]
              replace s1 := Lib.hid s1
              replace s3 := Lib.hid s3
              replace hb := Lib.hid hb
              go_wp2_with fail
              go_roundw
              case rel => exact ⟨i + 1, by omega, by go_num, by rw [s3.out], by rw [s1.out], trivial⟩
              case measure => simp [intOf]; omega
          · rw [if_neg (by simp [h1])] at s1
            have d1 : (kd == 1) = false := by simp [h1]
            replace h1 := Lib.hid h1
            replace s1 := Lib.hid s1
            replace s3 := Lib.hid s3
            go_wp2_with fail
            go_roundw
            case rel => exact ⟨i + 1, by omega, by go_num, by rw [s3.out], by rw [s1.out], trivial⟩
            case measure => simp [intOf]; omega
      · obtain rfl : i = n := by omega
        have d1 : ¬ (i : Int) < (i : Int) := by omega
        have hr2 := hre.out
        have hE2 := hE.out
        have hE3 := fun (w2 : World) (h : Below w.heap.size w w2) => by
          have := hE2 w2 h
          rw [hr2] at this
          exact this
        clear hE2 hr2 hre hE hlt
        obtain ⟨p, hp⟩ : ∃ p, latN r 3 a i = p := ⟨_, rfl⟩
        obtain ⟨q, hq⟩ : ∃ q, latN r 1 b i = q := ⟨_, rfl⟩
        rw [hp, hq] at hE3 ⊢
        clear hp hq
        have hF := Find_nil a b w
        have eF : FindPost w [] a b = (fun e w' => e = .returned (.tuple #[.agg (encE default).toArray, .bool false]) ∧ Below w.heap.size w w') := rfl
        rw [eF] at hF
        clear eF
        replace hE2 := Lib.hid hE3
        clear hE3
        by_cases h1 : 0 ≤ p
        · have e1 : decide (0 ≤ p) = true := decide_eq_true h1
          by_cases h2 : 0 ≤ q
          · have e2 : decide (0 ≤ q) = true := decide_eq_true h2
            by_cases h3 : p < q
            · have e3 : decide (p < q) = true := decide_eq_true h3
              go_wp2_with (first
                | (go_at_call 6; refine (Tick_nil _).mono ?_; rintro e w' ⟨rfl, rfl⟩)
                | (go_at_call 7; refine (Note_nil _).mono ?_; rintro e w' ⟨rfl, rfl⟩)
                | (go_at_call 13; refine hF.mono ?_; clear hF; rintro e w1 ⟨rfl, hb1'⟩; have hb1 := Lib.hid hb1'; clear hb1')
                | (refine wpList_store_ev _ rfl _ _ rfl rfl (n := w1.heap.size) (y := default) rfl rfl (heap_alloc_new w1 _) (by rfl) ?_
                   intro w2 hn2 hO2
                   have hb2 := (hb1.out.alloc hb1.out.size _).trans (hO2.below (by have := hb1.out.size; simp; omega) hb1.out.size (fun k hk => by cases hk))
                   have hE3 := hE2.out w2 hb2
                   clear hn2 hO2)
                | (go_at_call 16; refine hE3.mono ?_; clear hE3; rintro e w3 ⟨rfl, hb3⟩)
                | (go_at_call 12; refine (Step_nil _).mono ?_; rintro e w' ⟨rfl, rfl⟩)
                | (go_at_call 9; refine (Events_nil _).mono ?_; rintro e w' ⟨rfl, rfl⟩)
                | (go_at_call 11; refine (Order_nil _).mono ?_; rintro e w4 ⟨rfl, hb4⟩)
                | (go_at_call 14; refine (awake_fn _).mono ?_; rintro e w5 ⟨rfl, hb5⟩))
              go_ret
              exact ⟨rfl, Below.add (Below.add (Below.add hb2 hb3) hb4) hb5⟩
            · have e3 : decide (p < q) = false := decide_eq_false h3
              go_wp2_with (first
                | (go_at_call 6; refine (Tick_nil _).mono ?_; rintro e w' ⟨rfl, rfl⟩)
                | (go_at_call 7; refine (Note_nil _).mono ?_; rintro e w' ⟨rfl, rfl⟩)
                | (go_at_call 13; refine hF.mono ?_; clear hF; rintro e w1 ⟨rfl, hb1'⟩; have hb1 := Lib.hid hb1'; clear hb1')
                | (refine wpList_store_ev _ rfl _ _ rfl rfl (n := w1.heap.size) (y := default) rfl rfl (heap_alloc_new w1 _) (by rfl) ?_
                   intro w2 hn2 hO2
                   have hb2 := (hb1.out.alloc hb1.out.size _).trans (hO2.below (by have := hb1.out.size; simp; omega) hb1.out.size (fun k hk => by cases hk))
                   have hE3 := hE2.out w2 hb2
                   clear hn2 hO2)
                | (go_at_call 16; refine hE3.mono ?_; clear hE3; rintro e w3 ⟨rfl, hb3⟩)
                | (go_at_call 12; refine (Step_nil _).mono ?_; rintro e w' ⟨rfl, rfl⟩)
                | (go_at_call 9; refine (Events_nil _).mono ?_; rintro e w' ⟨rfl, rfl⟩)
                | (go_at_call 11; refine (Order_nil _).mono ?_; rintro e w4 ⟨rfl, hb4⟩)
                | (go_at_call 14; refine (awake_fn _).mono ?_; rintro e w5 ⟨rfl, hb5⟩))
              go_ret
              exact ⟨rfl, Below.add (Below.add (Below.add hb2 hb3) hb4) hb5⟩
          · have e2 : decide (0 ≤ q) = false := decide_eq_false h2
            go_wp2_with (first
              | (go_at_call 6; refine (Tick_nil _).mono ?_; rintro e w' ⟨rfl, rfl⟩)
              | (go_at_call 7; refine (Note_nil _).mono ?_; rintro e w' ⟨rfl, rfl⟩)
              | (go_at_call 13; refine hF.mono ?_; clear hF; rintro e w1 ⟨rfl, hb1'⟩; have hb1 := Lib.hid hb1'; clear hb1')
              | (refine wpList_store_ev _ rfl _ _ rfl rfl (n := w1.heap.size) (y := default) rfl rfl (heap_alloc_new w1 _) (by rfl) ?_
                 intro w2 hn2 hO2
                 have hb2 := (hb1.out.alloc hb1.out.size _).trans (hO2.below (by have := hb1.out.size; simp; omega) hb1.out.size (fun k hk => by cases hk))
                 have hE3 := hE2.out w2 hb2
                 clear hn2 hO2)
              | (go_at_call 16; refine hE3.mono ?_; clear hE3; rintro e w3 ⟨rfl, hb3⟩)
              | (go_at_call 12; refine (Step_nil _).mono ?_; rintro e w' ⟨rfl, rfl⟩)
              | (go_at_call 9; refine (Events_nil _).mono ?_; rintro e w' ⟨rfl, rfl⟩)
              | (go_at_call 11; refine (Order_nil _).mono ?_; rintro e w4 ⟨rfl, hb4⟩)
              | (go_at_call 14; refine (awake_fn _).mono ?_; rintro e w5 ⟨rfl, hb5⟩))
            go_ret
            exact ⟨rfl, Below.add (Below.add (Below.add hb2 hb3) hb4) hb5⟩
        · have e1 : decide (0 ≤ p) = false := decide_eq_false h1
          go_wp2_with (first
            | (go_at_call 6; refine (Tick_nil _).mono ?_; rintro e w' ⟨rfl, rfl⟩)
            | (go_at_call 7; refine (Note_nil _).mono ?_; rintro e w' ⟨rfl, rfl⟩)
            | (go_at_call 13; refine hF.mono ?_; clear hF; rintro e w1 ⟨rfl, hb1'⟩; have hb1 := Lib.hid hb1'; clear hb1')
            | (refine wpList_store_ev _ rfl _ _ rfl rfl (n := w1.heap.size) (y := default) rfl rfl (heap_alloc_new w1 _) (by rfl) ?_
               intro w2 hn2 hO2
               have hb2 := (hb1.out.alloc hb1.out.size _).trans (hO2.below (by have := hb1.out.size; simp; omega) hb1.out.size (fun k hk => by cases hk))
               have hE3 := hE2.out w2 hb2
               clear hn2 hO2)
            | (go_at_call 16; refine hE3.mono ?_; clear hE3; rintro e w3 ⟨rfl, hb3⟩)
            | (go_at_call 12; refine (Step_nil _).mono ?_; rintro e w' ⟨rfl, rfl⟩)
            | (go_at_call 9; refine (Events_nil _).mono ?_; rintro e w' ⟨rfl, rfl⟩)
            | (go_at_call 11; refine (Order_nil _).mono ?_; rintro e w4 ⟨rfl, hb4⟩)
            | (go_at_call 14; refine (awake_fn _).mono ?_; rintro e w5 ⟨rfl, hb5⟩))
          go_ret
          exact ⟨rfl, Below.add (Below.add (Below.add hb2 hb3) hb4) hb5⟩

end Go.Proofs.Ytdlfbkiihkhmmaa
