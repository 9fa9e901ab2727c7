/-
  Own walks: which step holds at a time.
-/
import Derived.Test.YtbnpeicmbbgboaaPfA
namespace Go.Proofs.Ytbnpeicmbbgboaa
set_option maxRecDepth 8000
open Go.RowKit Go.Sort Go.Lib

def cmpF (x y : Int) : Int := if x < y then -1 else if x = y then 0 else 1
theorem cmpF_lt {x y : Int} (h : x < y) : cmpF x y = -1 := if_pos h
theorem cmpF_eq {x y : Int} (h : x = y) : cmpF x y = 0 := by unfold cmpF; rw [if_neg (by omega), if_pos h]
theorem cmpF_gt {x y : Int} (h : y < x) : cmpF x y = 1 := by unfold cmpF; rw [if_neg (by omega), if_neg (by omega)]

theorem isNaN_any (x : Int) (w : World) : Calls Try.prog 52 #[.int .i64 x] w fun e w' => e = .returned (.bool false) ∧ w' = w := by
  go_enter Try.func52, Try.ntmps52
  go_wp2_with fail
  go_ret
  exact ⟨by simp, rfl⟩

theorem cmp_any (x y : Int) (w : World) : Calls Try.prog 49 #[.int .i64 x, .int .i64 y] w fun e w' => e = .returned (.int .i64 (cmpF x y)) ∧ w' = w := by
  rcases Int.lt_trichotomy x y with h | h | h
  · rw [cmpF_lt h]
    go_enter Try.func49, Try.ntmps49
    go_wp2_with (go_at_call 52; refine (isNaN_any _ _).mono ?_; rintro e w' ⟨rfl, rfl⟩)
    go_ret
    exact ⟨rfl, rfl⟩
  · subst h
    rw [cmpF_eq rfl]
    have h1 : ¬ (x < x) := by omega
    go_enter Try.func49, Try.ntmps49
    go_wp2_with (go_at_call 52; refine (isNaN_any _ _).mono ?_; rintro e w' ⟨rfl, rfl⟩)
    go_ret
    exact ⟨rfl, rfl⟩
  · rw [cmpF_gt h]
    have h1 : ¬ (x < y) := by omega
    go_enter Try.func49, Try.ntmps49
    go_wp2_with (go_at_call 52; refine (isNaN_any _ _).mono ?_; rintro e w' ⟨rfl, rfl⟩)
    go_ret
    exact ⟨rfl, rfl⟩

theorem atCl_any (a f t : Int) (w : World) : Calls Try.prog 48 #[.agg #[.int .i64 a, .int .i64 f], .int .i64 t] w fun e w' => e = .returned (.int .i64 (cmpF a t)) ∧ w' = w.alloc (.cells #[.int .i64 a, .int .i64 f] 49) := by
  go_enter Try.func48, Try.ntmps48
  go_wp2_with (go_at_call 49; refine (cmp_any _ _ _).mono ?_; rintro e w' ⟨rfl, rfl⟩)
  go_ret
  exact ⟨rfl, rfl⟩

/-- How many steps begin ahead of a time. -/
structure IsCt (L : List (Int × Int)) (t : Int) (i : Nat) : Prop where
  le : i ≤ L.length
  lo : ∀ m, m < i → tA L m < t
  hi : ∀ m, i ≤ m → m < L.length → t ≤ tA L m

section
variable {w : World} {g : Nat} {L : List (Int × Int)} {now : Int} {f : Int → Int} {cap : Nat}

set_option maxHeartbeats 1000000 in
theorem bs_any (t : Int) (hs : Sm L now f) (hl : L.length ≤ 1000) (ho : w.ownsRow 0 49 2 (.slice (some ⟨g, 0, none⟩) L.length cap) L.length (prV L)) :
    Calls Try.prog 47 #[.slice (some ⟨g, 0, none⟩) L.length cap, .int .i64 t, .func (.func 48) #[] #[]] w
      fun e w' => ∃ i : Nat, e = .returned (.tuple #[.int .i64 i, .bool (decide (i < L.length ∧ tA L i = t))]) ∧ IsCt L t i ∧ Below w.heap.size w w' := by
  have hgw : g < w.heap.size := (ho.lt g rfl).2
  go_enter Try.func47, Try.ntmps47
  go_wp2_with fail
  go_loopw [9, 10] (fun i j wr => ∃ (lo hi : Nat), lo ≤ hi ∧ hi ≤ L.length ∧ i = .int .i64 lo ∧ j = .int .i64 hi ∧ (∀ m, m < lo → tA L m < t) ∧ (∀ m, hi ≤ m → m < L.length → t ≤ tA L m) ∧ Below w.heap.size w wr) (fun i j _ => (intOf j - intOf i).toNat)
  case atStart => exact ⟨0, L.length, Nat.zero_le _, Nat.le_refl _, rfl, rfl, fun m hm => by omega, fun m h1 h2 => by omega, Below.refl _ _⟩
  case round =>
    obtain ⟨lo, hi, hlh, hhl, rfl, rfl, hlo, hhi, hb⟩ := hrel
    have hown := pf_own_kept ho hb
    have hsz := hb.size
    by_cases hlt : lo < hi
    · obtain ⟨h, hh⟩ : ∃ h, h = (lo + hi) / 2 := ⟨_, rfl⟩
      have h1 : lo ≤ h := by omega
      have h2 : h < hi := by omega
      obtain ⟨a0, a1⟩ := step_cells hown (show h < L.length by omega)
      obtain ⟨x, hx⟩ : ∃ x, x = tA L h := ⟨_, rfl⟩
      obtain ⟨y, hy⟩ : ∃ y, y = tV L h := ⟨_, rfl⟩
      rw [← hx] at a0
      rw [← hy] at a1
      have hw1 : IntKind.i64.wrap ((lo : Int) + hi) = (lo : Int) + hi := IntWalk.i64_in _ (by omega)
      have hw2 : IntKind.u64.wrap ((lo : Int) + hi) = (lo : Int) + hi := by rw [IntKind.wrap_u64]; omega
      have hw4 : ((lo : Int) + hi) / 2 = (h : Int) := by omega
      have hw5 : IntKind.i64.wrap (h : Int) = h := IntWalk.i64_in _ (by omega)
      have hw6 : IntKind.i64.wrap ((h : Int) + 1) = (h : Int) + 1 := IntWalk.i64_in _ (by omega)
      have hb1 : (0 : Int) ≤ h := by omega
      have hb2 : (h : Int) < (L.length : Int) := by omega
      have hin : (lo : Int) < (hi : Int) := by omega
      have hbd : Below w.heap.size w (wr.alloc (.cells #[.int .i64 x, .int .i64 y] 49)) := hb.alloc hsz _
      replace hh := Lib.hid hh
      replace hx := Lib.hid hx
      replace hy := Lib.hid hy
      replace hlo := Lib.hid hlo
      replace hhi := Lib.hid hhi
      by_cases hc : x < t
      · have e := cmpF_lt hc
        go_wp2_with (go_at_call 48; refine (atCl_any _ _ _ _).mono ?_; rintro e w' ⟨rfl, rfl⟩; rw [e])
        go_roundw
        case rel => exact ⟨h + 1, hi, by omega, hhl, by go_num, rfl, fun m hm => by
                      rcases Nat.lt_or_ge m h with h3 | h3
                      · have := hs.le (i := m) (j := h) (by omega) (by have := h2; have := hhl; omega)
                        rw [← hx.out] at this; have := hc; omega
                      · have : m = h := by omega
                        subst this; rw [← hx.out]; exact hc, hhi.out, hbd⟩
        case measure => simp [intOf]; omega
      · have e : 0 ≤ cmpF x t := by unfold cmpF; rw [if_neg hc]; split <;> omega
        obtain ⟨c, hcc⟩ : ∃ c, cmpF x t = c := ⟨_, rfl⟩
        rw [hcc] at e
        have e2 : ¬ (c < 0) := by omega
        replace hc := Lib.hid hc
        go_wp2_with (go_at_call 48; refine (atCl_any _ _ _ _).mono ?_; rintro e w' ⟨rfl, rfl⟩; rw [hcc])
        go_roundw
        case rel => exact ⟨lo, h, h1, by omega, rfl, by go_num, hlo.out, fun m hm1 hm2 => by
                      have := hs.le (i := h) (j := m) hm1 hm2
                      rw [← hx.out] at this
                      have := hc.out
                      omega, hbd⟩
        case measure => simp [intOf]; omega
    · obtain rfl : lo = hi := by omega
      have hCt : Hid (IsCt L t lo) := ⟨hhl, hlo, hhi⟩
      replace hlo := Lib.hid hlo
      replace hhi := Lib.hid hhi
      by_cases hend : lo < L.length
      · obtain ⟨a0, a1⟩ := step_cells hown hend
        obtain ⟨x, hx⟩ : ∃ x, x = tA L lo := ⟨_, rfl⟩
        obtain ⟨y, hy⟩ : ∃ y, y = tV L lo := ⟨_, rfl⟩
        have hbd : Below w.heap.size w (wr.alloc (.cells #[.int .i64 x, .int .i64 y] 49)) := hb.alloc hsz _
        rw [← hx] at a0
        rw [← hy] at a1
        have hb2 : (lo : Int) < (L.length : Int) := by omega
        have hd : decide ((lo : Int) < (L.length : Int)) = true := decide_eq_true hb2
        have hr : Hid (decide (lo < L.length ∧ tA L lo = t) = (cmpF x t == 0)) := by
          show _ = _
          rw [← hx]
          rcases Int.lt_trichotomy x t with h | h | h
          · rw [cmpF_lt h, decide_eq_false (by omega)]; rfl
          · rw [cmpF_eq h, decide_eq_true ⟨hend, h⟩]; rfl
          · rw [cmpF_gt h, decide_eq_false (by omega)]; rfl
        replace hx := Lib.hid hx
        replace hy := Lib.hid hy
        replace hend := Lib.hid hend
        obtain ⟨c, hcc⟩ : ∃ c, cmpF x t = c := ⟨_, rfl⟩
        rw [hcc] at hr
        go_wp2_with (go_at_call 48; refine (atCl_any _ _ _ _).mono ?_; rintro e w' ⟨rfl, rfl⟩; rw [hcc])
        go_ret2
        exact ⟨lo, by rw [hr.out]; rfl, hCt.out, hbd⟩
      · have hd : decide ((lo : Int) < (L.length : Int)) = false := decide_eq_false (by omega)
        have hr : Hid (decide (lo < L.length ∧ tA L lo = t) = false) := decide_eq_false (by omega)
        replace hend := Lib.hid hend
        go_wp2_with fail
        go_ret2
        exact ⟨lo, by rw [hr.out]; rfl, hCt.out, hb⟩
end

section
variable {w : World} {p g : Nat} {L : List (Int × Int)} {ver now : Int} {f : Int → Int}
set_option maxHeartbeats 1000000 in
theorem pf_at_any (t : Int) (hs : Sm L now f) (hl : L.length ≤ 1000) (h : PW w p g L ver) :
    Calls Try.prog 43 #[.pointer (some ⟨p, 0, none⟩), .int .i64 t] w fun e w' => ∃ i : Nat, e = .returned (.int .i64 i) ∧ IsIx L t i ∧ Below w.heap.size w w' := by
  obtain ⟨cap, F⟩ := h.facts
  have c0 := F.c0
  have hbs := bs_any t hs hl F.own
  have hpos := hs.pos
  clear F h
  go_enter Try.func43, Try.ntmps43
  go_wp2_with fail
  go_at_call 47
  refine hbs.mono ?_
  clear hbs
  rintro e w' ⟨i, rfl, hC, hb⟩
  have hCl := hC.le
  by_cases hd : i < L.length ∧ tA L i = t
  · rw [decide_eq_true hd]
    have hi0 : (0 : Int) ≤ i := by omega
    have hI : Hid (IsIx L t i) := ⟨hd.1, fun _ => by rw [hd.2]; exact Int.le_refl _, fun hx => by rw [← hd.2]; exact hs.inc i hx⟩
    replace hd := Lib.hid hd
    clear c0
    go_wp2_with fail
    go_ret
    exact ⟨i, by go_num, hI.out, hb⟩
  · rw [decide_eq_false hd]
    have hw : IntKind.i64.wrap ((i : Int) - 1) = (i : Int) - 1 := IntWalk.i64_in _ (by omega)
    have hI : Hid (IsIx L t (i - 1)) := by
      refine ⟨by omega, fun h0 => Int.le_of_lt (hC.lo _ (by omega)), fun hx => ?_⟩
      rcases Nat.eq_zero_or_pos i with h0 | h0
      · subst h0
        have := hC.hi 0 (Nat.zero_le _) hpos
        have := hs.inc 0 (by omega)
        show t < tA L (0 + 1)
        omega
      · rw [show i - 1 + 1 = i by omega] at hx ⊢
        have h1 := hC.hi i (Nat.le_refl _) hx
        have h2 : tA L i ≠ t := fun e => hd ⟨hx, e⟩
        omega
    have hm : Hid (max ((i : Int) - 1) 0 = ((i - 1 : Nat) : Int)) := by show _ = _; omega
    replace hd := Lib.hid hd
    clear c0
    go_wp2_with fail
    go_ret
    exact ⟨i - 1, by rw [← hm.out]; rfl, hI.out, hb⟩
end

end Go.Proofs.Ytbnpeicmbbgboaa
