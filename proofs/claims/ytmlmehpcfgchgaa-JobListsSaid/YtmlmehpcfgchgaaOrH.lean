/-
  Contracts of the comparison's parts: cmp.Compare and cmp.Or at int.
-/
import Derived.Test.YtmlmehpcfgchgaaOrC
namespace Go.Proofs.Ytmlmehpcfgchgaa
open Go.RowKit Go.Lib Go.Sort

def cmpI (x y : Int) : Int := if x < y then -1 else if y < x then 1 else 0
theorem isNaN_fn (x : Int) (w : World) : Calls Try.prog 48 #[.int .i64 x] w fun e w' => e = .returned (.bool false) ∧ w = w' := by
  have h : (x != x) = false := by simp
  go_enter Try.func48, Try.ntmps48
  go_wp2_with fail
  go_ret
  exact ⟨rfl, rfl⟩
theorem cmpInt_fn (x y : Int) (w : World) : Calls Try.prog 45 #[.int .i64 x, .int .i64 y] w fun e w' => e = .returned (.int .i64 (cmpI x y)) ∧ w = w' := by
  have hx := isNaN_fn x w
  have hy := isNaN_fn y w
  unfold cmpI
  by_cases h1 : x < y
  · have e1 : (if x < y then (-1 : Int) else if y < x then 1 else 0) = -1 := if_pos h1
    rw [e1]
    go_enter Try.func45, Try.ntmps45
    go_wp2_with (go_at_call 48; first | (refine hx.mono ?_; rintro e w' ⟨rfl, rfl⟩) | (refine hy.mono ?_; rintro e w' ⟨rfl, rfl⟩))
    go_ret
    exact ⟨rfl, rfl⟩
  · by_cases h2 : y < x
    · have e1 : (if x < y then (-1 : Int) else if y < x then 1 else 0) = 1 := by rw [if_neg h1, if_pos h2]
      rw [e1]
      go_enter Try.func45, Try.ntmps45
      go_wp2_with (go_at_call 48; first | (refine hx.mono ?_; rintro e w' ⟨rfl, rfl⟩) | (refine hy.mono ?_; rintro e w' ⟨rfl, rfl⟩))
      go_ret
      exact ⟨rfl, rfl⟩
    · have e1 : (if x < y then (-1 : Int) else if y < x then 1 else 0) = 0 := by rw [if_neg h1, if_neg h2]
      rw [e1]
      go_enter Try.func45, Try.ntmps45
      go_wp2_with (go_at_call 48; first | (refine hx.mono ?_; rintro e w' ⟨rfl, rfl⟩) | (refine hy.mono ?_; rintro e w' ⟨rfl, rfl⟩))
      go_ret
      exact ⟨rfl, rfl⟩

/-- The first of two that is not 0. -/
theorem or2_fn (x y : Int) (p c : Nat) (w : World) (h0 : w.cell? ⟨p, 0, none⟩ = some (.int .i64 x)) (h1 : w.cell? ⟨p, 1, none⟩ = some (.int .i64 y)) : Calls Try.prog 44 #[.slice (some ⟨p, 0, none⟩) 2 c] w fun e w' => e = .returned (.int .i64 (if x = 0 then y else x)) ∧ w = w' := by
  by_cases hx : x = 0
  · subst hx
    rw [if_pos rfl]
    by_cases hy : y = 0
    · subst hy
      go_enter Try.func44, Try.ntmps44
      go_wp2_with fail
      go_loopw [8] (fun ii wr => ∃ (i : Nat), i ≤ 2 ∧ ii = .int .i64 i ∧ wr = w) (fun ii _ => 2 - (intOf ii).toNat)
      case atStart => exact ⟨0, by omega, rfl, rfl⟩
      case round =>
        obtain ⟨i, hi, rfl, rfl⟩ := hrel
        rcases (by omega : i = 0 ∨ i = 1 ∨ i = 2) with rfl | rfl | rfl
        · go_wp2_with fail
          go_roundw
          case rel => exact ⟨1, by omega, rfl, trivial⟩
          case measure => decide
        · go_wp2_with fail
          go_roundw
          case rel => exact ⟨2, by omega, rfl, trivial⟩
          case measure => decide
        · go_wp2_with fail
          go_ret
          exact ⟨rfl, rfl⟩
    · have ny : (y != 0) = true := by simp [hy]
      go_enter Try.func44, Try.ntmps44
      go_wp2_with fail
      go_loopw [8] (fun ii wr => ∃ (i : Nat), i ≤ 1 ∧ ii = .int .i64 i ∧ wr = w) (fun ii _ => 2 - (intOf ii).toNat)
      case atStart => exact ⟨0, by omega, rfl, rfl⟩
      case round =>
        obtain ⟨i, hi, rfl, rfl⟩ := hrel
        rcases (by omega : i = 0 ∨ i = 1) with rfl | rfl
        · go_wp2_with fail
          go_roundw
          case rel => exact ⟨1, by omega, rfl, trivial⟩
          case measure => decide
        · go_wp2_with fail
          go_ret
          exact ⟨rfl, rfl⟩
  · rw [if_neg hx]
    have nx : (x != 0) = true := by simp [hx]
    go_enter Try.func44, Try.ntmps44
    go_wp2_with fail
    go_loopw [8] (fun ii wr => ii = .int .i64 0 ∧ wr = w) (fun ii _ => 2 - (intOf ii).toNat)
    case atStart => exact ⟨rfl, rfl⟩
    case round =>
      obtain ⟨rfl, rfl⟩ := hrel
      go_wp2_with fail
      go_ret
      exact ⟨rfl, rfl⟩
theorem cmp_both (a b : Jb) : (if cmpI b.prio a.prio = 0 then cmpI a.id b.id else cmpI b.prio a.prio) = cmpJ a b := by
  unfold cmpI cmpJ aheadJ
  by_cases h1 : b.prio < a.prio
  · simp [h1]
  · by_cases h2 : a.prio < b.prio
    · have : ¬ a.prio = b.prio := by omega
      have : ¬ b.prio = a.prio := by omega
      simp [*]
    · have e : a.prio = b.prio := by omega
      simp [e]

end Go.Proofs.Ytmlmehpcfgchgaa
