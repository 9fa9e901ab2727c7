/-
  Own walks: the statement's own set of locks: try, free, all.
-/
import Derived.Test.YtlenhkmddmlknaaLkB
namespace Go.Proofs.Ytlenhkmddmlknaa
set_option maxRecDepth 8000
open Go.RowKit Go.Lib

theorem later_three (l : Lk) (who : Int) : l.later 3 who = false := by unfold Lk.later; simp
theorem later_yes (l : Lk) {i who : Int} (hi : i = 0 ∨ i = 1 ∨ i = 2) (h : l.own i = who) : l.later i who = true := by
  unfold Lk.later
  rcases hi with rfl | rfl | rfl
  · rw [show l.a = who from h]; simp
  · rw [show l.b = who from h]; simp
  · rw [show l.c = who from h]; simp
theorem later_no (l : Lk) {i who : Int} (hi : i = 0 ∨ i = 1 ∨ i = 2) (h : ¬ l.own i = who) : l.later (i + 1) who = l.later i who := by
  unfold Lk.later
  rcases hi with rfl | rfl | rfl
  · have e : ¬ l.a = who := h
    simp [e]
  · have e : ¬ l.b = who := h
    simp [e]
  · have e : ¬ l.c = who := h
    simp [e]
theorem free_has (l : Lk) {k : Int} (who : Int) (hk : k = 0 ∨ k = 1 ∨ k = 2) : (l.freeE k who == 0) = l.has k who ∧ l.freeL k who = l.drop1 k who := by
  unfold Lk.freeL Lk.drop1
  have e : (l.freeE k who = 0) ↔ l.has k who = true := by
    unfold Lk.freeE Lk.has
    cases hl : lackF k who
    · have hw := (lack_not hl).2
      rw [decide_eq_true hw]
      by_cases h : l.own k = who <;> simp [h]
    · have hw : ¬ 0 < who := by unfold lackF isF at hl; rcases hk with rfl | rfl | rfl <;> simp at hl <;> omega
      simp [hw]
  refine ⟨?_, ?_⟩
  · cases hx : l.has k who
    · have : ¬ l.freeE k who = 0 := fun h => by rw [e.1 h] at hx; cases hx
      simp [this]
    · rw [e.2 hx]; rfl
  · cases hx : l.has k who
    · rw [if_neg fun h => by rw [e.1 h] at hx; cases hx]; rfl
    · rw [if_pos (e.2 hx)]; rfl

section
variable {w : World} {s : Nat} {l : Lk}

theorem try_lack (k who : Int) (h : LkAt 29 w s l) (hl : lackF k who = true) : Calls Try.prog 16 #[.pointer (some ⟨s, 0, none⟩), .int .i64 k, .int .i64 who] w (LkPost 29 w s 1 l) := by
  have hc : k < 0 ∨ 2 < k ∨ who < 1 := by unfold lackF isF at hl; simp at hl; omega
  replace h := Lib.hid h
  clear hl
  by_cases h0 : k < 0
  · clear hc
    go_enter Try.func16, Try.ntmps16
    go_wp2_with fail
    go_ret
    exact ⟨rfl, h.out, Put.Off.refl _ _ _⟩
  by_cases h1 : 2 < k
  · clear hc
    go_enter Try.func16, Try.ntmps16
    go_wp2_with fail
    go_ret
    exact ⟨rfl, h.out, Put.Off.refl _ _ _⟩
  have h2 : who < 1 := by omega
  clear hc
  go_enter Try.func16, Try.ntmps16
  go_wp2_with fail
  go_ret
  exact ⟨rfl, h.out, Put.Off.refl _ _ _⟩

theorem free_lack (k who : Int) (h : LkAt 29 w s l) (hl : lackF k who = true) : Calls Try.prog 17 #[.pointer (some ⟨s, 0, none⟩), .int .i64 k, .int .i64 who] w (LkPost 29 w s 1 l) := by
  have hc : k < 0 ∨ 2 < k ∨ who < 1 := by unfold lackF isF at hl; simp at hl; omega
  replace h := Lib.hid h
  clear hl
  by_cases h0 : k < 0
  · clear hc
    go_enter Try.func17, Try.ntmps17
    go_wp2_with fail
    go_ret
    exact ⟨rfl, h.out, Put.Off.refl _ _ _⟩
  by_cases h1 : 2 < k
  · clear hc
    go_enter Try.func17, Try.ntmps17
    go_wp2_with fail
    go_ret
    exact ⟨rfl, h.out, Put.Off.refl _ _ _⟩
  have h2 : who < 1 := by omega
  clear hc
  go_enter Try.func17, Try.ntmps17
  go_wp2_with fail
  go_ret
  exact ⟨rfl, h.out, Put.Off.refl _ _ _⟩


set_option maxRecDepth 100000 in
set_option maxHeartbeats 1000000 in
theorem try_0 (who : Int) (h : LkAt 29 w s l) (hlk : lackF 0 who = false) (hn : 0 ≤ l.n ∧ l.n ≤ 1000000) :
    Calls Try.prog 16 #[.pointer (some ⟨s, 0, none⟩), .int .i64 0, .int .i64 who] w (LkPost 29 w s (l.tryE 0 who) (l.tryL 0 who)) := by
  have wi : IntKind.i64.wrap (l.n + 1) = l.n + 1 := by rw [IntKind.wrap_i64]; omega
  have hw : ¬ who < 1 := by have := (lack_not hlk).2; omega
  have hw' : Hid (0 < who) := (lack_not hlk).2
  replace hlk := Lib.hid hlk
  replace hn := Lib.hid hn
  have g := h
  replace h := Lib.hid h
  go_enter Try.func16, Try.ntmps16
  go_wp2_with fail
  clear hw
  go_loopw [7] (fun ii wr => ∃ i : Int, ii = .int .i64 i ∧ Hid (0 ≤ i ∧ i ≤ 3) ∧ Hid (l.later i who = l.later 0 who) ∧ w = wr) (fun ii _ => 3 - (intOf ii).toNat)
  case atStart => exact ⟨0, rfl, ⟨by omega, by omega⟩, rfl, rfl⟩
  case round =>
    obtain ⟨i, rfl, hi, hl, rfl⟩ := hrel
    have hi3 : i = 0 ∨ i = 1 ∨ i = 2 ∨ i = 3 := by have := hi.out; omega
    rcases hi3 with rfl | rfl | rfl | rfl
    · have hl0 := hl.out
      have kc := g.c0
      by_cases hx : l.own 0 = who
      · have hy := later_yes l (show (0 : Int) = 0 ∨ (0 : Int) = 1 ∨ (0 : Int) = 2 by omega) hx
        have hx' : Hid (l.a = who) := hx
        have hx2 : (l.a == who) = true := by simp [hx'.out]
        have hz : Hid (l.tryE 0 who = 17) := by show _ = _; unfold Lk.tryE; rw [hlk.out, if_neg (by decide), ← hl0, hy, if_pos rfl]
        have hz2 : Hid (l.tryL 0 who = l) := by show _ = _; unfold Lk.tryL; rw [hz.out, if_neg (by decide)]
        replace h := Lib.hid h
        clear hy hl0 hl hx g
        go_wp2_with fail
        go_ret
        exact ⟨by rw [hz.out]; rfl, by rw [hz2.out]; exact h.out, Put.Off.refl _ _ _⟩
      · have hy := Lib.hid ((later_no l (show (0 : Int) = 0 ∨ (0 : Int) = 1 ∨ (0 : Int) = 2 by omega) hx).trans hl0)
        have hx2 : (l.a == who) = false := beq_eq_false_iff_ne.2 hx
        clear hl0 hl hx g
        go_wp2_with fail
        go_roundw
        case rel => exact ⟨1, by go_num, ⟨by omega, by omega⟩, hy.out, trivial⟩
        case measure => simp [intOf]
    · have hl0 := hl.out
      have kc := g.c1
      by_cases hx : l.own 1 = who
      · have hy := later_yes l (show (1 : Int) = 0 ∨ (1 : Int) = 1 ∨ (1 : Int) = 2 by omega) hx
        have hx' : Hid (l.b = who) := hx
        have hx2 : (l.b == who) = true := by simp [hx'.out]
        have hz : Hid (l.tryE 0 who = 17) := by show _ = _; unfold Lk.tryE; rw [hlk.out, if_neg (by decide), ← hl0, hy, if_pos rfl]
        have hz2 : Hid (l.tryL 0 who = l) := by show _ = _; unfold Lk.tryL; rw [hz.out, if_neg (by decide)]
        replace h := Lib.hid h
        clear hy hl0 hl hx g
        go_wp2_with fail
        go_ret
        exact ⟨by rw [hz.out]; rfl, by rw [hz2.out]; exact h.out, Put.Off.refl _ _ _⟩
      · have hy := Lib.hid ((later_no l (show (1 : Int) = 0 ∨ (1 : Int) = 1 ∨ (1 : Int) = 2 by omega) hx).trans hl0)
        have hx2 : (l.b == who) = false := beq_eq_false_iff_ne.2 hx
        clear hl0 hl hx g
        go_wp2_with fail
        go_roundw
        case rel => exact ⟨2, by go_num, ⟨by omega, by omega⟩, hy.out, trivial⟩
        case measure => simp [intOf]
    · have hl0 := hl.out
      have kc := g.c2
      by_cases hx : l.own 2 = who
      · have hy := later_yes l (show (2 : Int) = 0 ∨ (2 : Int) = 1 ∨ (2 : Int) = 2 by omega) hx
        have hx' : Hid (l.c = who) := hx
        have hx2 : (l.c == who) = true := by simp [hx'.out]
        have hz : Hid (l.tryE 0 who = 17) := by show _ = _; unfold Lk.tryE; rw [hlk.out, if_neg (by decide), ← hl0, hy, if_pos rfl]
        have hz2 : Hid (l.tryL 0 who = l) := by show _ = _; unfold Lk.tryL; rw [hz.out, if_neg (by decide)]
        replace h := Lib.hid h
        clear hy hl0 hl hx g
        go_wp2_with fail
        go_ret
        exact ⟨by rw [hz.out]; rfl, by rw [hz2.out]; exact h.out, Put.Off.refl _ _ _⟩
      · have hy := Lib.hid ((later_no l (show (2 : Int) = 0 ∨ (2 : Int) = 1 ∨ (2 : Int) = 2 by omega) hx).trans hl0)
        have hx2 : (l.c == who) = false := beq_eq_false_iff_ne.2 hx
        clear hl0 hl hx g
        go_wp2_with fail
        go_roundw
        case rel => exact ⟨3, by go_num, ⟨by omega, by omega⟩, hy.out, trivial⟩
        case measure => simp [intOf]
    · have hl0 : Hid (l.later 0 who = false) := hl.out.symm.trans (later_three l who)
      have hE : Hid (l.tryE 0 who = if l.own 0 = 0 then 0 else 18) := by show _ = _; unfold Lk.tryE; rw [hlk.out, if_neg (by decide), hl0.out, if_neg (by decide)]
      have kc := g.c0
      have kn := g.c3
      have kf := g.fz 0
      have kg := g.fz 3
      clear hl hi
      by_cases h0 : l.own 0 = 0
      · have hz : Hid (l.tryE 0 who = 0) := by show _ = _; rw [hE.out, if_pos h0]
        have hz2 : Hid (l.tryL 0 who = { l.put 0 who with n := l.n + 1 }) := by show _ = _; unfold Lk.tryL; rw [hz.out, if_pos rfl]
        have h0' : l.a = 0 := h0
        rw [h0'] at kc
        clear h0 h0' g
        go_wp2_with fail
        go_ret
        exact ⟨by rw [hz.out]; rfl, by rw [hz2.out]; exact (h.out.set0 who).set3 _, ((Put.Off.refl _ _ _).setCell (.inl rfl)).setCell (.inl rfl)⟩
      · have hz : Hid (l.tryE 0 who = 18) := by show _ = _; rw [hE.out, if_neg h0]
        have hz2 : Hid (l.tryL 0 who = l) := by show _ = _; unfold Lk.tryL; rw [hz.out, if_neg (by decide)]
        have h1' : (l.a != 0) = true := by have : ¬ l.a = 0 := h0; simp [this]
        clear h0 g
        go_wp2_with fail
        go_ret
        exact ⟨by rw [hz.out]; rfl, by rw [hz2.out]; exact h.out, Put.Off.refl _ _ _⟩

set_option maxRecDepth 100000 in
set_option maxHeartbeats 1000000 in
theorem try_1 (who : Int) (h : LkAt 29 w s l) (hlk : lackF 1 who = false) (hn : 0 ≤ l.n ∧ l.n ≤ 1000000) :
    Calls Try.prog 16 #[.pointer (some ⟨s, 0, none⟩), .int .i64 1, .int .i64 who] w (LkPost 29 w s (l.tryE 1 who) (l.tryL 1 who)) := by
  have wi : IntKind.i64.wrap (l.n + 1) = l.n + 1 := by rw [IntKind.wrap_i64]; omega
  have hw : ¬ who < 1 := by have := (lack_not hlk).2; omega
  have hw' : Hid (0 < who) := (lack_not hlk).2
  replace hlk := Lib.hid hlk
  replace hn := Lib.hid hn
  have g := h
  replace h := Lib.hid h
  go_enter Try.func16, Try.ntmps16
  go_wp2_with fail
  clear hw
  go_loopw [7] (fun ii wr => ∃ i : Int, ii = .int .i64 i ∧ Hid (1 ≤ i ∧ i ≤ 3) ∧ Hid (l.later i who = l.later 1 who) ∧ w = wr) (fun ii _ => 3 - (intOf ii).toNat)
  case atStart => exact ⟨1, rfl, ⟨by omega, by omega⟩, rfl, rfl⟩
  case round =>
    obtain ⟨i, rfl, hi, hl, rfl⟩ := hrel
    have hi3 : i = 1 ∨ i = 2 ∨ i = 3 := by have := hi.out; omega
    rcases hi3 with rfl | rfl | rfl
    · have hl0 := hl.out
      have kc := g.c1
      by_cases hx : l.own 1 = who
      · have hy := later_yes l (show (1 : Int) = 0 ∨ (1 : Int) = 1 ∨ (1 : Int) = 2 by omega) hx
        have hx' : Hid (l.b = who) := hx
        have hx2 : (l.b == who) = true := by simp [hx'.out]
        have hz : Hid (l.tryE 1 who = 17) := by show _ = _; unfold Lk.tryE; rw [hlk.out, if_neg (by decide), ← hl0, hy, if_pos rfl]
        have hz2 : Hid (l.tryL 1 who = l) := by show _ = _; unfold Lk.tryL; rw [hz.out, if_neg (by decide)]
        replace h := Lib.hid h
        clear hy hl0 hl hx g
        go_wp2_with fail
        go_ret
        exact ⟨by rw [hz.out]; rfl, by rw [hz2.out]; exact h.out, Put.Off.refl _ _ _⟩
      · have hy := Lib.hid ((later_no l (show (1 : Int) = 0 ∨ (1 : Int) = 1 ∨ (1 : Int) = 2 by omega) hx).trans hl0)
        have hx2 : (l.b == who) = false := beq_eq_false_iff_ne.2 hx
        clear hl0 hl hx g
        go_wp2_with fail
        go_roundw
        case rel => exact ⟨2, by go_num, ⟨by omega, by omega⟩, hy.out, trivial⟩
        case measure => simp [intOf]
    · have hl0 := hl.out
      have kc := g.c2
      by_cases hx : l.own 2 = who
      · have hy := later_yes l (show (2 : Int) = 0 ∨ (2 : Int) = 1 ∨ (2 : Int) = 2 by omega) hx
        have hx' : Hid (l.c = who) := hx
        have hx2 : (l.c == who) = true := by simp [hx'.out]
        have hz : Hid (l.tryE 1 who = 17) := by show _ = _; unfold Lk.tryE; rw [hlk.out, if_neg (by decide), ← hl0, hy, if_pos rfl]
        have hz2 : Hid (l.tryL 1 who = l) := by show _ = _; unfold Lk.tryL; rw [hz.out, if_neg (by decide)]
        replace h := Lib.hid h
        clear hy hl0 hl hx g
        go_wp2_with fail
        go_ret
        exact ⟨by rw [hz.out]; rfl, by rw [hz2.out]; exact h.out, Put.Off.refl _ _ _⟩
      · have hy := Lib.hid ((later_no l (show (2 : Int) = 0 ∨ (2 : Int) = 1 ∨ (2 : Int) = 2 by omega) hx).trans hl0)
        have hx2 : (l.c == who) = false := beq_eq_false_iff_ne.2 hx
        clear hl0 hl hx g
        go_wp2_with fail
        go_roundw
        case rel => exact ⟨3, by go_num, ⟨by omega, by omega⟩, hy.out, trivial⟩
        case measure => simp [intOf]
    · have hl0 : Hid (l.later 1 who = false) := hl.out.symm.trans (later_three l who)
      have hE : Hid (l.tryE 1 who = if l.own 1 = 0 then 0 else 18) := by show _ = _; unfold Lk.tryE; rw [hlk.out, if_neg (by decide), hl0.out, if_neg (by decide)]
      have kc := g.c1
      have kn := g.c3
      have kf := g.fz 1
      have kg := g.fz 3
      clear hl hi
      by_cases h0 : l.own 1 = 0
      · have hz : Hid (l.tryE 1 who = 0) := by show _ = _; rw [hE.out, if_pos h0]
        have hz2 : Hid (l.tryL 1 who = { l.put 1 who with n := l.n + 1 }) := by show _ = _; unfold Lk.tryL; rw [hz.out, if_pos rfl]
        have h0' : l.b = 0 := h0
        rw [h0'] at kc
        clear h0 h0' g
        go_wp2_with fail
        go_ret
        exact ⟨by rw [hz.out]; rfl, by rw [hz2.out]; exact (h.out.set1 who).set3 _, ((Put.Off.refl _ _ _).setCell (.inl rfl)).setCell (.inl rfl)⟩
      · have hz : Hid (l.tryE 1 who = 18) := by show _ = _; rw [hE.out, if_neg h0]
        have hz2 : Hid (l.tryL 1 who = l) := by show _ = _; unfold Lk.tryL; rw [hz.out, if_neg (by decide)]
        have h1' : (l.b != 0) = true := by have : ¬ l.b = 0 := h0; simp [this]
        clear h0 g
        go_wp2_with fail
        go_ret
        exact ⟨by rw [hz.out]; rfl, by rw [hz2.out]; exact h.out, Put.Off.refl _ _ _⟩

set_option maxRecDepth 100000 in
set_option maxHeartbeats 1000000 in
theorem try_2 (who : Int) (h : LkAt 29 w s l) (hlk : lackF 2 who = false) (hn : 0 ≤ l.n ∧ l.n ≤ 1000000) :
    Calls Try.prog 16 #[.pointer (some ⟨s, 0, none⟩), .int .i64 2, .int .i64 who] w (LkPost 29 w s (l.tryE 2 who) (l.tryL 2 who)) := by
  have wi : IntKind.i64.wrap (l.n + 1) = l.n + 1 := by rw [IntKind.wrap_i64]; omega
  have hw : ¬ who < 1 := by have := (lack_not hlk).2; omega
  have hw' : Hid (0 < who) := (lack_not hlk).2
  replace hlk := Lib.hid hlk
  replace hn := Lib.hid hn
  have g := h
  replace h := Lib.hid h
  go_enter Try.func16, Try.ntmps16
  go_wp2_with fail
  clear hw
  go_loopw [7] (fun ii wr => ∃ i : Int, ii = .int .i64 i ∧ Hid (2 ≤ i ∧ i ≤ 3) ∧ Hid (l.later i who = l.later 2 who) ∧ w = wr) (fun ii _ => 3 - (intOf ii).toNat)
  case atStart => exact ⟨2, rfl, ⟨by omega, by omega⟩, rfl, rfl⟩
  case round =>
    obtain ⟨i, rfl, hi, hl, rfl⟩ := hrel
    have hi3 : i = 2 ∨ i = 3 := by have := hi.out; omega
    rcases hi3 with rfl | rfl
    · have hl0 := hl.out
      have kc := g.c2
      by_cases hx : l.own 2 = who
      · have hy := later_yes l (show (2 : Int) = 0 ∨ (2 : Int) = 1 ∨ (2 : Int) = 2 by omega) hx
        have hx' : Hid (l.c = who) := hx
        have hx2 : (l.c == who) = true := by simp [hx'.out]
        have hz : Hid (l.tryE 2 who = 17) := by show _ = _; unfold Lk.tryE; rw [hlk.out, if_neg (by decide), ← hl0, hy, if_pos rfl]
        have hz2 : Hid (l.tryL 2 who = l) := by show _ = _; unfold Lk.tryL; rw [hz.out, if_neg (by decide)]
        replace h := Lib.hid h
        clear hy hl0 hl hx g
        go_wp2_with fail
        go_ret
        exact ⟨by rw [hz.out]; rfl, by rw [hz2.out]; exact h.out, Put.Off.refl _ _ _⟩
      · have hy := Lib.hid ((later_no l (show (2 : Int) = 0 ∨ (2 : Int) = 1 ∨ (2 : Int) = 2 by omega) hx).trans hl0)
        have hx2 : (l.c == who) = false := beq_eq_false_iff_ne.2 hx
        clear hl0 hl hx g
        go_wp2_with fail
        go_roundw
        case rel => exact ⟨3, by go_num, ⟨by omega, by omega⟩, hy.out, trivial⟩
        case measure => simp [intOf]
    · have hl0 : Hid (l.later 2 who = false) := hl.out.symm.trans (later_three l who)
      have hE : Hid (l.tryE 2 who = if l.own 2 = 0 then 0 else 18) := by show _ = _; unfold Lk.tryE; rw [hlk.out, if_neg (by decide), hl0.out, if_neg (by decide)]
      have kc := g.c2
      have kn := g.c3
      have kf := g.fz 2
      have kg := g.fz 3
      clear hl hi
      by_cases h0 : l.own 2 = 0
      · have hz : Hid (l.tryE 2 who = 0) := by show _ = _; rw [hE.out, if_pos h0]
        have hz2 : Hid (l.tryL 2 who = { l.put 2 who with n := l.n + 1 }) := by show _ = _; unfold Lk.tryL; rw [hz.out, if_pos rfl]
        have h0' : l.c = 0 := h0
        rw [h0'] at kc
        clear h0 h0' g
        go_wp2_with fail
        go_ret
        exact ⟨by rw [hz.out]; rfl, by rw [hz2.out]; exact (h.out.set2 who).set3 _, ((Put.Off.refl _ _ _).setCell (.inl rfl)).setCell (.inl rfl)⟩
      · have hz : Hid (l.tryE 2 who = 18) := by show _ = _; rw [hE.out, if_neg h0]
        have hz2 : Hid (l.tryL 2 who = l) := by show _ = _; unfold Lk.tryL; rw [hz.out, if_neg (by decide)]
        have h1' : (l.c != 0) = true := by have : ¬ l.c = 0 := h0; simp [this]
        clear h0 g
        go_wp2_with fail
        go_ret
        exact ⟨by rw [hz.out]; rfl, by rw [hz2.out]; exact h.out, Put.Off.refl _ _ _⟩

theorem try_fn (k who : Int) (h : LkAt 29 w s l) (hn : 0 ≤ l.n ∧ l.n ≤ 1000000) :
    Calls Try.prog 16 #[.pointer (some ⟨s, 0, none⟩), .int .i64 k, .int .i64 who] w (LkPost 29 w s (l.tryE k who) (l.tryL k who)) := by
  cases hl : lackF k who
  · rcases (lack_not hl).1 with rfl | rfl | rfl
    · exact try_0 who h hl hn
    · exact try_1 who h hl hn
    · exact try_2 who h hl hn
  · have e : l.tryE k who = 1 := by unfold Lk.tryE; rw [if_pos hl]
    have e2 : l.tryL k who = l := by unfold Lk.tryL; rw [e, if_neg (by decide)]
    rw [e, e2]
    exact try_lack k who h hl


set_option maxRecDepth 100000 in
set_option maxHeartbeats 1000000 in
theorem free_0 (who : Int) (h : LkAt 29 w s l) (hl : lackF 0 who = false) :
    Calls Try.prog 17 #[.pointer (some ⟨s, 0, none⟩), .int .i64 0, .int .i64 who] w (LkPost 29 w s (l.freeE 0 who) (l.freeL 0 who)) := by
  have hw : ¬ who < 1 := by have := (lack_not hl).2; omega
  unfold Lk.freeL
  unfold Lk.freeE
  rw [hl, if_neg (show ¬ (false = true) by decide)]
  have kc := h.c0
  have kf := h.fz 0
  replace h := Lib.hid h
  clear hl
  by_cases h0 : l.own 0 = who
  · rw [if_pos h0, if_pos rfl]
    have h1 : (l.a != who) = false := by have : l.a = who := h0; simp [this]
    clear h0
    go_enter Try.func17, Try.ntmps17
    go_wp2_with fail
    go_ret
    exact ⟨rfl, h.out.set0 0, (Put.Off.refl _ _ _).setCell (.inl rfl)⟩
  · rw [if_neg h0, if_neg (show ¬ ((8 : Int) = 0) by decide)]
    have h1 : (l.a != who) = true := by have : ¬ l.a = who := h0; simp [this]
    clear h0
    go_enter Try.func17, Try.ntmps17
    go_wp2_with fail
    go_ret
    exact ⟨rfl, h.out, Put.Off.refl _ _ _⟩

set_option maxRecDepth 100000 in
set_option maxHeartbeats 1000000 in
theorem free_1 (who : Int) (h : LkAt 29 w s l) (hl : lackF 1 who = false) :
    Calls Try.prog 17 #[.pointer (some ⟨s, 0, none⟩), .int .i64 1, .int .i64 who] w (LkPost 29 w s (l.freeE 1 who) (l.freeL 1 who)) := by
  have hw : ¬ who < 1 := by have := (lack_not hl).2; omega
  unfold Lk.freeL
  unfold Lk.freeE
  rw [hl, if_neg (show ¬ (false = true) by decide)]
  have kc := h.c1
  have kf := h.fz 1
  replace h := Lib.hid h
  clear hl
  by_cases h0 : l.own 1 = who
  · rw [if_pos h0, if_pos rfl]
    have h1 : (l.b != who) = false := by have : l.b = who := h0; simp [this]
    clear h0
    go_enter Try.func17, Try.ntmps17
    go_wp2_with fail
    go_ret
    exact ⟨rfl, h.out.set1 0, (Put.Off.refl _ _ _).setCell (.inl rfl)⟩
  · rw [if_neg h0, if_neg (show ¬ ((8 : Int) = 0) by decide)]
    have h1 : (l.b != who) = true := by have : ¬ l.b = who := h0; simp [this]
    clear h0
    go_enter Try.func17, Try.ntmps17
    go_wp2_with fail
    go_ret
    exact ⟨rfl, h.out, Put.Off.refl _ _ _⟩

set_option maxRecDepth 100000 in
set_option maxHeartbeats 1000000 in
theorem free_2 (who : Int) (h : LkAt 29 w s l) (hl : lackF 2 who = false) :
    Calls Try.prog 17 #[.pointer (some ⟨s, 0, none⟩), .int .i64 2, .int .i64 who] w (LkPost 29 w s (l.freeE 2 who) (l.freeL 2 who)) := by
  have hw : ¬ who < 1 := by have := (lack_not hl).2; omega
  unfold Lk.freeL
  unfold Lk.freeE
  rw [hl, if_neg (show ¬ (false = true) by decide)]
  have kc := h.c2
  have kf := h.fz 2
  replace h := Lib.hid h
  clear hl
  by_cases h0 : l.own 2 = who
  · rw [if_pos h0, if_pos rfl]
    have h1 : (l.c != who) = false := by have : l.c = who := h0; simp [this]
    clear h0
    go_enter Try.func17, Try.ntmps17
    go_wp2_with fail
    go_ret
    exact ⟨rfl, h.out.set2 0, (Put.Off.refl _ _ _).setCell (.inl rfl)⟩
  · rw [if_neg h0, if_neg (show ¬ ((8 : Int) = 0) by decide)]
    have h1 : (l.c != who) = true := by have : ¬ l.c = who := h0; simp [this]
    clear h0
    go_enter Try.func17, Try.ntmps17
    go_wp2_with fail
    go_ret
    exact ⟨rfl, h.out, Put.Off.refl _ _ _⟩

theorem free_fn (k who : Int) (h : LkAt 29 w s l) :
    Calls Try.prog 17 #[.pointer (some ⟨s, 0, none⟩), .int .i64 k, .int .i64 who] w (LkPost 29 w s (l.freeE k who) (l.freeL k who)) := by
  cases hl : lackF k who
  · rcases (lack_not hl).1 with rfl | rfl | rfl
    · exact free_0 who h hl
    · exact free_1 who h hl
    · exact free_2 who h hl
  · have e : l.freeE k who = 1 := by unfold Lk.freeE; rw [if_pos hl]
    have e2 : l.freeL k who = l := by unfold Lk.freeL; rw [e, if_neg (by decide)]
    rw [e, e2]
    exact free_lack k who h hl

set_option maxRecDepth 100000 in
set_option maxHeartbeats 1000000 in
theorem all_fn (who : Int) (h : LkAt 29 w s l) :
    Calls Try.prog 18 #[.pointer (some ⟨s, 0, none⟩), .int .i64 who] w (LkPost 29 w s (l.allN who) (l.allL who)) := by
  obtain ⟨n0, hn0⟩ : ∃ n : Int, n = (l.has 0 who).toNat := ⟨_, rfl⟩
  obtain ⟨n1, hn1⟩ : ∃ n : Int, n = (l.has 1 who).toNat := ⟨_, rfl⟩
  obtain ⟨n2, hn2⟩ : ∃ n : Int, n = (l.has 2 who).toNat := ⟨_, rfl⟩
  have b0 : 0 ≤ n0 ∧ n0 ≤ 1 := by rw [hn0]; cases l.has 0 who <;> decide
  have b1 : 0 ≤ n1 ∧ n1 ≤ 1 := by rw [hn1]; cases l.has 1 who <;> decide
  have b2 : 0 ≤ n2 ∧ n2 ≤ 1 := by rw [hn2]; cases l.has 2 who <;> decide
  unfold Lk.allN Lk.allL
  rw [← hn0, ← hn1, ← hn2]
  have j1 : (l.drop1 0 who).has 1 who = l.has 1 who := has_drop l 0 1 who (by decide)
  have j2 : ((l.drop1 0 who).drop1 1 who).has 2 who = l.has 2 who := by rw [has_drop _ 1 2 who (by decide), has_drop _ 0 2 who (by decide)]
  rw [← j1] at hn1
  rw [← j2] at hn2
  clear j1 j2
  obtain ⟨l1, hl1⟩ : ∃ l1, l1 = l.drop1 0 who := ⟨_, rfl⟩
  rw [← hl1] at hn1 hn2 ⊢
  obtain ⟨l2, hl2⟩ : ∃ l2, l2 = l1.drop1 1 who := ⟨_, rfl⟩
  rw [← hl2] at hn2 ⊢
  obtain ⟨l3, hl3⟩ : ∃ l3, l3 = l2.drop1 2 who := ⟨_, rfl⟩
  rw [← hl3]
  replace hn0 := Lib.hid hn0
  replace hn1 := Lib.hid hn1
  replace hn2 := Lib.hid hn2
  replace hl1 := Lib.hid hl1
  replace hl2 := Lib.hid hl2
  replace hl3 := Lib.hid hl3
  replace b0 := Lib.hid b0
  replace b1 := Lib.hid b1
  replace b2 := Lib.hid b2
  replace h := Lib.hid h
  go_enter Try.func18, Try.ntmps18
  go_wp2_with fail
  go_loopw [5, 6] (fun nn ii wr => ∃ (k n : Int) (L : Lk), ii = .int .i64 k ∧ nn = .int .i64 n ∧ Hid (LkAt 29 wr s L) ∧ Hid (Put.Off s s w wr) ∧ Hid ((k = 0 ∧ n = 0 ∧ L = l) ∨ (k = 1 ∧ n = n0 ∧ L = l1) ∨ (k = 2 ∧ n = n0 + n1 ∧ L = l2) ∨ (k = 3 ∧ n = n0 + n1 + n2 ∧ L = l3))) (fun _ ii _ => 3 - (intOf ii).toNat)
  case atStart => exact ⟨0, 0, l, rfl, rfl, h.out, Put.Off.refl _ _ _, .inl ⟨rfl, rfl, rfl⟩⟩
  case round =>
    obtain ⟨k, n, L, rfl, rfl, hL, hO, hk⟩ := hrel
    rcases hk.out with ⟨rfl, rfl, rfl⟩ | ⟨rfl, hn, rfl⟩ | ⟨rfl, hn, rfl⟩ | ⟨rfl, hn, rfl⟩
    · clear hk
      have hh := free_fn 0 who hL.out
      obtain ⟨hv1, hv2⟩ := free_has L who (show (0 : Int) = 0 ∨ (0 : Int) = 1 ∨ (0 : Int) = 2 by omega)
      rw [hv2] at hh
      obtain ⟨fe, hfe⟩ : ∃ fe, fe = L.freeE 0 who := ⟨_, rfl⟩
      rw [← hfe] at hh hv1
      clear hfe hv2
      cases hx : L.has 0 who
      · rw [hx] at hv1
        have hd := hl1
        have hm : Hid (n0 = 0) := by show _ = _; rw [hn0.out, hx]; rfl
        clear hx
        go_wp2_with (go_at_call 17; go_must (refine hh.mono ?_); rintro e w5 ⟨rfl, hL5, hO5⟩; rw [← hd.out] at hL5; replace hL5 := Lib.hid hL5; replace hO5 := Lib.hid hO5)
        go_roundw
        case rel => exact ⟨1, 0, _, by go_num, rfl, hL5.out, hO.out.trans hO5.out (.inl rfl), .inr (.inl ⟨rfl, by have := hm.out; omega, rfl⟩)⟩
        case measure => simp [intOf]
      · rw [hx] at hv1
        have hd := hl1
        have hm : Hid (n0 = 1) := by show _ = _; rw [hn0.out, hx]; rfl
        clear hx
        go_wp2_with (go_at_call 17; go_must (refine hh.mono ?_); rintro e w5 ⟨rfl, hL5, hO5⟩; rw [← hd.out] at hL5; replace hL5 := Lib.hid hL5; replace hO5 := Lib.hid hO5)
        go_roundw
        case rel => exact ⟨1, 1, _, by go_num, by go_num, hL5.out, hO.out.trans hO5.out (.inl rfl), .inr (.inl ⟨rfl, by have := hm.out; omega, rfl⟩)⟩
        case measure => simp [intOf]
    · clear hk
      have hh := free_fn 1 who hL.out
      obtain ⟨hv1, hv2⟩ := free_has L who (show (1 : Int) = 0 ∨ (1 : Int) = 1 ∨ (1 : Int) = 2 by omega)
      rw [hv2] at hh
      obtain ⟨fe, hfe⟩ : ∃ fe, fe = L.freeE 1 who := ⟨_, rfl⟩
      rw [← hfe] at hh hv1
      clear hfe hv2
      replace hn := Lib.hid hn
      have wi : IntKind.i64.wrap (n + 1) = n + 1 := by have := hn.out; have := b0.out; have := b1.out; rw [IntKind.wrap_i64]; omega
      cases hx : L.has 1 who
      · rw [hx] at hv1
        have hd := hl2
        have hm : Hid (n1 = 0) := by show _ = _; rw [hn1.out, hx]; rfl
        clear hx
        go_wp2_with (go_at_call 17; go_must (refine hh.mono ?_); rintro e w5 ⟨rfl, hL5, hO5⟩; rw [← hd.out] at hL5; replace hL5 := Lib.hid hL5; replace hO5 := Lib.hid hO5)
        go_roundw
        case rel => exact ⟨2, n, _, by go_num, rfl, hL5.out, hO.out.trans hO5.out (.inl rfl), .inr (.inr (.inl ⟨rfl, by have := hm.out; have := hn.out; omega, rfl⟩))⟩
        case measure => simp [intOf]
      · rw [hx] at hv1
        have hd := hl2
        have hm : Hid (n1 = 1) := by show _ = _; rw [hn1.out, hx]; rfl
        clear hx
        go_wp2_with (go_at_call 17; go_must (refine hh.mono ?_); rintro e w5 ⟨rfl, hL5, hO5⟩; rw [← hd.out] at hL5; replace hL5 := Lib.hid hL5; replace hO5 := Lib.hid hO5)
        go_roundw
        case rel => exact ⟨2, n + 1, _, by go_num, by go_num, hL5.out, hO.out.trans hO5.out (.inl rfl), .inr (.inr (.inl ⟨rfl, by have := hm.out; have := hn.out; omega, rfl⟩))⟩
        case measure => simp [intOf]
    · clear hk
      have hh := free_fn 2 who hL.out
      obtain ⟨hv1, hv2⟩ := free_has L who (show (2 : Int) = 0 ∨ (2 : Int) = 1 ∨ (2 : Int) = 2 by omega)
      rw [hv2] at hh
      obtain ⟨fe, hfe⟩ : ∃ fe, fe = L.freeE 2 who := ⟨_, rfl⟩
      rw [← hfe] at hh hv1
      clear hfe hv2
      replace hn := Lib.hid hn
      have wi : IntKind.i64.wrap (n + 1) = n + 1 := by have := hn.out; have := b0.out; have := b1.out; rw [IntKind.wrap_i64]; omega
      cases hx : L.has 2 who
      · rw [hx] at hv1
        have hd := hl3
        have hm : Hid (n2 = 0) := by show _ = _; rw [hn2.out, hx]; rfl
        clear hx
        go_wp2_with (go_at_call 17; go_must (refine hh.mono ?_); rintro e w5 ⟨rfl, hL5, hO5⟩; rw [← hd.out] at hL5; replace hL5 := Lib.hid hL5; replace hO5 := Lib.hid hO5)
        go_roundw
        case rel => exact ⟨3, n, _, by go_num, rfl, hL5.out, hO.out.trans hO5.out (.inl rfl), .inr (.inr (.inr ⟨rfl, by have := hm.out; have := hn.out; omega, rfl⟩))⟩
        case measure => simp [intOf]
      · rw [hx] at hv1
        have hd := hl3
        have hm : Hid (n2 = 1) := by show _ = _; rw [hn2.out, hx]; rfl
        clear hx
        go_wp2_with (go_at_call 17; go_must (refine hh.mono ?_); rintro e w5 ⟨rfl, hL5, hO5⟩; rw [← hd.out] at hL5; replace hL5 := Lib.hid hL5; replace hO5 := Lib.hid hO5)
        go_roundw
        case rel => exact ⟨3, n + 1, _, by go_num, by go_num, hL5.out, hO.out.trans hO5.out (.inl rfl), .inr (.inr (.inr ⟨rfl, by have := hm.out; have := hn.out; omega, rfl⟩))⟩
        case measure => simp [intOf]
    · clear hk
      replace hn := Lib.hid hn
      go_wp2_with fail
      go_ret
      exact ⟨by rw [hn.out]; rfl, hL.out, hO.out⟩


end

end Go.Proofs.Ytlenhkmddmlknaa
