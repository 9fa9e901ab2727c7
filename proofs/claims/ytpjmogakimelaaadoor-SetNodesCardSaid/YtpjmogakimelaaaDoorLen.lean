/-
  The contract of math/bits.Len64: its eight ways, printed by a program of mine.
-/
import Derived.Test.YtpjmogakimelaaaDoorSetF
import Derived.Lib.Strings
import Derived.Lib.Slices
import Derived.Lib.Small
import Derived.Lib.Walk
import Derived.Lib.BitFns
namespace Go.Proofs.YtpjmogakimelaaaDoor
open Go.RowKit

set_option maxRecDepth 100000 in
/-- The table of 256 bytes, under its name. -/
theorem fold_tab : ({ data := (([0, 1, 2, 2, 3, 3, 3, 3, 4, 4, 4, 4, 4, 4, 4, 4, 5, 5, 5, 5, 5, 5, 5, 5, 5, 5, 5, 5, 5, 5, 5, 5, 6, 6, 6, 6, 6, 6, 6, 6, 6, 6, 6, 6, 6, 6, 6, 6, 6, 6, 6, 6, 6, 6, 6, 6, 6, 6, 6, 6, 6, 6, 6, 6].append [7, 7, 7, 7, 7, 7, 7, 7, 7, 7, 7, 7, 7, 7, 7, 7, 7, 7, 7, 7, 7, 7, 7, 7, 7, 7, 7, 7, 7, 7, 7, 7, 7, 7, 7, 7, 7, 7, 7, 7, 7, 7, 7, 7, 7, 7, 7, 7, 7, 7, 7, 7, 7, 7, 7, 7, 7, 7, 7, 7, 7, 7, 7, 7]).append ([8, 8, 8, 8, 8, 8, 8, 8, 8, 8, 8, 8, 8, 8, 8, 8, 8, 8, 8, 8, 8, 8, 8, 8, 8, 8, 8, 8, 8, 8, 8, 8, 8, 8, 8, 8, 8, 8, 8, 8, 8, 8, 8, 8, 8, 8, 8, 8, 8, 8, 8, 8, 8, 8, 8, 8, 8, 8, 8, 8, 8, 8, 8, 8].append [8, 8, 8, 8, 8, 8, 8, 8, 8, 8, 8, 8, 8, 8, 8, 8, 8, 8, 8, 8, 8, 8, 8, 8, 8, 8, 8, 8, 8, 8, 8, 8, 8, 8, 8, 8, 8, 8, 8, 8, 8, 8, 8, 8, 8, 8, 8, 8, 8, 8, 8, 8, 8, 8, 8, 8, 8, 8, 8, 8, 8, 8, 8, 8])).toArray } : ByteArray) = Lib.len8tab := rfl

set_option maxHeartbeats 4000000 in
set_option maxRecDepth 1000000 in
theorem len64_000 (u : Int) (_t0 : (u : Int) < (4294967296 : Int)) (_t1 : (u : Int) < (65536 : Int)) (_t2 : (u : Int) < (256 : Int)) (r : Int) (T : ByteArray) (hT : Hid (Lib.len8tab = T)) (_i1 : ∀ w, (Instr.index 9 (.string T) (.int .u8 (u : Int))).run Tryd.prog w = .ok (.int .u8 r) w) (_i2 : ∀ w, (Instr.index 9 (.string T) (.int .u8 ((u : Int) % 256))).run Tryd.prog w = .ok (.int .u8 r) w) (_r1 : 1 ≤ r) (_r8 : r ≤ 8) (w : World) :
    Calls Tryd.prog 17 #[.int .u64 u] w fun e w' => e = .returned (.int .i64 (r)) ∧ w = w' := by
  go_enter Tryd.func17, Tryd.ntmps17
  simp only [fold_tab, hT.out]
  go_wp2
  go_ret
  exact ⟨rfl, rfl⟩

set_option maxHeartbeats 4000000 in
set_option maxRecDepth 1000000 in
theorem len64_001 (u x3 : Int) (_t0 : (u : Int) < (4294967296 : Int)) (_t1 : (u : Int) < (65536 : Int)) (_t2 : (256 : Int) ≤ (u : Int)) (_e3 : (u : Int) / 256 = (x3 : Int)) (r : Int) (T : ByteArray) (hT : Hid (Lib.len8tab = T)) (_i1 : ∀ w, (Instr.index 9 (.string T) (.int .u8 (x3 : Int))).run Tryd.prog w = .ok (.int .u8 r) w) (_i2 : ∀ w, (Instr.index 9 (.string T) (.int .u8 ((x3 : Int) % 256))).run Tryd.prog w = .ok (.int .u8 r) w) (_r1 : 1 ≤ r) (_r8 : r ≤ 8) (w : World) :
    Calls Tryd.prog 17 #[.int .u64 u] w fun e w' => e = .returned (.int .i64 (8 + r)) ∧ w = w' := by
  go_enter Tryd.func17, Tryd.ntmps17
  simp only [fold_tab, hT.out]
  go_wp2
  go_ret
  exact ⟨rfl, rfl⟩

set_option maxHeartbeats 4000000 in
set_option maxRecDepth 1000000 in
theorem len64_010 (u x2 : Int) (_t0 : (u : Int) < (4294967296 : Int)) (_t1 : (65536 : Int) ≤ (u : Int)) (_e2 : (u : Int) / 65536 = (x2 : Int)) (_t2 : (x2 : Int) < (256 : Int)) (r : Int) (T : ByteArray) (hT : Hid (Lib.len8tab = T)) (_i1 : ∀ w, (Instr.index 9 (.string T) (.int .u8 (x2 : Int))).run Tryd.prog w = .ok (.int .u8 r) w) (_i2 : ∀ w, (Instr.index 9 (.string T) (.int .u8 ((x2 : Int) % 256))).run Tryd.prog w = .ok (.int .u8 r) w) (_r1 : 1 ≤ r) (_r8 : r ≤ 8) (w : World) :
    Calls Tryd.prog 17 #[.int .u64 u] w fun e w' => e = .returned (.int .i64 (16 + r)) ∧ w = w' := by
  go_enter Tryd.func17, Tryd.ntmps17
  simp only [fold_tab, hT.out]
  go_wp2
  go_ret
  exact ⟨rfl, rfl⟩

set_option maxHeartbeats 4000000 in
set_option maxRecDepth 1000000 in
theorem len64_011 (u x2 x3 : Int) (_t0 : (u : Int) < (4294967296 : Int)) (_t1 : (65536 : Int) ≤ (u : Int)) (_e2 : (u : Int) / 65536 = (x2 : Int)) (_t2 : (256 : Int) ≤ (x2 : Int)) (_e3 : (x2 : Int) / 256 = (x3 : Int)) (r : Int) (T : ByteArray) (hT : Hid (Lib.len8tab = T)) (_i1 : ∀ w, (Instr.index 9 (.string T) (.int .u8 (x3 : Int))).run Tryd.prog w = .ok (.int .u8 r) w) (_i2 : ∀ w, (Instr.index 9 (.string T) (.int .u8 ((x3 : Int) % 256))).run Tryd.prog w = .ok (.int .u8 r) w) (_r1 : 1 ≤ r) (_r8 : r ≤ 8) (w : World) :
    Calls Tryd.prog 17 #[.int .u64 u] w fun e w' => e = .returned (.int .i64 (24 + r)) ∧ w = w' := by
  go_enter Tryd.func17, Tryd.ntmps17
  simp only [fold_tab, hT.out]
  go_wp2
  go_ret
  exact ⟨rfl, rfl⟩

set_option maxHeartbeats 4000000 in
set_option maxRecDepth 1000000 in
theorem len64_100 (u x1 : Int) (_t0 : (4294967296 : Int) ≤ (u : Int)) (_e1 : (u : Int) / 4294967296 = (x1 : Int)) (_t1 : (x1 : Int) < (65536 : Int)) (_t2 : (x1 : Int) < (256 : Int)) (r : Int) (T : ByteArray) (hT : Hid (Lib.len8tab = T)) (_i1 : ∀ w, (Instr.index 9 (.string T) (.int .u8 (x1 : Int))).run Tryd.prog w = .ok (.int .u8 r) w) (_i2 : ∀ w, (Instr.index 9 (.string T) (.int .u8 ((x1 : Int) % 256))).run Tryd.prog w = .ok (.int .u8 r) w) (_r1 : 1 ≤ r) (_r8 : r ≤ 8) (w : World) :
    Calls Tryd.prog 17 #[.int .u64 u] w fun e w' => e = .returned (.int .i64 (32 + r)) ∧ w = w' := by
  go_enter Tryd.func17, Tryd.ntmps17
  simp only [fold_tab, hT.out]
  go_wp2
  go_ret
  exact ⟨rfl, rfl⟩

set_option maxHeartbeats 4000000 in
set_option maxRecDepth 1000000 in
theorem len64_101 (u x1 x3 : Int) (_t0 : (4294967296 : Int) ≤ (u : Int)) (_e1 : (u : Int) / 4294967296 = (x1 : Int)) (_t1 : (x1 : Int) < (65536 : Int)) (_t2 : (256 : Int) ≤ (x1 : Int)) (_e3 : (x1 : Int) / 256 = (x3 : Int)) (r : Int) (T : ByteArray) (hT : Hid (Lib.len8tab = T)) (_i1 : ∀ w, (Instr.index 9 (.string T) (.int .u8 (x3 : Int))).run Tryd.prog w = .ok (.int .u8 r) w) (_i2 : ∀ w, (Instr.index 9 (.string T) (.int .u8 ((x3 : Int) % 256))).run Tryd.prog w = .ok (.int .u8 r) w) (_r1 : 1 ≤ r) (_r8 : r ≤ 8) (w : World) :
    Calls Tryd.prog 17 #[.int .u64 u] w fun e w' => e = .returned (.int .i64 (40 + r)) ∧ w = w' := by
  go_enter Tryd.func17, Tryd.ntmps17
  simp only [fold_tab, hT.out]
  go_wp2
  go_ret
  exact ⟨rfl, rfl⟩

set_option maxHeartbeats 4000000 in
set_option maxRecDepth 1000000 in
theorem len64_110 (u x1 x2 : Int) (_t0 : (4294967296 : Int) ≤ (u : Int)) (_e1 : (u : Int) / 4294967296 = (x1 : Int)) (_t1 : (65536 : Int) ≤ (x1 : Int)) (_e2 : (x1 : Int) / 65536 = (x2 : Int)) (_t2 : (x2 : Int) < (256 : Int)) (r : Int) (T : ByteArray) (hT : Hid (Lib.len8tab = T)) (_i1 : ∀ w, (Instr.index 9 (.string T) (.int .u8 (x2 : Int))).run Tryd.prog w = .ok (.int .u8 r) w) (_i2 : ∀ w, (Instr.index 9 (.string T) (.int .u8 ((x2 : Int) % 256))).run Tryd.prog w = .ok (.int .u8 r) w) (_r1 : 1 ≤ r) (_r8 : r ≤ 8) (w : World) :
    Calls Tryd.prog 17 #[.int .u64 u] w fun e w' => e = .returned (.int .i64 (48 + r)) ∧ w = w' := by
  go_enter Tryd.func17, Tryd.ntmps17
  simp only [fold_tab, hT.out]
  go_wp2
  go_ret
  exact ⟨rfl, rfl⟩

set_option maxHeartbeats 4000000 in
set_option maxRecDepth 1000000 in
theorem len64_111 (u x1 x2 x3 : Int) (_t0 : (4294967296 : Int) ≤ (u : Int)) (_e1 : (u : Int) / 4294967296 = (x1 : Int)) (_t1 : (65536 : Int) ≤ (x1 : Int)) (_e2 : (x1 : Int) / 65536 = (x2 : Int)) (_t2 : (256 : Int) ≤ (x2 : Int)) (_e3 : (x2 : Int) / 256 = (x3 : Int)) (r : Int) (T : ByteArray) (hT : Hid (Lib.len8tab = T)) (_i1 : ∀ w, (Instr.index 9 (.string T) (.int .u8 (x3 : Int))).run Tryd.prog w = .ok (.int .u8 r) w) (_i2 : ∀ w, (Instr.index 9 (.string T) (.int .u8 ((x3 : Int) % 256))).run Tryd.prog w = .ok (.int .u8 r) w) (_r1 : 1 ≤ r) (_r8 : r ≤ 8) (w : World) :
    Calls Tryd.prog 17 #[.int .u64 u] w fun e w' => e = .returned (.int .i64 (56 + r)) ∧ w = w' := by
  go_enter Tryd.func17, Tryd.ntmps17
  simp only [fold_tab, hT.out]
  go_wp2
  go_ret
  exact ⟨rfl, rfl⟩

theorem idx_len (q : Nat) (hq : q < 256) (w : World) : (Instr.index 9 (.string Lib.len8tab) (.int .u8 (q : Int))).run Tryd.prog w = .ok (.int .u8 (Lib.len8 (q : Int))) w :=
  Lib.run_index_len8tab _ _ _ _ Tryd.underlying9 (by omega) (by omega)
theorem idx_len2 (q : Nat) (hq : q < 256) (w : World) : (Instr.index 9 (.string Lib.len8tab) (.int .u8 ((q : Int) % 256))).run Tryd.prog w = .ok (.int .u8 (Lib.len8 (q : Int))) w := by
  rw [Int.emod_eq_of_lt (by omega) (by omega)]
  exact idx_len q hq w
theorem len8_range (q : Nat) (h0 : q ≠ 0) (hq : q < 256) : 1 ≤ Lib.len8 (q : Int) ∧ Lib.len8 (q : Int) ≤ 8 := by
  have h := len_all ⟨q, hq⟩ h0
  exact ⟨h.1, h.2.1⟩

theorem len64_fn (u : Nat) (hu : u < 18446744073709551616) (h0 : u ≠ 0) (w : World) :
    Calls Tryd.prog 17 #[.int .u64 u] w fun e w' => e = .returned (.int .i64 (hiK u.testBit 64 + 1)) ∧ w = w' := by
  by_cases h1 : 4294967296 ≤ u
  · skip
    by_cases h2 : 65536 ≤ u / 4294967296
    · skip
      by_cases h3 : 256 ≤ u / 4294967296 / 65536
      · skip
        obtain ⟨q, hq⟩ : ∃ q, q = (((u / 4294967296) / 65536) / 256) := ⟨_, rfl⟩
        have hqs : q = u / 2 ^ 56 := by simp only [Nat.reducePow]; omega
        have hr := len8_range q (by omega) (by omega)
        rw [hi_byte hqs (by omega) (by omega) (by omega)]
        have hc := len64_111 (u : Int) ((((u / 4294967296) : Nat) : Nat) : Int) (((((u / 4294967296) / 65536) : Nat) : Nat) : Int) ((((((u / 4294967296) / 65536) / 256) : Nat) : Nat) : Int) (by omega) rfl (by omega) rfl (by omega) rfl (Lib.len8 (q : Int)) Lib.len8tab (Lib.hid rfl) (fun w => by rw [← hq]; exact idx_len q (by omega) w) (fun w => by rw [← hq]; exact idx_len2 q (by omega) w) hr.1 hr.2 w
        refine hc.mono fun e w' h => ⟨?_, h.2⟩
        rw [h.1]
        exact congrArg (fun n => Ending.returned (.int .i64 n)) (by omega)
      · skip
        obtain ⟨q, hq⟩ : ∃ q, q = ((u / 4294967296) / 65536) := ⟨_, rfl⟩
        have hqs : q = u / 2 ^ 48 := by simp only [Nat.reducePow]; omega
        have hr := len8_range q (by omega) (by omega)
        rw [hi_byte hqs (by omega) (by omega) (by omega)]
        have hc := len64_110 (u : Int) ((((u / 4294967296) : Nat) : Nat) : Int) (((((u / 4294967296) / 65536) : Nat) : Nat) : Int) (by omega) rfl (by omega) rfl (by omega) (Lib.len8 (q : Int)) Lib.len8tab (Lib.hid rfl) (fun w => by rw [← hq]; exact idx_len q (by omega) w) (fun w => by rw [← hq]; exact idx_len2 q (by omega) w) hr.1 hr.2 w
        refine hc.mono fun e w' h => ⟨?_, h.2⟩
        rw [h.1]
        exact congrArg (fun n => Ending.returned (.int .i64 n)) (by omega)
    · skip
      by_cases h3 : 256 ≤ u / 4294967296
      · skip
        obtain ⟨q, hq⟩ : ∃ q, q = ((u / 4294967296) / 256) := ⟨_, rfl⟩
        have hqs : q = u / 2 ^ 40 := by simp only [Nat.reducePow]; omega
        have hr := len8_range q (by omega) (by omega)
        rw [hi_byte hqs (by omega) (by omega) (by omega)]
        have hc := len64_101 (u : Int) ((((u / 4294967296) : Nat) : Nat) : Int) (((((u / 4294967296) / 256) : Nat) : Nat) : Int) (by omega) rfl (by omega) (by omega) rfl (Lib.len8 (q : Int)) Lib.len8tab (Lib.hid rfl) (fun w => by rw [← hq]; exact idx_len q (by omega) w) (fun w => by rw [← hq]; exact idx_len2 q (by omega) w) hr.1 hr.2 w
        refine hc.mono fun e w' h => ⟨?_, h.2⟩
        rw [h.1]
        exact congrArg (fun n => Ending.returned (.int .i64 n)) (by omega)
      · skip
        obtain ⟨q, hq⟩ : ∃ q, q = (u / 4294967296) := ⟨_, rfl⟩
        have hqs : q = u / 2 ^ 32 := by simp only [Nat.reducePow]; omega
        have hr := len8_range q (by omega) (by omega)
        rw [hi_byte hqs (by omega) (by omega) (by omega)]
        have hc := len64_100 (u : Int) ((((u / 4294967296) : Nat) : Nat) : Int) (by omega) rfl (by omega) (by omega) (Lib.len8 (q : Int)) Lib.len8tab (Lib.hid rfl) (fun w => by rw [← hq]; exact idx_len q (by omega) w) (fun w => by rw [← hq]; exact idx_len2 q (by omega) w) hr.1 hr.2 w
        refine hc.mono fun e w' h => ⟨?_, h.2⟩
        rw [h.1]
        exact congrArg (fun n => Ending.returned (.int .i64 n)) (by omega)
  · skip
    by_cases h2 : 65536 ≤ u
    · skip
      by_cases h3 : 256 ≤ u / 65536
      · skip
        obtain ⟨q, hq⟩ : ∃ q, q = ((u / 65536) / 256) := ⟨_, rfl⟩
        have hqs : q = u / 2 ^ 24 := by simp only [Nat.reducePow]; omega
        have hr := len8_range q (by omega) (by omega)
        rw [hi_byte hqs (by omega) (by omega) (by omega)]
        have hc := len64_011 (u : Int) ((((u / 65536) : Nat) : Nat) : Int) (((((u / 65536) / 256) : Nat) : Nat) : Int) (by omega) (by omega) rfl (by omega) rfl (Lib.len8 (q : Int)) Lib.len8tab (Lib.hid rfl) (fun w => by rw [← hq]; exact idx_len q (by omega) w) (fun w => by rw [← hq]; exact idx_len2 q (by omega) w) hr.1 hr.2 w
        refine hc.mono fun e w' h => ⟨?_, h.2⟩
        rw [h.1]
        exact congrArg (fun n => Ending.returned (.int .i64 n)) (by omega)
      · skip
        obtain ⟨q, hq⟩ : ∃ q, q = (u / 65536) := ⟨_, rfl⟩
        have hqs : q = u / 2 ^ 16 := by simp only [Nat.reducePow]; omega
        have hr := len8_range q (by omega) (by omega)
        rw [hi_byte hqs (by omega) (by omega) (by omega)]
        have hc := len64_010 (u : Int) ((((u / 65536) : Nat) : Nat) : Int) (by omega) (by omega) rfl (by omega) (Lib.len8 (q : Int)) Lib.len8tab (Lib.hid rfl) (fun w => by rw [← hq]; exact idx_len q (by omega) w) (fun w => by rw [← hq]; exact idx_len2 q (by omega) w) hr.1 hr.2 w
        refine hc.mono fun e w' h => ⟨?_, h.2⟩
        rw [h.1]
        exact congrArg (fun n => Ending.returned (.int .i64 n)) (by omega)
    · skip
      by_cases h3 : 256 ≤ u
      · skip
        obtain ⟨q, hq⟩ : ∃ q, q = (u / 256) := ⟨_, rfl⟩
        have hqs : q = u / 2 ^ 8 := by simp only [Nat.reducePow]; omega
        have hr := len8_range q (by omega) (by omega)
        rw [hi_byte hqs (by omega) (by omega) (by omega)]
        have hc := len64_001 (u : Int) ((((u / 256) : Nat) : Nat) : Int) (by omega) (by omega) (by omega) rfl (Lib.len8 (q : Int)) Lib.len8tab (Lib.hid rfl) (fun w => by rw [← hq]; exact idx_len q (by omega) w) (fun w => by rw [← hq]; exact idx_len2 q (by omega) w) hr.1 hr.2 w
        refine hc.mono fun e w' h => ⟨?_, h.2⟩
        rw [h.1]
        exact congrArg (fun n => Ending.returned (.int .i64 n)) (by omega)
      · skip
        obtain ⟨q, hq⟩ : ∃ q, q = u := ⟨_, rfl⟩
        have hqs : q = u / 2 ^ 0 := by simp only [Nat.reducePow]; omega
        have hr := len8_range q (by omega) (by omega)
        rw [hi_byte hqs (by omega) (by omega) (by omega)]
        have hc := len64_000 (u : Int)  (by omega) (by omega) (by omega) (Lib.len8 (q : Int)) Lib.len8tab (Lib.hid rfl) (fun w => by rw [← hq]; exact idx_len q (by omega) w) (fun w => by rw [← hq]; exact idx_len2 q (by omega) w) hr.1 hr.2 w
        refine hc.mono fun e w' h => ⟨?_, h.2⟩
        rw [h.1]
        exact congrArg (fun n => Ending.returned (.int .i64 n)) (by omega)

set_option maxHeartbeats 400000 in
theorem high_fn (u : Nat) (hu : u < 18446744073709551616) (w : World) :
    Calls Tryd.prog 12 #[.int .u64 u] w fun e w' => e = .returned (.int .i64 (hiK u.testBit 64)) ∧ w = w' := by
  by_cases h0 : u = 0
  · subst h0
    rw [hiK_none 64 fun i _ => Nat.zero_testBit i]
    clear hu
    go_enter Tryd.func12, Tryd.ntmps12
    go_wp2_with fail
    go_ret
    exact ⟨rfl, rfl⟩
  · have h := len64_fn u hu h0 w
    have h00 : ((u : Int) == 0) = false := by simp; omega
    have hr := hiK_range u.testBit 64
    generalize hiK u.testBit 64 = c at *
    clear hu h0
    go_enter Tryd.func12, Tryd.ntmps12
    go_wp2_with (go_at_call 17; go_must (refine h.mono ?_); rintro e w' ⟨rfl, rfl⟩)
    go_ret
    exact ⟨congrArg (fun n => Ending.returned (.int .i64 n)) (by omega), rfl⟩

end Go.Proofs.YtpjmogakimelaaaDoor
