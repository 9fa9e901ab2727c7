/-
  Own walks: the next lock of a lane (RuB without the rest: for programs that call no Len).
-/
import Derived.Test.YtlenhkmddmlknaaRuA
namespace Go.Proofs.Ytlenhkmddmlknaa
set_option maxRecDepth 8000
open Go.RowKit Go.Lib

def nextF (a b c : Bool) (f : Int) : Int := if f ≤ 0 ∧ a = true then 0 else if f ≤ 1 ∧ b = true then 1 else if f ≤ 2 ∧ c = true then 2 else 3
theorem next_big (a b c : Bool) (f : Int) (h : 3 ≤ f) : nextF a b c f = 3 := by
  unfold nextF; rw [if_neg (by omega), if_neg (by omega), if_neg (by omega)]
theorem next_neg (a b c : Bool) (f : Int) (h : f ≤ 0) : nextF a b c f = nextF a b c 0 := by
  unfold nextF; simp [h, show f ≤ 1 by omega, show f ≤ 2 by omega]
set_option maxRecDepth 100000 in
set_option maxHeartbeats 1000000 in
theorem Next_fn (a b c : Bool) (f : Int) (hf : -9223372036854775808 ≤ f ∧ f ≤ 9223372036854775807) (w : World) : Calls Try.prog 12 #[laneV a b c, .int .i64 f] w fun e w' => e = .returned (.int .i64 (nextF a b c f)) ∧ Below w.heap.size w w' := by
  obtain ⟨hf1, hf2⟩ := hf
  obtain ⟨r, hr⟩ : ∃ r, r = nextF a b c f := ⟨_, rfl⟩
  obtain ⟨s, hs⟩ : ∃ s : Int, s = max f 0 := ⟨_, rfl⟩
  have hs0 : 0 ≤ s := by omega
  have hsM : s ≤ 9223372036854775807 := by omega
  have hsr : Hid (nextF a b c s = r) := by
    show _ = _
    rw [hr]
    by_cases h : f ≤ 0
    · rw [next_neg a b c f h, show s = 0 by omega]
    · rw [show s = f by omega]
  rw [← hr]
  replace hr := Lib.hid hr
  obtain ⟨w1, hw1⟩ : ∃ w1, w1 = w.alloc (.cells #[.bool a, .bool b, .bool c] 36) := ⟨_, rfl⟩
  have hb1 : Below w.heap.size w w1 := by rw [hw1]; exact (Below.refl _ _).alloc (Nat.le_refl _) _
  have hA1 : w1.heap[w.heap.size]? = some (.cells #[.bool a, .bool b, .bool c] 36 (0, 0)) := by rw [hw1]; exact heap_alloc_new w _
  have k0 : w1.cell? ⟨w.heap.size, 0, none⟩ = some (.bool a) := by simp [World.cell?, hA1]
  have k1 : w1.cell? ⟨w.heap.size, 1, none⟩ = some (.bool b) := by simp [World.cell?, hA1]
  have k2 : w1.cell? ⟨w.heap.size, 2, none⟩ = some (.bool c) := by simp [World.cell?, hA1]
  clear hA1
  unfold laneV
  go_enter Try.func12, Try.ntmps12
  go_wp2_with fail
  rw [← hs, ← hw1]
  replace hs := Lib.hid hs
  replace hw1 := Lib.hid hw1
  go_loopw [5] (fun ii wr => ∃ k : Int, 0 ≤ k ∧ k ≤ 9223372036854775807 ∧ ii = .int .i64 k ∧ Hid (nextF a b c k = r) ∧ w1 = wr) (fun ii _ => 3 - (intOf ii).toNat)
  case atStart => exact ⟨s, hs0, hsM, rfl, hsr, rfl⟩
  case round =>
    obtain ⟨k, h0, hM, rfl, hk, rfl⟩ := hrel
    by_cases h3 : k < 3
    · have hc : k = 0 ∨ k = 1 ∨ k = 2 := by omega
      rcases hc with rfl | rfl | rfl
      · cases a
        · have hn : Hid (nextF false b c 1 = r) := by
            show _ = _
            rw [← hk.out]; simp [nextF]
          clear hk hsr
          go_wp2_with fail
          go_roundw
          case rel => exact ⟨1, by omega, by omega, rfl, hn, trivial⟩
          case measure => simp [intOf]
        · go_wp2_with fail
          go_ret
          exact ⟨by rw [← hk.out]; rfl, hb1⟩
      · cases b
        · have hn : Hid (nextF a false c 2 = r) := by
            show _ = _
            rw [← hk.out]; simp [nextF]
          clear hk hsr
          go_wp2_with fail
          go_roundw
          case rel => exact ⟨2, by omega, by omega, rfl, hn, trivial⟩
          case measure => simp [intOf]
        · go_wp2_with fail
          go_ret
          exact ⟨by rw [← hk.out]; simp [nextF], hb1⟩
      · cases c
        · have hn : Hid (nextF a b false 3 = r) := by
            show _ = _
            rw [← hk.out]; simp [nextF]
          clear hk hsr
          go_wp2_with fail
          go_roundw
          case rel => exact ⟨3, by omega, by omega, rfl, hn, trivial⟩
          case measure => simp [intOf]
        · go_wp2_with fail
          go_ret
          exact ⟨by rw [← hk.out]; simp [nextF], hb1⟩
    · have e3 : Hid (r = 3) := by show _ = _; rw [← hk.out]; exact next_big a b c k (by omega)
      go_wp2_with fail
      go_ret
      exact ⟨by rw [e3.out]; rfl, hb1⟩

end Go.Proofs.Ytlenhkmddmlknaa
