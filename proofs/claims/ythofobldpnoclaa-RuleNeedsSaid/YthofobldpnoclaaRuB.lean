/-
  Own walks: the next lock of a lane, how many there are, which kinds there are and which ask only.
-/
import Derived.Test.YthofobldpnoclaaRuA
namespace Go.Proofs.Ythofobldpnoclaa
open Go.RowKit Go.Lib

def nextF (a b c : Bool) (f : Int) : Int := if f ≤ 0 ∧ a = true then 0 else if f ≤ 1 ∧ b = true then 1 else if f ≤ 2 ∧ c = true then 2 else 3
theorem next_big (a b c : Bool) (f : Int) (h : 3 ≤ f) : nextF a b c f = 3 := by
  unfold nextF; rw [if_neg (by omega), if_neg (by omega), if_neg (by omega)]
theorem next_neg (a b c : Bool) (f : Int) (h : f ≤ 0) : nextF a b c f = nextF a b c 0 := by
  unfold nextF; simp [h, show f ≤ 1 by omega, show f ≤ 2 by omega]
def lenF (a b c : Bool) : Int := a.toNat + b.toNat + c.toNat

set_option maxRecDepth 100000 in
set_option maxHeartbeats 1000000 in
theorem Next_fn (a b c : Bool) (f : Int) (hf : -9223372036854775808 ≤ f ∧ f ≤ 9223372036854775807) (w : World) : Calls Try.prog 15 #[laneV a b c, .int .i64 f] w fun e w' => e = .returned (.int .i64 (nextF a b c f)) ∧ Below w.heap.size w w' := by
  obtain ⟨hf1, hf2⟩ := hf
  obtain ⟨r, hr⟩ : ∃ r, r = nextF a b c f := ⟨_, rfl⟩
  obtain ⟨s, hs⟩ : ∃ s : Int, s = max f 0 := ⟨_, rfl⟩
  have hs0 : 0 ≤ s := by omega
  have hsM : s ≤ 9223372036854775807 := by omega
  have hsr : Hid (nextF a b c s = r) := by
    show _ = _
    rw [hr]
    by_cases h : f ≤ 0
    · rw [next_neg a b c f h, show s = 0 by omega]
    · rw [show s = f by omega]
  rw [← hr]
  replace hr := Lib.hid hr
  obtain ⟨w1, hw1⟩ : ∃ w1, w1 = w.alloc (.cells #[.bool a, .bool b, .bool c] 24) := ⟨_, rfl⟩
  have hb1 : Below w.heap.size w w1 := by rw [hw1]; exact (Below.refl _ _).alloc (Nat.le_refl _) _
  have hA1 : w1.heap[w.heap.size]? = some (.cells #[.bool a, .bool b, .bool c] 24 (0, 0)) := by rw [hw1]; exact heap_alloc_new w _
  have k0 : w1.cell? ⟨w.heap.size, 0, none⟩ = some (.bool a) := by simp [World.cell?, hA1]
  have k1 : w1.cell? ⟨w.heap.size, 1, none⟩ = some (.bool b) := by simp [World.cell?, hA1]
  have k2 : w1.cell? ⟨w.heap.size, 2, none⟩ = some (.bool c) := by simp [World.cell?, hA1]
  clear hA1
  unfold laneV
  go_enter Try.func15, Try.ntmps15
  go_wp2_with fail
  rw [← hs, ← hw1]
  replace hs := Lib.hid hs
  replace hw1 := Lib.hid hw1
  go_loopw [5] (fun ii wr => ∃ k : Int, 0 ≤ k ∧ k ≤ 9223372036854775807 ∧ ii = .int .i64 k ∧ Hid (nextF a b c k = r) ∧ w1 = wr) (fun ii _ => 3 - (intOf ii).toNat)
  case atStart => exact ⟨s, hs0, hsM, rfl, hsr, rfl⟩
  case round =>
    obtain ⟨k, h0, hM, rfl, hk, rfl⟩ := hrel
    by_cases h3 : k < 3
    · have hc : k = 0 ∨ k = 1 ∨ k = 2 := by omega
      rcases hc with rfl | rfl | rfl
      · cases a
        · have hn : Hid (nextF false b c 1 = r) := by
            show _ = _
            rw [← hk.out]; simp [nextF]
          clear hk hsr
          go_wp2_with fail
          go_roundw
          case rel => exact ⟨1, by omega, by omega, rfl, hn, trivial⟩
          case measure => simp [intOf]
        · go_wp2_with fail
          go_ret
          exact ⟨by rw [← hk.out]; rfl, hb1⟩
      · cases b
        · have hn : Hid (nextF a false c 2 = r) := by
            show _ = _
            rw [← hk.out]; simp [nextF]
          clear hk hsr
          go_wp2_with fail
          go_roundw
          case rel => exact ⟨2, by omega, by omega, rfl, hn, trivial⟩
          case measure => simp [intOf]
        · go_wp2_with fail
          go_ret
          exact ⟨by rw [← hk.out]; simp [nextF], hb1⟩
      · cases c
        · have hn : Hid (nextF a b false 3 = r) := by
            show _ = _
            rw [← hk.out]; simp [nextF]
          clear hk hsr
          go_wp2_with fail
          go_roundw
          case rel => exact ⟨3, by omega, by omega, rfl, hn, trivial⟩
          case measure => simp [intOf]
        · go_wp2_with fail
          go_ret
          exact ⟨by rw [← hk.out]; simp [nextF], hb1⟩
    · have e3 : Hid (r = 3) := by show _ = _; rw [← hk.out]; exact next_big a b c k (by omega)
      go_wp2_with fail
      go_ret
      exact ⟨by rw [e3.out]; rfl, hb1⟩

set_option maxRecDepth 100000 in
set_option maxHeartbeats 1000000 in
theorem Len_fn (a b c : Bool) (w : World) : Calls Try.prog 16 #[laneV a b c] w fun e w' => e = .returned (.int .i64 (lenF a b c)) ∧ Below w.heap.size w w' := by
  have hb1 : Below w.heap.size w (w.alloc (.cells #[.bool a, .bool b, .bool c] 24)) := (Below.refl _ _).alloc (Nat.le_refl _) _
  unfold laneV
  obtain ⟨na, hna⟩ : ∃ n : Nat, n = a.toNat := ⟨_, rfl⟩
  obtain ⟨nb, hnb⟩ : ∃ n : Nat, n = b.toNat := ⟨_, rfl⟩
  obtain ⟨nc, hnc⟩ : ∃ n : Nat, n = c.toNat := ⟨_, rfl⟩
  have la : na ≤ 1 := by rw [hna]; cases a <;> decide
  have lb : nb ≤ 1 := by rw [hnb]; cases b <;> decide
  have lc : nc ≤ 1 := by rw [hnc]; cases c <;> decide
  unfold lenF
  rw [← hna, ← hnb, ← hnc]
  replace hna := Lib.hid hna
  replace hnb := Lib.hid hnb
  replace hnc := Lib.hid hnc
  have i0 : ∀ (a b c : Bool) w, (Instr.index 24 (.agg #[.bool a, .bool b, .bool c]) (.int .i64 0)).run Try.prog w = .ok (.bool a) w := fun _ _ _ _ => by kernel_rfl
  have i1 : ∀ (a b c : Bool) w, (Instr.index 24 (.agg #[.bool a, .bool b, .bool c]) (.int .i64 1)).run Try.prog w = .ok (.bool b) w := fun _ _ _ _ => by kernel_rfl
  have i2 : ∀ (a b c : Bool) w, (Instr.index 24 (.agg #[.bool a, .bool b, .bool c]) (.int .i64 2)).run Try.prog w = .ok (.bool c) w := fun _ _ _ _ => by kernel_rfl
  go_enter Try.func16, Try.ntmps16
  go_wp2_with fail
  go_loopw [3, 7] (fun mm ii wr => ∃ (i m : Int), ii = .int .i64 i ∧ mm = .int .i64 m ∧ Hid ((i = 0 ∧ m = 0) ∨ (i = 1 ∧ m = (na : Int)) ∨ (i = 2 ∧ m = (na : Int) + nb) ∨ (i = 3 ∧ m = (na : Int) + nb + nc)) ∧ w.alloc (.cells #[.bool a, .bool b, .bool c] 24) = wr) (fun _ ii _ => 3 - (intOf ii).toNat)
  case atStart => exact ⟨0, 0, rfl, rfl, .inl ⟨rfl, rfl⟩, rfl⟩
  case round =>
    obtain ⟨i, m, rfl, rfl, hm, rfl⟩ := hrel
    rcases hm.out with ⟨rfl, rfl⟩ | ⟨rfl, hmm⟩ | ⟨rfl, hmm⟩ | ⟨rfl, hmm⟩
    · clear hm
      cases a
      · have e : Hid (na = 0) := hna.out
        go_wp2_with fail
        go_roundw
        case rel => exact ⟨1, 0, by go_num, rfl, .inr (.inl ⟨rfl, by rw [e.out]; rfl⟩), trivial⟩
        case measure => simp [intOf]
      · have e : Hid (na = 1) := hna.out
        go_wp2_with fail
        go_roundw
        case rel => exact ⟨1, 1, by go_num, by go_num, .inr (.inl ⟨rfl, by rw [e.out]; rfl⟩), trivial⟩
        case measure => simp [intOf]
    · clear hm
      have wi : IntKind.i64.wrap (m + 1) = m + 1 := by rw [IntKind.wrap_i64]; omega
      replace hmm := Lib.hid hmm
      cases b
      · have e : Hid (nb = 0) := hnb.out
        go_wp2_with fail
        go_roundw
        case rel => exact ⟨2, m, by go_num, rfl, .inr (.inr (.inl ⟨rfl, by rw [e.out, hmm.out]; simp⟩)), trivial⟩
        case measure => simp [intOf]
      · have e : Hid (nb = 1) := hnb.out
        go_wp2_with fail
        go_roundw
        case rel => exact ⟨2, m + 1, by go_num, by go_num, .inr (.inr (.inl ⟨rfl, by rw [e.out, hmm.out]; rfl⟩)), trivial⟩
        case measure => simp [intOf]
    · clear hm
      have wi : IntKind.i64.wrap (m + 1) = m + 1 := by rw [IntKind.wrap_i64]; omega
      replace hmm := Lib.hid hmm
      cases c
      · have e : Hid (nc = 0) := hnc.out
        go_wp2_with fail
        go_roundw
        case rel => exact ⟨3, m, by go_num, rfl, .inr (.inr (.inr ⟨rfl, by rw [e.out, hmm.out]; simp⟩)), trivial⟩
        case measure => simp [intOf]
      · have e : Hid (nc = 1) := hnc.out
        go_wp2_with fail
        go_roundw
        case rel => exact ⟨3, m + 1, by go_num, by go_num, .inr (.inr (.inr ⟨rfl, by rw [e.out, hmm.out]; rfl⟩)), trivial⟩
        case measure => simp [intOf]
    · clear hm
      replace hmm := Lib.hid hmm
      go_wp2_with fail
      go_ret
      exact ⟨by rw [hmm.out]; rfl, hb1⟩

theorem Is_fn (k : Int) (w : World) : Calls Try.prog 6 #[.int .i64 k] w fun e w' => e = .returned (.bool (decide (1 ≤ k) && decide (k ≤ 13))) ∧ w = w' := by
  by_cases h1 : 1 ≤ k
  · have d1 : decide (1 ≤ k) = true := decide_eq_true h1
    go_enter Try.func6, Try.ntmps6
    go_wp2_with fail
    go_ret
    exact ⟨by simp [h1], rfl⟩
  · have d1 : decide (1 ≤ k) = false := decide_eq_false h1
    go_enter Try.func6, Try.ntmps6
    go_wp2_with fail
    go_ret
    exact ⟨by simp, rfl⟩

def readsF (k : Int) : Bool := decide (k = 6) || decide (k = 10) || decide (k = 11) || decide (k = 12)
set_option maxRecDepth 100000 in
theorem Reads_fn (k : Int) (w : World) : Calls Try.prog 10 #[.int .i64 k] w fun e w' => e = .returned (.bool (readsF k)) ∧ w = w' := by
  by_cases h6 : k = 6
  · subst h6
    go_enter Try.func10, Try.ntmps10
    go_wp2_with fail
    go_ret
    exact ⟨rfl, rfl⟩
  by_cases h10 : k = 10
  · subst h10
    go_enter Try.func10, Try.ntmps10
    go_wp2_with fail
    go_ret
    exact ⟨rfl, rfl⟩
  by_cases h11 : k = 11
  · subst h11
    go_enter Try.func10, Try.ntmps10
    go_wp2_with fail
    go_ret
    exact ⟨rfl, rfl⟩
  by_cases h12 : k = 12
  · subst h12
    go_enter Try.func10, Try.ntmps10
    go_wp2_with fail
    go_ret
    exact ⟨rfl, rfl⟩
  have e : readsF k = false := by simp [readsF, h6, h10, h11, h12]
  rw [e]
  have t6 : (k == 6) = false := beq_eq_false_iff_ne.2 h6
  have t10 : (k == 10) = false := beq_eq_false_iff_ne.2 h10
  have t11 : (k == 11) = false := beq_eq_false_iff_ne.2 h11
  have t12 : (k == 12) = false := beq_eq_false_iff_ne.2 h12
  clear h6 h10 h11 h12 e
  go_enter Try.func10, Try.ntmps10
  go_wp2_with fail
  go_ret
  exact ⟨rfl, rfl⟩

set_option maxRecDepth 100000 in
set_option maxHeartbeats 1000000 in
theorem awake_any (w : World) : Calls Try.prog 11 #[] w fun e w' => e = .returned (.bool true) ∧ Below w.heap.size w w' := by
  have h1 := Needs_3 w
  have h2 := fun W => Next_fn true false true 1 (by omega) W
  rw [show nextF true false true 1 = 2 by decide] at h2
  unfold laneV at h1 h2
  go_enter Try.func11, Try.ntmps11
  go_wp2_with fail
  go_at_call 7
  refine h1.mono ?_
  clear h1
  rintro e w1 ⟨rfl, hb1⟩
  go_wp2_with fail
  go_at_call 15
  refine (h2 _).mono ?_
  clear h2
  rintro e w2 ⟨rfl, hb2⟩
  have hbb : Below w.heap.size w w2 := hb1.trans (hb2.mono hb1.size)
  clear hb1 hb2
  go_wp2_with fail
  go_ret
  exact ⟨rfl, hbb⟩

end Go.Proofs.Ythofobldpnoclaa
