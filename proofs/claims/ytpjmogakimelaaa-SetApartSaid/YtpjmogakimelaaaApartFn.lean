/-
  The contract of package set's Apart.
-/
import Derived.Test.YtpjmogakimelaaaSetE
import Derived.Test.YtpjmogakimelaaaSetApart
namespace Go.Proofs.Ytpjmogakimelaaa
open Go.RowKit

theorem or_zero {a b : Nat} : a ||| b = 0 ↔ a = 0 ∧ b = 0 := by
  constructor
  · intro h
    have hb : ∀ i, a.testBit i = false ∧ b.testBit i = false := fun i => by
      have := congrArg (fun x => x.testBit i) h
      simpa using this
    exact ⟨Nat.eq_of_testBit_eq fun i => by rw [(hb i).1]; simp, Nat.eq_of_testBit_eq fun i => by rw [(hb i).2]; simp⟩
  · rintro ⟨rfl, rfl⟩; rfl
theorem disjN_iff {a b : Nat} : ∀ n, disjN a b n = true ↔ ∀ i, i < n → (a &&& b).testBit i = false
  | 0 => by simp [disjN]
  | n + 1 => by
    simp only [disjN, Bool.and_eq_true]
    rw [disjN_iff n]
    constructor
    · rintro ⟨h1, h2⟩ i hi
      by_cases h : i = n
      · subst h; rw [Nat.testBit_and]; revert h2; cases a.testBit i <;> cases b.testBit i <;> simp
      · exact h1 i (by omega)
    · intro h
      refine ⟨fun i hi => h i (by omega), ?_⟩
      have := h n (by omega)
      rw [Nat.testBit_and] at this
      simp [this]
theorem disj_zero {a b : Nat} (ha : a < 18446744073709551616) : disjN a b 64 = true ↔ a &&& b = 0 := by
  rw [disjN_iff]
  constructor
  · intro h
    apply Nat.eq_of_testBit_eq
    intro i
    by_cases hi : i < 64
    · rw [h i hi]; simp
    · rw [Nat.testBit_and, bit_high ha (by omega)]; simp
  · intro h i _
    rw [h]; simp
/-- All nodes of the first k sets. -/
def orK (z : Nat → Nat) : Nat → Nat
  | 0 => 0
  | k + 1 => orK z k ||| z k
theorem orK_lt {z : Nat → Nat} (hz : ∀ i, z i < 18446744073709551616) : ∀ k, orK z k < 18446744073709551616
  | 0 => Nat.two_pow_pos 64
  | k + 1 => Nat.or_lt_two_pow (n := 64) (orK_lt hz k) (hz k)
theorem mid_or {z : Nat → Nat} (hz : ∀ i, z i < 18446744073709551616) (i : Nat) : ∀ k, midA z i k = true ↔ orK z k &&& z i = 0
  | 0 => by simp [midA, orK]
  | k + 1 => by
    simp only [midA, orK, Bool.and_eq_true]
    rw [mid_or hz i k, disj_zero (hz i), Nat.and_or_distrib_right, or_zero, Nat.and_comm (z i)]
theorem out_false {z : Nat → Nat} {k : Nat} (h : outA z k = false) : ∀ n, k ≤ n → outA z n = false := by
  intro n hn
  induction n with
  | zero => rw [show k = 0 by omega] at h; exact h
  | succ n ih =>
    by_cases e : k = n + 1
    · rw [← e]; exact h
    · simp only [outA]; rw [ih (by omega)]; rfl

set_option maxHeartbeats 400000 in
theorem apart_fn (v : Value) (zs : List Nat) (w : World) (h : NatsAt w v zs) :
    Calls Try.prog 14 #[v] w fun e w' => e = .returned (.bool (outA (fun i => zs.getD i 0) zs.length)) ∧ w = w' := by
  have hget := h.get
  obtain ⟨⟨ao, cap, rfl, hlc, hcm, hcells⟩, hfit⟩ := h
  have hcM : cap ≤ 9223372036854775807 := by unfold maxLen at hcm; omega
  obtain ⟨z, hz⟩ : ∃ z : Nat → Nat, z = fun i => zs.getD i 0 := ⟨_, rfl⟩
  rw [← hz]
  have hzl : ∀ i, z i < 18446744073709551616 := fun i => by rw [hz]; exact hget i
  have hcells : zs ≠ [] → ∃ b off, ao = some ⟨b, off, none⟩ ∧ b < w.heap.size ∧ ∀ i, i < zs.length → w.cell? ⟨b, off + i, none⟩ = some (.int .u64 (z i : Nat)) := by rw [hz]; exact hcells
  replace hzl := Lib.hid hzl
  clear hfit hcm hz hget
  go_enter Try.func14, Try.ntmps14
  go_wp2_with fail
  go_loopw [3, 8] (fun s i wr => ∃ (k x : Nat), k ≤ zs.length ∧ i = .int .i64 k ∧ s = .int .u64 x ∧ Hid (x = orK z k) ∧ Hid (outA z k = true) ∧ w = wr) (fun _ i _ => zs.length - (intOf i).toNat)
  case atStart => exact ⟨0, 0, Nat.zero_le _, rfl, rfl, Lib.hid rfl, Lib.hid rfl, rfl⟩
  case round =>
    obtain ⟨k, x, hk, rfl, rfl, hx, hout, rfl⟩ := hrel
    by_cases hlt : k < zs.length
    · obtain ⟨b, off, rfl, hbw, hcell⟩ := hcells (by rintro rfl; simp at hlt)
      have hcw := hcell k hlt
      have hxl : x < 18446744073709551616 := by rw [hx.out]; exact orK_lt hzl.out k
      have hand := bits_and_u64_nat x (z k) hxl (hzl.out k)
      have hor := bits_or_u64_nat x (z k) hxl (hzl.out k)
      have hmid := mid_or hzl.out k k
      rw [← hx.out] at hmid
      have hor2 : Hid (x ||| z k = orK z (k + 1)) := by show _ = _; simp only [orK]; rw [hx.out]
      by_cases h0 : x &&& z k = 0
      · have hout2 : Hid (outA z (k + 1) = true) := Lib.hid (by simp only [outA]; rw [hout.out, hmid.2 h0]; rfl)
        rw [h0] at hand
        clear h0 hmid hcell hcells hx hout
        generalize x ||| z k = y at *
        generalize z k = zk at *
        clear hxl
        go_wp2_with fail
        go_roundw
        case rel => exact ⟨k + 1, y, by omega, by go_num, rfl, hor2, hout2, trivial⟩
        case measure => simp [intOf]; omega
      · have hend : Hid (outA z zs.length = false) := Lib.hid (out_false (k := k + 1) (by
          simp only [outA]
          rw [show midA z k k = false from by
            cases h : midA z k k with
            | true => exact (h0 (hmid.1 h)).elim
            | false => rfl]
          exact Bool.and_false _) _ hlt)
        have hne : (((x &&& z k : Nat) : Int) != 0) = true := by simp; exact h0
        clear h0 hmid hcell hcells hx hout hor2 hor
        generalize x &&& z k = y at *
        generalize z k = zk at *
        clear hxl
        go_wp2_with fail
        go_ret
        exact ⟨congrArg (fun n => Ending.returned (.bool n)) hend.out.symm, rfl⟩
    · obtain rfl : k = zs.length := by omega
      clear hcells
      go_wp2_with fail
      go_ret
      exact ⟨congrArg (fun n => Ending.returned (.bool n)) hout.out.symm, rfl⟩

theorem apartSpec : ApartSpec where
  apart_ := fun v zs w h => (apart_fn v zs w h).mono fun e w' ⟨he, hw⟩ => ⟨he, by rw [hw]; exact Below.refl _ _⟩
  awake_ := awake_fn

end Go.Proofs.Ytpjmogakimelaaa
