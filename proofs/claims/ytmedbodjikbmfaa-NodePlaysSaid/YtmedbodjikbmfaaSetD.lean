/-
  Contracts of package set's functions that loop: Of, First, Run.
-/
import Derived.Test.YtmedbodjikbmfaaSetC
import Derived.Test.YtmedbodjikbmfaaFirstM
namespace Go.Proofs.Ytmedbodjikbmfaa
open Go.RowKit

def memS (zs : List Int) : Nat → Bool := fun i => decide ((i : Int) ∈ zs)
theorem memS_next {zs : List Int} {k : Nat} (h : k < zs.length) : (ofN fun i => decide ((i : Int) = zs.getD k 0) || (ofN (memS (zs.take k))).testBit i) = ofN (memS (zs.take (k + 1))) := by
  refine ofN_congr fun i hi => ?_
  rw [ofN_testBit, take_more h]
  unfold memS
  rw [Bool.eq_iff_iff]
  simp [hi]
  exact Or.comm

set_option maxHeartbeats 400000 in
theorem of_fn (v : Value) (zs : List Int) (w : World) (h : IntsAt w v zs) :
    Calls Try.prog 28 #[v] w fun e w' => e = .returned (.int .u64 (ofN (memS zs))) ∧ w = w' := by
  have hat := h
  obtain ⟨⟨ao, cap, rfl, hlc, hcm, hcells⟩, hfit⟩ := h
  have hcM : cap ≤ 9223372036854775807 := by unfold maxLen at hcm; omega
  clear hfit hcm
  go_enter Try.func28, Try.ntmps28
  go_wp2_with fail
  go_loopw [3, 8] (fun s i wr => ∃ (k x : Nat), k ≤ zs.length ∧ i = .int .i64 k ∧ s = .int .u64 x ∧ Hid (x = ofN (memS (zs.take k))) ∧ w = wr) (fun _ i _ => zs.length - (intOf i).toNat)
  case atStart => exact ⟨0, 0, Nat.zero_le _, rfl, rfl, Lib.hid (ofN_eq (by decide) fun i _ => by unfold memS; simp).symm, rfl⟩
  case round =>
    obtain ⟨k, x, hk, rfl, rfl, hx, rfl⟩ := hrel
    by_cases hlt : k < zs.length
    · obtain ⟨b, off, rfl, hbw, hcell⟩ := hcells (by rintro rfl; simp at hlt)
      have hzr := hat.get k hlt
      have hn := memS_next hlt
      rw [← hx.out] at hn
      obtain ⟨z, hz⟩ : ∃ z, z = zs.getD k 0 := ⟨_, rfl⟩
      have hcw : w.cell? ⟨b, off + k, none⟩ = some (.int .i64 z) := by rw [hz]; exact hcell k (by omega)
      rw [← hz] at hzr hn
      have hxl : x < 18446744073709551616 := by rw [hx.out]; exact ofN_lt _
      have hw := fun w => with_fn x hxl z w hzr
      rw [hn] at hw
      obtain ⟨y, hy⟩ : ∃ y, y = ofN (memS (zs.take (k + 1))) := ⟨_, rfl⟩
      rw [← hy] at hw
      replace hy := Lib.hid hy
      clear hz hcell hcells hn hx hat hzr hxl
      go_wp2_with (go_at_call 30; go_must (refine (hw _).mono ?_); rintro e w' ⟨rfl, rfl⟩)
      go_roundw
      case rel => exact ⟨k + 1, y, by omega, by go_num, rfl, hy, trivial⟩
      case measure => simp [intOf]; omega
    · obtain rfl : k = zs.length := by omega
      clear hcells hat
      go_wp2_with fail
      go_ret
      exact ⟨congrArg (fun n : Nat => Ending.returned (.int .u64 n)) (by rw [hx.out, List.take_length]), rfl⟩

set_option maxHeartbeats 400000 in
theorem first_no_fn (u : Nat) (hu : u < 18446744073709551616) (n : Int) (w : World) (hn : -9223372036854775808 ≤ n ∧ n ≤ 9223372036854775807) (h : n < 0 ∨ (cntK u.testBit 64 : Int) < n) :
    Calls Try.prog 32 #[.int .u64 u, .int .i64 n] w fun e w' => e = .returned (.tuple #[.int .u64 0, .bool false]) ∧ w = w' := by
  have hl := fun w => len_fn u hu w
  generalize cntK u.testBit 64 = c at *
  clear hu
  by_cases h0 : n < 0
  · clear h
    go_enter Try.func32, Try.ntmps32
    go_wp2_with (go_at_call 17; go_must (refine (hl _).mono ?_); rintro e w' ⟨rfl, rfl⟩)
    go_ret2
    exact ⟨rfl, rfl⟩
  · have h1 : (c : Int) < n := by omega
    clear h
    go_enter Try.func32, Try.ntmps32
    go_wp2_with (go_at_call 17; go_must (refine (hl _).mono ?_); rintro e w' ⟨rfl, rfl⟩)
    go_ret2
    exact ⟨rfl, rfl⟩

def lowF (u : Nat) (n : Int) : Nat → Bool := fun i => u.testBit i && decide ((cntK u.testBit i : Int) < n)
set_option maxHeartbeats 400000 in
theorem first_yes_fn (u : Nat) (hu : u < 18446744073709551616) (n : Int) (w : World) (hn : 0 ≤ n) (h : n ≤ (cntK u.testBit 64 : Int)) :
    Calls Try.prog 32 #[.int .u64 u, .int .i64 n] w fun e w' => e = .returned (.tuple #[.int .u64 (ofN (lowF u n)), .bool true]) ∧ w = w' := by
  obtain ⟨m, rfl⟩ := Int.eq_ofNat_of_zero_le hn
  have hl := fun w => len_fn u hu w
  obtain ⟨c, hc⟩ : ∃ c, c = cntK u.testBit 64 := ⟨_, rfl⟩
  rw [← hc] at h hl
  have hc64 : c ≤ 64 := by rw [hc]; exact cntK_le _ _
  have hmc : m ≤ c := by omega
  have h2 : ¬ (c : Int) < (m : Int) := by omega
  replace hc := Lib.hid hc
  have hr0 : Hid (u = ofN (restF u 0)) := Lib.hid (restF_zero u hu).symm
  have hu' := Lib.hid hu
  clear hu
  go_enter Try.func32, Try.ntmps32
  go_wp2_with (go_at_call 17; go_must (refine (hl _).mono ?_); rintro e w' ⟨rfl, rfl⟩)
  go_loopw [6, 17] (fun s i wr => ∃ (k x : Nat), k ≤ m ∧ i = .int .i64 k ∧ s = .int .u64 x ∧ Hid (x = ofN (restF u k)) ∧ w = wr) (fun _ i _ => m - (intOf i).toNat)
  case atStart => exact ⟨0, u, Nat.zero_le _, rfl, rfl, hr0, rfl⟩
  case round =>
    obtain ⟨k, x, hk, rfl, rfl, hx, rfl⟩ := hrel
    by_cases hlt : k < m
    · obtain ⟨hp, hs⟩ := restF_step (u := u) (k := k) (by rw [← hc.out]; omega)
      have hxl : x < 18446744073709551616 := by rw [hx.out]; exact ofN_lt _
      rw [← hx.out] at hp hs
      obtain ⟨y, hy⟩ : ∃ y, y = ofN (restF u (k + 1)) := ⟨_, rfl⟩
      rw [← hy] at hs
      have e : bits .and .u64 (x : Int) ((x : Int) - 1) = (y : Int) := by
        rw [show (x : Int) - 1 = ((x - 1 : Nat) : Int) by omega, bits_and_u64_nat _ _ hxl (by omega), hs]
      have hx2 : x ≤ 18446744073709551615 := by omega
      replace hy := Lib.hid hy
      clear hs hx hxl
      go_wp2_with fail
      go_roundw
      case rel => exact ⟨k + 1, y, by omega, by go_num, rfl, hy, trivial⟩
      case measure => simp [intOf]; omega
    · obtain rfl : k = m := by omega
      have e : bits .andNot .u64 (u : Int) (x : Int) = ((ofN (lowF u (k : Int)) : Nat) : Int) := by
        rw [bits_not_nat u x hu'.out (by rw [hx.out]; exact ofN_lt _), hx.out]
        congr 1
        refine ofN_congr fun i hi => ?_
        rw [ofN_testBit]
        unfold restF lowF
        cases hb : u.testBit i with
        | false => simp
        | true => simp [hi]; rw [Bool.eq_iff_iff]; simp
      replace e := Lib.hid e
      go_wp2_with fail
      go_ret2
      exact ⟨congrArg (fun n => Ending.returned (.tuple #[.int .u64 n, .bool true])) e.out, rfl⟩

def rowAt (u k n : Nat) : Prop := ∀ i, k ≤ i → i < k + n → u.testBit i = true
def RunWas (u : Nat) (n : Int) (r : Nat) (b : Bool) : Prop :=
  (b = false ∧ r = 0 ∧ (n < 0 ∨ ∀ k : Nat, (k : Int) + n ≤ 64 → ¬ rowAt u k n.toNat)) ∨
  (b = true ∧ 0 ≤ n ∧ ∃ k : Nat, (k : Int) + n ≤ 64 ∧ rowAt u k n.toNat ∧ (∀ j, j < k → ¬ rowAt u j n.toNat) ∧ r = ofN fun i => decide (k ≤ i) && decide (i < k + n.toNat))

/-- What Run hands back. -/
def RunEnds (u : Nat) (n : Int) (w : World) (e : Ending) (w' : World) : Prop := ∃ (r : Nat) (b : Bool), e = .returned (.tuple #[.int .u64 r, .bool b]) ∧ RunWas u n r b ∧ w = w'

end Go.Proofs.Ytmedbodjikbmfaa
